import Derived.Test.YtenjollhlgjjdaaGreatDoorGaa
import Derived.Test.YtenjollhlgjjdaaGreatDoorGac
import Derived.Test.YtenjollhlgjjdaaGreatDoorGah
import Derived.Lib.MapLaws
import Derived.Lib.RuneCountTail
import Derived.Deep.QuietTactic
/-  -/
set_option linter.unusedSimpArgs false
set_option linter.unusedVariables false
set_option maxRecDepth 100000
set_option maxHeartbeats 40000000
namespace Go.Proofs.YtenjollhlgjjdaaGreatDoor
open Go.RowKit Go.Lib
theorem decode_vr (s : ByteArray) (pos : Nat) : Vr (Utf8.decode s pos).1 := by
 rw [decode_at]
 have k0 := (s.get! pos).toNat_lt
 have k1 := (s.get! (pos + 1)).toNat_lt
 have k2 := (s.get! (pos + 2)).toNat_lt
 have k3 := (s.get! (pos + 3)).toNat_lt
 unfold Vr
 rcases decodeN_shape (s.size - pos) (s.get! pos).toNat (s.get! (pos + 1)).toNat (s.get! (pos + 2)).toNat (s.get! (pos + 3)).toNat with ⟨c, e⟩ | ⟨c1, c2, c3, cv, e⟩ | ⟨c1, c2, c3, c4, cv, cs, e⟩ | ⟨c1, c2, c3, c4, c5, cv, cw, e⟩ | e <;> rw [e] <;> dsimp only <;> omega
def enL (l : List Nat) : List UInt8 := l.flatMap fun (r : Nat) => encodeRune (r : Int)
def tx (l : List Nat) : ByteArray := ⟨(enL l).toArray⟩
theorem alloc_at (W : World) (o : Obj) (n : Nat) (h : n = W.heap.size) : (W.alloc o).heap[n]? = some o := by
 subst h
 exact Array.getElem?_push_size ..
theorem enL_app (a b : List Nat) : enL (a ++ b) = enL a ++ enL b := by simp [enL]
theorem decode_wd (s : ByteArray) (pos : Nat) (h : pos < s.size) : pos + (Utf8.decode s pos).2 ≤ s.size := by
 rw [decode_at]
 rcases decodeN_shape (s.size - pos) (s.get! pos).toNat (s.get! (pos + 1)).toNat (s.get! (pos + 2)).toNat (s.get! (pos + 3)).toNat with ⟨c, e⟩ | ⟨c1, c2, c3, cv, e⟩ | ⟨c1, c2, c3, c4, cv, cs, e⟩ | ⟨c1, c2, c3, c4, c5, cv, cw, e⟩ | e <;> rw [e] <;> dsimp only <;> omega
theorem stL_le (s : ByteArray) : ∀ (b pos : Nat), stL s (crs s b pos) ≤ s.size
 | 0, pos => by simp [crs, stL]
 | b + 1, pos => by
   by_cases hp : pos < s.size
   ·rw [show crs s (b + 1) pos = (pos, (Utf8.decode s pos).1) :: crs s b (pos + (Utf8.decode s pos).2) by simp [crs, hp]]
    unfold stL
    split
    ·exact Nat.le_of_lt hp
    ·exact stL_le s b _
   ·rw [crs_end hp]
    exact Nat.le_refl _
theorem rblank_any (c : Nat) (w : World) : Cz 123 #[.int .i32 (c : Int)] w fun e w' => e = .returned (.bool (blk c)) ∧ w' = w := by
 by_cases h9 : c = 9
 ·subst h9
  rw [show blk 9 = true from rfl]
  go_enter Tryz.func123, Tryz.ntmps123
  go_wp2
  go_ret
  exact ⟨rfl, rfl⟩
 ·have i9 : ¬ (c : Int) = 9 := by omega
  by_cases h10 : c = 10
  ·subst h10
   rw [show blk 10 = true from rfl]
   go_enter Tryz.func123, Tryz.ntmps123
   go_wp2
   go_ret
   exact ⟨rfl, rfl⟩
  ·have i10 : ¬ (c : Int) = 10 := by omega
   by_cases h13 : c = 13
   ·subst h13
    rw [show blk 13 = true from rfl]
    go_enter Tryz.func123, Tryz.ntmps123
    go_wp2
    go_ret
    exact ⟨rfl, rfl⟩
   ·have i13 : ¬ (c : Int) = 13 := by omega
    by_cases h32 : c = 32
    ·subst h32
     rw [show blk 32 = true from rfl]
     go_enter Tryz.func123, Tryz.ntmps123
     go_wp2
     go_ret
     exact ⟨rfl, rfl⟩
    ·have i32 : ¬ (c : Int) = 32 := by omega
     by_cases h160 : c = 160
     ·subst h160
      rw [show blk 160 = true from rfl]
      go_enter Tryz.func123, Tryz.ntmps123
      go_wp2
      go_ret
      exact ⟨rfl, rfl⟩
     ·have i160 : ¬ (c : Int) = 160 := by omega
      by_cases h12288 : c = 12288
      ·subst h12288
       rw [show blk 12288 = true from rfl]
       go_enter Tryz.func123, Tryz.ntmps123
       go_wp2
       go_ret
       exact ⟨rfl, rfl⟩
      ·have i12288 : ¬ (c : Int) = 12288 := by omega
       have e : blk c = false := by simp [blk, *]
       have e1 : ((c : Int) == 9 || (c : Int) == 10 || (c : Int) == 13 || (c : Int) == 32 || (c : Int) == 160 || (c : Int) == 12288) = false := by simp [i9, i10, i13, i32, i160, i12288]
       rw [e]
       go_enter Tryz.func123, Tryz.ntmps123
       go_wp2
       go_ret
       exact ⟨rfl, rfl⟩
theorem addr_add (g k : Nat) : (⟨g, 0, none⟩ : Addr).add k = ⟨g, k, none⟩ := by
 unfold Addr.add
 split
 ·simp_all
 ·simp
theorem owns_lower {w : World} {B C : Nat} {e : TypeId} {sz : Nat} {v : Value} {n : Nat} {xs : List Value} (h : w.ownsRowF B e sz v n xs) (hC : C ≤ B) : w.ownsRowF C e sz v n xs := by
 refine ⟨h.1, ?_⟩
 rcases h.2 with g | ⟨g, cap, cur, fz, h1, h2, h3⟩
 ·exact .inl g
 ·exact .inr ⟨g, cap, cur, fz, h1, by omega, h3⟩
def wr (c : Nat) : Nat := (encodeRune (c : Int)).length
def wl (l : List Nat) : Nat := (enL l).length
def VL (l : List Nat) : Prop := ∀ c ∈ l, Vr c
theorem wl_nil : wl [] = 0 := rfl
theorem wl_cons (c : Nat) (l : List Nat) : wl (c :: l) = wr c + wl l := by simp [wl, wr, enL]
theorem wl_app (a b : List Nat) : wl (a ++ b) = wl a + wl b := by simp [wl, enL]
theorem wr_pos (c : Nat) : 1 ≤ wr c := by
 have := (runeCells_le (c : Int)).1
 rw [runeCells_length] at this
 exact this
theorem tx_size (l : List Nat) : (tx l).size = wl l := by simp [tx, wl, ByteArray.size]
theorem tx_data (l : List Nat) : (tx l).data.toList = enL l := by simp [tx]
theorem tx_inj {s : ByteArray} {l : List Nat} (h : s.data.toList = enL l) : s = tx l := by
 apply ByteArray.ext
 apply Array.toList_inj.1
 rw [tx_data, h]
theorem byte_of {n : Nat} (h : n < 256) : n.toUInt8.toNat = n := by
 show (UInt8.ofNat n).toNat = n
 rw [UInt8.toNat_ofNat']
 omega
theorem enc1 {c : Nat} (h : c ≤ 127) : encodeRune (c : Int) = [c.toUInt8] := by
 unfold encodeRune
 rw [encodeRuneZ_one (by omega) (by omega)]
 simp
theorem enc2 {c : Nat} (h0 : 128 ≤ c) (h1 : c ≤ 2047) : encodeRune (c : Int) = [(192 + c / 64).toUInt8, (128 + c % 64).toUInt8] := by
 unfold encodeRune
 rw [encodeRuneZ_two (by omega) (by omega)]
 simp only [List.map_cons, List.map_nil]
 congr 2 <;> omega
theorem enc3 {c : Nat} (h : (2048 ≤ c ∧ c < 55296) ∨ (57343 < c ∧ c ≤ 65535)) : encodeRune (c : Int) = [(224 + c / 4096).toUInt8, (128 + c / 64 % 64).toUInt8, (128 + c % 64).toUInt8] := by
 unfold encodeRune
 rw [encodeRuneZ_three (by omega)]
 simp only [List.map_cons, List.map_nil]
 congr 2
theorem enc4 {c : Nat} (h0 : 65536 ≤ c) (h1 : c ≤ 1114111) : encodeRune (c : Int) = [(240 + c / 262144).toUInt8, (128 + c / 4096 % 64).toUInt8, (128 + c / 64 % 64).toUInt8, (128 + c % 64).toUInt8] := by
 unfold encodeRune
 rw [encodeRuneZ_four (by omega) (by omega)]
 simp only [List.map_cons, List.map_nil]
 congr 2
theorem decodeL_enc {c : Nat} (hc : Vr c) (t : List UInt8) : decodeL (encodeRune (c : Int) ++ t) = (c, wr c) := by
 unfold wr
 rw [decodeL_N]
 unfold Vr at hc
 by_cases h1 : c ≤ 127
 ·rw [enc1 h1]
  simp only [List.cons_append, List.nil_append, List.getD_cons_zero, List.length_cons, List.length_nil]
  rw [byte_of (by omega)]
  unfold decodeN
  rw [if_pos (by omega)]
 ·by_cases h2 : c ≤ 2047
  ·rw [enc2 (by omega) h2]
   simp only [List.cons_append, List.nil_append, List.getD_cons_zero, List.getD_cons_succ, List.length_cons, List.length_nil]
   rw [byte_of (by omega), byte_of (by omega)]
   unfold decodeN
   rw [if_neg (by omega), if_pos ⟨by omega, by omega, by omega⟩, if_pos (by omega)]
   congr 1
   omega
  ·by_cases h3 : c ≤ 65535
   ·rw [enc3 (by omega)]
    simp only [List.cons_append, List.nil_append, List.getD_cons_zero, List.getD_cons_succ, List.length_cons, List.length_nil]
    rw [byte_of (by omega), byte_of (by omega), byte_of (by omega)]
    unfold decodeN
    have e : (224 + c / 4096) % 16 * 4096 + (128 + c / 64 % 64) % 64 * 64 + (128 + c % 64) % 64 = c := by omega
    rw [if_neg (by omega), if_neg (by omega), if_pos ⟨by omega, ⟨by omega, by omega⟩, by omega, by omega⟩, e, if_pos ⟨by omega, by omega⟩]
   ·rw [enc4 (by omega) (by omega)]
    simp only [List.cons_append, List.nil_append, List.getD_cons_zero, List.getD_cons_succ, List.length_cons, List.length_nil]
    rw [byte_of (by omega), byte_of (by omega), byte_of (by omega), byte_of (by omega)]
    unfold decodeN
    have e : (240 + c / 262144) % 8 * 262144 + (128 + c / 4096 % 64) % 64 * 4096 + (128 + c / 64 % 64) % 64 * 64 + (128 + c % 64) % 64 = c := by omega
    rw [if_neg (by omega), if_neg (by omega), if_neg (by omega), if_pos ⟨by omega, ⟨by omega, by omega⟩, ⟨by omega, by omega⟩, by omega, by omega⟩, e, if_pos ⟨by omega, by omega⟩]
theorem decode_tx (p : List Nat) {c : Nat} (hc : Vr c) (q : List Nat) : Utf8.decode (tx (p ++ c :: q)) (wl p) = (c, wr c) := by
 rw [← decodeL_drop, tx_data, enL_app]
 unfold wl
 rw [List.drop_left, show c :: q = [c] ++ q from rfl, enL_app, show enL [c] = encodeRune (c : Int) by simp [enL]]
 exact decodeL_enc hc _
def pl : Nat → List Nat → List (Nat × Nat)
 | _, [] => []
 | o, c :: r => (o, c) :: pl (o + wr c) r
theorem crs_tx : ∀ (q p : List Nat) (b : Nat), VL q → wl q ≤ b → crs (tx (p ++ q)) b (wl p) = pl (wl p) q
 | [], p, b, _, _ => by
   rw [crs_end (by rw [tx_size, List.append_nil]; exact Nat.lt_irrefl _)]
   rfl
 | c :: q, p, b, h, hb => by
   have hc := h c (List.mem_cons_self ..)
   have hw := wr_pos c
   rw [wl_cons] at hb
   have hp : wl p < (tx (p ++ c :: q)).size := by rw [tx_size, wl_app, wl_cons]; omega
   obtain ⟨b', rfl, e⟩ := crs_go (b := b) hp (by rw [tx_size, wl_app, wl_cons]; omega)
   rw [e, decode_tx p hc q]
   have := crs_tx q (p ++ [c]) b' (fun x hx => h x (List.mem_cons_of_mem _ hx)) (by omega)
   rw [wl_app, wl_cons, wl_nil, Nat.add_zero, List.append_assoc] at this
   rw [show p ++ c :: q = p ++ ([c] ++ q) from rfl, this]
   rfl
theorem crs_tx0 {q : List Nat} (h : VL q) : crs (tx q) (tx q).size 0 = pl 0 q := by
 have := crs_tx q [] (tx q).size h (by rw [tx_size]; exact Nat.le_refl _)
 exact this
def Sfx (s : ByteArray) (q : List Nat) (a : Nat) : Prop := ∃ p, s = tx (p ++ q) ∧ a = wl p ∧ VL q
theorem sfx_all {q : List Nat} (h : VL q) : Sfx (tx q) q 0 := ⟨[], rfl, rfl, h⟩
theorem Sfx.size {s : ByteArray} {q : List Nat} {a : Nat} (h : Sfx s q a) : s.size = a + wl q := by
 obtain ⟨p, rfl, rfl, _⟩ := h
 rw [tx_size, wl_app]
theorem Sfx.drop {s : ByteArray} {m q : List Nat} {a : Nat} (h : Sfx s (m ++ q) a) : Sfx s q (a + wl m) := by
 obtain ⟨p, rfl, rfl, hv⟩ := h
 exact ⟨p ++ m, by rw [List.append_assoc], by rw [wl_app], fun c hc => hv c (List.mem_append_right _ hc)⟩
theorem Sfx.vl {s : ByteArray} {q : List Nat} {a : Nat} (h : Sfx s q a) : VL q := by obtain ⟨p, _, _, hv⟩ := h; exact hv
theorem Sfx.extract {s : ByteArray} {m q : List Nat} {a : Nat} (h : Sfx s (m ++ q) a) : s.extract a (a + wl m) = tx m := by
 obtain ⟨p, rfl, rfl, hv⟩ := h
 apply tx_inj
 rw [ByteArray.data_extract, Array.toList_extract, tx_data, enL_app, enL_app]
 simp [wl, List.extract, List.take_append, List.drop_append]
theorem Sfx.rest {s : ByteArray} {q : List Nat} {a : Nat} (h : Sfx s q a) : s.extract a s.size = tx q := by
 have : Sfx s (q ++ []) a := by rw [List.append_nil]; exact h
 rw [h.size]
 exact this.extract
theorem Sfx.pos {s : ByteArray} {q : List Nat} {a b : Nat} (h : Sfx s q a) (g : Sfx s q b) : a = b := by
 have := h.size
 have := g.size
 omega
theorem Sfx.decode {s : ByteArray} {c : Nat} {q : List Nat} {a : Nat} (h : Sfx s (c :: q) a) : Utf8.decode s a = (c, wr c) := by
 obtain ⟨p, rfl, rfl, hv⟩ := h
 exact decode_tx p (hv c (List.mem_cons_self ..)) q
theorem Sfx.tail {s : ByteArray} {c : Nat} {q : List Nat} {a : Nat} (h : Sfx s (c :: q) a) : Sfx s q (a + wr c) := by
 have : Sfx s ([c] ++ q) a := h
 have := this.drop
 rwa [wl_cons, wl_nil, Nat.add_zero] at this
theorem pre_take {X p : ByteArray} (h : preB X p = true) : X.data.toList.take p.size = p.data.toList := by
 unfold preB at h
 simp only [Bool.and_eq_true, decide_eq_true_eq, beq_iff_eq] at h
 have := h.2
 rw [ByteArray.toList_eq, ByteArray.toList_eq, ByteArray.data_extract, Array.toList_extract] at this
 simpa using this
theorem valid_from (s : ByteArray) : ∀ (b pos : Nat), pos ≤ s.size → s.size ≤ pos + b → stL s (crs s b pos) = s.size → ∃ l, VL l ∧ s.data.toList.drop pos = enL l := by
 intro b
 induction b with
 | zero =>
   intro pos h1 h2 _
   refine ⟨[], fun c hc => by simp at hc, ?_⟩
   rw [List.drop_eq_nil_of_le (by rw [Array.length_toList]; exact h2)]
   rfl
 | succ b ih =>
   intro pos h1 h2 h3
   by_cases hp : pos < s.size
   ·have hw := wid_pos s pos hp
    have hwp := decode_wd s pos hp
    rw [show crs s (b + 1) pos = (pos, (Utf8.decode s pos).1) :: crs s b (pos + (Utf8.decode s pos).2) by simp [crs, hp]] at h3
    unfold stL at h3
    have hne : s.data.toList.drop pos ≠ [] := by
     intro g
     have := congrArg List.length g
     rw [List.length_drop, Array.length_toList] at this
     have : s.data.size - pos = 0 := this
     have : s.data.size = s.size := rfl
     omega
    have hdl := decodeL_drop s pos
    by_cases hbad : (Utf8.decode s pos).1 = 65533 ∧ preB (s.extract pos s.size) rpB = false
    ·rw [if_pos hbad] at h3
     omega
    ·rw [if_neg hbad] at h3
     obtain ⟨l, hl, e⟩ := ih (pos + (Utf8.decode s pos).2) hwp (by omega) h3
     have hv : ¬ ((decodeL (s.data.toList.drop pos)).1 = 65533 ∧ (decodeL (s.data.toList.drop pos)).2 = 1) := by
      rw [hdl]
      intro g
      have hpre : preB (s.extract pos s.size) rpB = true := by
       cases hx : preB (s.extract pos s.size) rpB with
       | true => rfl
       | false => exact absurd ⟨g.1, hx⟩ hbad
      have ht := pre_take hpre
      have hx : (s.extract pos s.size).data.toList = s.data.toList.drop pos := by
       rw [ByteArray.data_extract, Array.toList_extract]
       show List.extract _ _ _ = _
       rw [List.extract, List.take_of_length_le]
       rw [List.length_drop, Array.length_toList]
       exact Nat.le_refl _
      rw [hx] at ht
      have e3 : s.data.toList.drop pos = encodeRune ((65533 : Nat) : Int) ++ (s.data.toList.drop pos).drop 3 := by
       have : encodeRune ((65533 : Nat) : Int) = rpB.data.toList := rfl
       rw [this, ← ht]
       exact (List.take_append_drop 3 _).symm
      rw [e3, decodeL_enc (by unfold Vr; omega)] at hdl
      rw [← hdl] at g
      exact absurd g.2 (by decide)
     have he := encode_decode _ hne hv
     rw [hdl] at he
     refine ⟨(Utf8.decode s pos).1 :: l, ?_, ?_⟩
     ·intro c hc
      rcases List.mem_cons.1 hc with rfl | hc
      ·exact decode_vr s pos
      ·exact hl c hc
     ·rw [show enL ((Utf8.decode s pos).1 :: l) = encodeRune ((Utf8.decode s pos).1 : Int) ++ enL l by simp [enL], he, ← e, ← List.drop_drop, List.take_append_drop]
   ·refine ⟨[], fun c hc => by simp at hc, ?_⟩
    rw [List.drop_eq_nil_of_le (by rw [Array.length_toList]; show s.size ≤ pos; omega)]
    rfl
theorem valid_tx {s : ByteArray} (h : ¬ stR s < s.size) : ∃ l, VL l ∧ s = tx l := by
 have h2 := stL_le s s.size 0
 unfold stR at h
 obtain ⟨l, hl, e⟩ := valid_from s s.size 0 (Nat.zero_le _) (by omega) (by omega)
 rw [List.drop_zero] at e
 exact ⟨l, hl, tx_inj e⟩
theorem stR_tx {l : List Nat} (h : VL l) : ¬ stR (tx l) < (tx l).size := by
 have key : ∀ (q : List Nat) (o : Nat), Sfx (tx l) q o → stL (tx l) (pl o q) = (tx l).size := by
  intro q
  induction q with
  | nil => intro o _; rfl
  | cons c q ih =>
    intro o ho
    rw [pl]
    unfold stL
    rw [if_neg]
    ·exact ih _ ho.tail
    ·rintro ⟨rfl, hp⟩
     rw [ho.rest] at hp
     have e : (tx (65533 :: q)).extract 0 3 = tx [65533] := by
      have : Sfx (tx (65533 :: q)) ([65533] ++ q) 0 := sfx_all ho.vl
      have := this.extract
      rwa [show 0 + wl [65533] = 3 from rfl] at this
     unfold preB at hp
     rw [show rpB.size = 3 from rfl, e, show tx [65533] = rpB from rfl] at hp
     have hz : 3 ≤ (tx (65533 :: q)).size := by rw [tx_size, wl_cons, show wr 65533 = 3 from rfl]; omega
     rw [decide_eq_true hz] at hp
     simp at hp
 unfold stR
 rw [crs_tx0 h, key l 0 (sfx_all h)]
 omega
structure Chr where
 r : Nat
 a : Nat
 z : Nat
 b : Bool
def chr1 (s : ByteArray) (x : Nat × Nat) : Chr := if x.2 = 65533 ∧ preB (s.extract x.1 s.size) rpB = false then ⟨x.2, x.1, x.1 + 1, true⟩ else ⟨x.2, x.1, x.1 + wr x.2, false⟩
def chrL (s : ByteArray) : List Chr := (chs s).map (chr1 s)
def chCs (l : List Chr) : List Value := l.flatMap fun c => [.int .i32 (c.r : Int), .int .i64 (c.a : Int), .int .i64 (c.z : Int), .bool c.b]
theorem chCs_snoc (l : List Chr) (c : Chr) : chCs (l ++ [c]) = chCs l ++ [.int .i32 (c.r : Int), .int .i64 (c.a : Int), .int .i64 (c.z : Int), .bool c.b] := by simp [chCs]
theorem chr_info : ∃ i z, Tryz.prog.info? 160 = some i ∧ i.zero = some z ∧ i.size = 4 ∧ i.bytes = 32 ∧ z.cells.size = 4 := ⟨_, _, rfl, rfl, rfl, rfl, rfl⟩
def ChrAt (w : World) (B : Nat) (v : Value) (l : List Chr) : Prop := (∃ ao cap, v = .slice ao l.length cap) ∧ w.ownsRowF B 160 4 v l.length (chCs l)
theorem chCs_get : ∀ (l : List Chr) (i : Nat) (t : Chr), l[i]? = some t → (chCs l)[i * 4]? = some (.int .i32 (t.r : Int)) ∧ (chCs l)[i * 4 + 1]? = some (.int .i64 (t.a : Int)) ∧ (chCs l)[i * 4 + 2]? = some (.int .i64 (t.z : Int)) ∧ (chCs l)[i * 4 + 3]? = some (.bool t.b)
 | [], i, t, h => by simp at h
 | x :: l, 0, t, h => by
   simp only [List.getElem?_cons_zero, Option.some.injEq] at h
   subst h
   simp [chCs]
 | x :: l, i + 1, t, h => by
   have := chCs_get l i t (by simpa using h)
   have e : ∀ k, (chCs (x :: l))[k + 4]? = (chCs l)[k]? := fun k => by simp [chCs]
   rw [show (i + 1) * 4 = i * 4 + 4 by omega, show i * 4 + 4 + 1 = i * 4 + 1 + 4 by omega, show i * 4 + 4 + 2 = i * 4 + 2 + 4 by omega, show i * 4 + 4 + 3 = i * 4 + 3 + 4 by omega, e, e, e, e]
   exact this
theorem chr_cells /- 160 -/ {w : World} {B : Nat} {v : Value} {l : List Chr} (h : ChrAt w B v l) {i : Nat} {t : Chr} (ht : l[i]? = some t) :
  ∃ g cap, v = .slice (some ⟨g, 0, none⟩) l.length cap ∧ B ≤ g ∧ g < w.heap.size ∧ w.cell? ⟨g, i * 4, none⟩ = some (.int .i32 (t.r : Int)) ∧ w.cell? ⟨g, i * 4 + 1, none⟩ = some (.int .i64 (t.a : Int)) ∧ w.cell? ⟨g, i * 4 + 2, none⟩ = some (.int .i64 (t.z : Int)) ∧ w.cell? ⟨g, i * 4 + 3, none⟩ = some (.bool t.b) := by
 obtain ⟨c0, c1, c2, c3⟩ := chCs_get l i t ht
 have hi : i < l.length := (List.getElem?_eq_some_iff.1 ht).1
 rcases h.2.2 with ⟨_, h0⟩ | ⟨g, cap, cur, fz, hv, hB, hg, _⟩
 ·omega
 ·subst hv
  exact ⟨g, cap, rfl, hB, (Array.getElem?_eq_some_iff.1 hg).1, (by have := h.2.cells (g := g) rfl _ _ c0; rwa [addr_add] at this), (by have := h.2.cells (g := g) rfl _ _ c1; rwa [addr_add] at this), (by have := h.2.cells (g := g) rfl _ _ c2; rwa [addr_add] at this), (by have := h.2.cells (g := g) rfl _ _ c3; rwa [addr_add] at this)⟩
theorem encode_tx {c : Nat} (hc : Vr c) : Utf8.encode (c : Int) = tx [c] := by
 apply tx_inj
 rw [show enL [c] = encodeRune (c : Int) by simp [enL]]
 have hv : Utf8.valid (c : Int) = true := by
  unfold Vr at hc
  simp only [Utf8.valid, Bool.and_eq_true, Bool.or_eq_true, decide_eq_true_eq]
  omega
 unfold Utf8.encode
 simp only [hv, if_true, Int.toNat_natCast]
 unfold Vr at hc
 by_cases h1 : c ≤ 127
 ·rw [enc1 h1, if_pos (by omega)]
 ·by_cases h2 : c ≤ 2047
  ·rw [enc2 (by omega) h2, if_neg (by omega), if_pos (by omega)]
  ·by_cases h3 : c ≤ 65535
   ·rw [enc3 (by omega), if_neg (by omega), if_neg (by omega), if_pos (by omega)]
   ·rw [enc4 (by omega) (by omega), if_neg (by omega), if_neg (by omega), if_neg (by omega)]
theorem wr_le (c : Nat) : wr c ≤ 4 := by
 have := (runeCells_le (c : Int)).2
 rw [runeCells_length] at this
 exact this
theorem ext3 (s : ByteArray) (i : Nat) (h : i + 3 ≤ s.size) : (s.extract i s.size).extract 0 3 = s.extract i (i + 3) := by
 apply ByteArray.ext
 simp only [ByteArray.data_extract, Array.extract_extract, Nat.add_zero]
 rw [show min (i + 3) s.size = i + 3 by omega]
theorem list_inj {x y : ByteArray} (h : x.toList = y.toList) : x = y := by
 rw [ByteArray.toList_eq, ByteArray.toList_eq] at h
 exact ByteArray.ext (Array.toList_inj.1 h)
theorem pre_three (s : ByteArray) (i : Nat) (hi : i ≤ s.size) : preB (s.extract i s.size) rpB = decide (i + 3 ≤ s.size ∧ s.extract i (i + 3) = rpB) := by
 have hz : (s.extract i s.size).size = s.size - i := by rw [ByteArray.size_extract]; omega
 unfold preB
 rw [show rpB.size = 3 from rfl, hz]
 by_cases h : i + 3 ≤ s.size
 ·rw [ext3 s i h, decide_eq_true (by omega : 3 ≤ s.size - i), Bool.true_and]
  by_cases h2 : s.extract i (i + 3) = rpB
  ·rw [decide_eq_true ⟨h, h2⟩, h2]
   simp
  ·rw [decide_eq_false (fun g => h2 g.2), Bool.eq_false_iff]
   intro g
   exact h2 (list_inj (by simpa using g))
 ·rw [decide_eq_false (by omega : ¬ 3 ≤ s.size - i), decide_eq_false (fun g => h g.1)]
  rfl
theorem new_cells (W : World) (t : TypeId) (a b c d : Value) : ∀ (j : Nat) (u : Value), [a, b, c, d][j]? = some u → (W.alloc (.cells #[a, b, c, d] t)).cell? ((⟨W.heap.size, 0, none⟩ : Addr).add j) = some u := by
 intro j u hj
 rw [addr_add, blk_cells (alloc_at W _ _ rfl)]
 simpa using hj
theorem one4 (x y z : Int) (b : Bool) : ∀ u ∈ [Value.int .i32 x, .int .i64 y, .int .i64 z, .bool b], u.oneCell' = true := by
 intro u hu
 simp only [List.mem_cons, List.not_mem_nil, or_false] at hu
 rcases hu with rfl | rfl | rfl | rfl <;> rfl
theorem chars_any (s : ByteArray) (hs : s.size ≤ 268435456) (w : World) :
  Cz 95 #[.string s] w fun e w' => ∃ v, e = .returned v ∧ Hid (ChrAt w' w.heap.size v (chrL s) ∧ Below w.heap.size w w') := by
 obtain ⟨Z, hZ⟩ : ∃ Z, Z = chrL s := ⟨_, rfl⟩
 have HZ : Hid (Z = [] ++ (crs s s.size 0).map (chr1 s)) := hZ
 rw [← hZ]
 clear hZ
 obtain ⟨i0, z0, hi, hz0, hz1, hz2, hz3⟩ := chr_info
 have HI0 : Hid (Tryz.prog.info? 160 = some i0 ∧ i0.zero = some z0 ∧ i0.size = 4 ∧ i0.bytes = 32 ∧ z0.cells.size = 4) := ⟨hi, hz0, hz1, hz2, hz3⟩
 clear hi hz0 hz1 hz2 hz3
 go_enter Tryz.func95, Tryz.ntmps95
 go_wp2
 go_loopw [3] (fun r3 wr_ => ∃ (pos b : Nat) (acc : List Chr) (ao : Option Addr) (cap : Nat), r3 = .slice ao acc.length cap ∧ Hid (wr_.heap[w.heap.size]? = some (.stringIter s pos) ∧ Z = acc ++ (crs s b pos).map (chr1 s) ∧ s.size ≤ pos + b ∧ pos ≤ s.size ∧ acc.length ≤ pos ∧ wr_.ownsRowF (w.heap.size + 1) 160 4 (.slice ao acc.length cap) acc.length (chCs acc) ∧ Below w.heap.size w wr_)) (fun _ wr_ => s.size - wr_.iterPos w.heap.size)
 case atStart => exact ⟨0, s.size, [], none, 0, rfl, alloc_at _ _ _ rfl, HZ.out, by omega, by omega, by simp, ⟨rfl, .inl ⟨rfl, rfl⟩⟩, (Below.refl _ w).alloc (Nat.le_refl _) _⟩
 case round =>
  obtain ⟨pos, b, acc, ao, cap, rfl, HI⟩ := hrel
  obtain ⟨w1, rfl⟩ : ∃ w1, w1 = wr := ⟨_, rfl⟩
  clear HZ
  by_cases hp : pos < s.size
  ·have hnx : ∀ ty, (Instr.next (.pointer (some ⟨w.heap.size, 0, none⟩)) true ty).run Tryz.prog w1 = _ := fun ty => run_next_any_at w1 w.heap.size s pos ty HI.out.1 hp
   have hwd := wid_pos s pos hp
   have hwp := decode_wd s pos hp
   obtain ⟨b', hb', hcr⟩ := crs_go hp HI.out.2.2.1
   have hvr := decode_vr s pos
   have hdl := decode_le s pos
   obtain ⟨c, hc⟩ : ∃ c, c = (Utf8.decode s pos).1 := ⟨_, rfl⟩
   obtain ⟨wd, hw⟩ : ∃ c, c = (Utf8.decode s pos).2 := ⟨_, rfl⟩
   rw [← hc, ← hw] at hnx hcr
   rw [← hc] at hvr hdl
   rw [← hw] at hwd hwp
   have hcv : ∀ W : World, (convert 21 9 (.int .i32 (c : Int))).run Tryz.prog W = .ok (.string (tx [c])) W := fun W => by
    rw [← encode_tx hvr]
    exact run_convert_int_string W _ _ _ _ rfl Tryz.underlying9
   have hts : (tx [c]).size = wr c := by rw [tx_size, wl_cons, wl_nil, Nat.add_zero]
   have hw4 := wr_le c
   have hw1 := wr_pos c
   obtain ⟨X, hX⟩ : ∃ X, X = tx [c] := ⟨_, rfl⟩
   rw [← hX] at hcv hts
   have HXr : Hid (c = 65533 → wr c = 3) := fun g => by rw [g]; rfl
   have hmp : w1.iterPos w.heap.size = pos := by simp only [World.iterPos, HI.out.1]
   obtain ⟨W2, hW2⟩ : ∃ W2, W2 = w1.iterAt w.heap.size s (pos + wd) := ⟨_, rfl⟩
   have HJ : Hid (W2.heap[w.heap.size]? = some (.stringIter s (pos + wd)) ∧ Z = acc ++ (chr1 s (pos, c) :: (crs s b' (pos + wd)).map (chr1 s)) ∧ s.size ≤ pos + wd + b' ∧ acc.length ≤ pos ∧ W2.ownsRowF (w.heap.size + 1) 160 4 (.slice ao acc.length cap) acc.length (chCs acc) ∧ Below w.heap.size w W2) := by
    obtain ⟨j1, j2, j3, j4, j5, j6, j7⟩ := HI.out
    rw [hW2]
    refine ⟨iterAt_heap _ _ _ _ _ j1, by rw [j2, hcr]; rfl, by omega, j5, ⟨j6.1, ?_⟩, below_iterAt j7 (Nat.le_refl _) _ _⟩
    rcases j6.2 with g | ⟨g, cap', cur, fz, h1, h2, h3, h4⟩
    ·exact .inl g
    ·exact .inr ⟨g, cap', cur, fz, h1, h2, (iterAt_other _ _ _ _ _ (by omega)).trans h3, h4⟩
   rw [← hW2] at hnx
   obtain ⟨L, hL⟩ : ∃ L, L = acc.length := ⟨_, rfl⟩
   have HL : Hid (L = acc.length) := hL
   have hLp : L ≤ 268435456 := by have := HI.out.2.2.2.2.1; omega
   rw [← hL] at HJ ⊢
   clear HI hc hw hcr hb' hvr hW2 hL hX
   by_cases h3 : c = 65533
   ·have hw3 := HXr.out h3
    have hp3 := pre_three s pos (Nat.le_of_lt hp)
    rw [hw3] at hts
    by_cases hok : pos + 3 ≤ s.size ∧ s.extract pos (pos + 3) = rpB
    ·rw [decide_eq_true hok] at hp3
     have HE : Hid (chr1 s (pos, c) = ⟨c, pos, pos + 3, false⟩) := by
      show chr1 s (pos, c) = _
      unfold chr1
      rw [if_neg (by rw [hp3]; simp), hw3]
     have hsl : ∀ W : World, (Instr.slice 9 (.string s) (some (.int .i64 (pos : Int))) (some (.int .i64 ((pos : Int) + 3))) none).run Tryz.prog W = .ok (.string ⟨#[239, 191, 189]⟩) W := fun W => by
      rw [show ((pos : Int) + 3) = ((pos + 3 : Nat) : Int) by omega, run_slice_string W 9 s _ _ _ _ Tryz.underlying9 (by omega) (by omega) (by omega)]
      show Result.ok (Value.string (s.extract pos (pos + 3))) W = _
      rw [hok.2]
      rfl
     have i1 : ¬ (s.size : Int) < (pos : Int) + 3 := by omega
     have hb3 : ((c : Int) == 65533) = true := by rw [h3]; rfl
     clear hp3 hok h3 HXr
     obtain ⟨hi, hz0, hz1, hz2, hz3⟩ := HI0.out
     have hm1 : L + 1 ≤ maxLen := by unfold maxLen; omega
     have hm2 : (L + 1) * 32 ≤ 140737488355328 := by omega
     have HM3 : Hid (∀ o, w.heap.size + 1 ≤ (W2.alloc o).heap.size) := fun o => by have := (Array.getElem?_eq_some_iff.1 HJ.out.1).1; simp; omega
     go_wp2_with (at_builtin; refine wpList_append_ownF _ rfl _ _ 157 rfl (w.heap.size + 1) 160 i0 z0 4 32 Tryz.underlying157 hi hz0 hz1 hz2 hz3 (by decide) _ L (chCs acc) rfl (HJ.out.2.2.2.2.1.alloc _) ⟨W2.heap.size, 0, none⟩ 1 1 [.int .i32 (c : Int), .int .i64 (pos : Int), .int .i64 ((pos : Int) + 3), .bool false] rfl rfl (new_cells _ _ _ _ _ _) (one4 _ _ _ _) hm1 hm2 (HM3.out _) ?_)
     intro v' w4 hown' hgrow _
     obtain ⟨ao', cap', rfl⟩ : ∃ ao' cap', v' = .slice ao' (L + 1) cap' := by
      rcases hown'.2 with ⟨_, h0⟩ | ⟨g, cap', cur, fz, hv, _⟩
      ·omega
      ·exact ⟨_, cap', hv⟩
     have hlt2 : w.heap.size < W2.heap.size := (Array.getElem?_eq_some_iff.1 HJ.out.1).1
     have hnb : ∀ k, (Value.slice ao L cap).ownBlock = some k → w.heap.size + 1 ≤ k := fun k hk => (HJ.out.2.2.2.2.1.lt k hk).1
     have e1 : L = acc.length := HL.out
     have e2 : (acc ++ [(⟨c, pos, pos + 3, false⟩ : Chr)]).length = L + 1 := by simp [e1]
     have HK : Hid (w4.heap[w.heap.size]? = some (.stringIter s (pos + wd)) ∧ Z = (acc ++ [(⟨c, pos, pos + 3, false⟩ : Chr)]) ++ (crs s b' (pos + wd)).map (chr1 s) ∧ s.size ≤ pos + wd + b' ∧ pos + wd ≤ s.size ∧ (acc ++ [(⟨c, pos, pos + 3, false⟩ : Chr)]).length ≤ pos + wd ∧ w4.ownsRowF (w.heap.size + 1) 160 4 (.slice ao' (acc ++ [(⟨c, pos, pos + 3, false⟩ : Chr)]).length cap') (acc ++ [(⟨c, pos, pos + 3, false⟩ : Chr)]).length (chCs (acc ++ [(⟨c, pos, pos + 3, false⟩ : Chr)])) ∧ Below w.heap.size w w4) := by
      refine ⟨?_, by rw [HJ.out.2.1, HE.out, List.append_assoc]; rfl, HJ.out.2.2.1, hwp, by rw [e2]; have := HJ.out.2.2.2.1; omega, ?_, ?_⟩
      ·rw [hgrow.block w.heap.size (by simp; omega) (fun e => by have := hnb _ e.symm; omega), alloc_old W2 _ w.heap.size hlt2]
       exact HJ.out.1
      ·rw [e2, chCs_snoc]
       exact hown'
      ·exact (HJ.out.2.2.2.2.2.alloc (by omega) _).grown hgrow (by simp; omega) (fun k hk => by have := hnb k hk; omega)
     have HV : Hid ((Value.slice ao' (L + 1) cap') = .slice ao' (acc ++ [(⟨c, pos, pos + 3, false⟩ : Chr)]).length cap') := by rw [e2]; exact rfl
     clear hown' hgrow e2 e1 hnb hlt2 HJ HE
     go_wp2
     go_roundw
     case rel => exact ⟨pos + wd, b', acc ++ [(⟨c, pos, pos + 3, false⟩ : Chr)], ao', cap', HV.out, HK⟩
     case measure => have e1 : w4.iterPos w.heap.size = pos + wd := by simp only [World.iterPos, HK.out.1]
                     omega
    ·rw [decide_eq_false hok] at hp3
     have HE : Hid (chr1 s (pos, c) = ⟨c, pos, pos + 1, true⟩) := by
      show chr1 s (pos, c) = _
      unfold chr1
      rw [if_pos ⟨h3, hp3⟩]
     by_cases hle : pos + 3 ≤ s.size
     ·have hne : ¬ s.extract pos (pos + 3) = rpB := fun g => hok ⟨hle, g⟩
      obtain ⟨Y, hY⟩ : ∃ Y, Y = s.extract pos (pos + 3) := ⟨_, rfl⟩
      have hsl : ∀ W : World, (Instr.slice 9 (.string s) (some (.int .i64 (pos : Int))) (some (.int .i64 ((pos : Int) + 3))) none).run Tryz.prog W = .ok (.string Y) W := fun W => by
       rw [show ((pos : Int) + 3) = ((pos + 3 : Nat) : Int) by omega, run_slice_string W 9 s _ _ _ _ Tryz.underlying9 (by omega) (by omega) (by omega)]
       show Result.ok (Value.string (s.extract pos (pos + 3))) W = _
       rw [hY]
      rw [← hY] at hne
      have i1 : ¬ (s.size : Int) < (pos : Int) + 3 := by omega
      have hb3 : ((c : Int) == 65533) = true := by rw [h3]; rfl
      clear hp3 hok hY h3 HXr
      have hnl : (Y.toList == [239, 191, 189]) = false := by
       rw [Bool.eq_false_iff]
       intro g
       apply hne
       apply list_inj
       rw [show rpB.toList = [239, 191, 189] by rw [ByteArray.toList_eq]; rfl]
       simpa using g
      have hnl2 : ¬ Y.toList = [239, 191, 189] := by simpa using hnl
      clear hne
      obtain ⟨hi, hz0, hz1, hz2, hz3⟩ := HI0.out
      have hm1 : L + 1 ≤ maxLen := by unfold maxLen; omega
      have hm2 : (L + 1) * 32 ≤ 140737488355328 := by omega
      have HM3 : Hid (∀ o, w.heap.size + 1 ≤ (W2.alloc o).heap.size) := fun o => by have := (Array.getElem?_eq_some_iff.1 HJ.out.1).1; simp; omega
      go_wp2_with (at_builtin; refine wpList_append_ownF _ rfl _ _ 157 rfl (w.heap.size + 1) 160 i0 z0 4 32 Tryz.underlying157 hi hz0 hz1 hz2 hz3 (by decide) _ L (chCs acc) rfl (HJ.out.2.2.2.2.1.alloc _) ⟨W2.heap.size, 0, none⟩ 1 1 [.int .i32 (c : Int), .int .i64 (pos : Int), .int .i64 ((pos : Int) + 1), .bool true] rfl rfl (new_cells _ _ _ _ _ _) (one4 _ _ _ _) hm1 hm2 (HM3.out _) ?_)
      intro v' w4 hown' hgrow _
      obtain ⟨ao', cap', rfl⟩ : ∃ ao' cap', v' = .slice ao' (L + 1) cap' := by
       rcases hown'.2 with ⟨_, h0⟩ | ⟨g, cap', cur, fz, hv, _⟩
       ·omega
       ·exact ⟨_, cap', hv⟩
      have hlt2 : w.heap.size < W2.heap.size := (Array.getElem?_eq_some_iff.1 HJ.out.1).1
      have hnb : ∀ k, (Value.slice ao L cap).ownBlock = some k → w.heap.size + 1 ≤ k := fun k hk => (HJ.out.2.2.2.2.1.lt k hk).1
      have e1 : L = acc.length := HL.out
      have e2 : (acc ++ [(⟨c, pos, pos + 1, true⟩ : Chr)]).length = L + 1 := by simp [e1]
      have HK : Hid (w4.heap[w.heap.size]? = some (.stringIter s (pos + wd)) ∧ Z = (acc ++ [(⟨c, pos, pos + 1, true⟩ : Chr)]) ++ (crs s b' (pos + wd)).map (chr1 s) ∧ s.size ≤ pos + wd + b' ∧ pos + wd ≤ s.size ∧ (acc ++ [(⟨c, pos, pos + 1, true⟩ : Chr)]).length ≤ pos + wd ∧ w4.ownsRowF (w.heap.size + 1) 160 4 (.slice ao' (acc ++ [(⟨c, pos, pos + 1, true⟩ : Chr)]).length cap') (acc ++ [(⟨c, pos, pos + 1, true⟩ : Chr)]).length (chCs (acc ++ [(⟨c, pos, pos + 1, true⟩ : Chr)])) ∧ Below w.heap.size w w4) := by
       refine ⟨?_, by rw [HJ.out.2.1, HE.out, List.append_assoc]; rfl, HJ.out.2.2.1, hwp, by rw [e2]; have := HJ.out.2.2.2.1; omega, ?_, ?_⟩
       ·rw [hgrow.block w.heap.size (by simp; omega) (fun e => by have := hnb _ e.symm; omega), alloc_old W2 _ w.heap.size hlt2]
        exact HJ.out.1
       ·rw [e2, chCs_snoc]
        exact hown'
       ·exact (HJ.out.2.2.2.2.2.alloc (by omega) _).grown hgrow (by simp; omega) (fun k hk => by have := hnb k hk; omega)
      have HV : Hid ((Value.slice ao' (L + 1) cap') = .slice ao' (acc ++ [(⟨c, pos, pos + 1, true⟩ : Chr)]).length cap') := by rw [e2]; exact rfl
      clear hown' hgrow e2 e1 hnb hlt2 HJ HE
      go_wp2
      go_roundw
      case rel => exact ⟨pos + wd, b', acc ++ [(⟨c, pos, pos + 1, true⟩ : Chr)], ao', cap', HV.out, HK⟩
      case measure => have e1 : w4.iterPos w.heap.size = pos + wd := by simp only [World.iterPos, HK.out.1]
                      omega
     ·have i1 : (s.size : Int) < (pos : Int) + 3 := by omega
      have hb3 : ((c : Int) == 65533) = true := by rw [h3]; rfl
      clear hp3 hok h3 HXr
      obtain ⟨hi, hz0, hz1, hz2, hz3⟩ := HI0.out
      have hm1 : L + 1 ≤ maxLen := by unfold maxLen; omega
      have hm2 : (L + 1) * 32 ≤ 140737488355328 := by omega
      have HM3 : Hid (∀ o, w.heap.size + 1 ≤ (W2.alloc o).heap.size) := fun o => by have := (Array.getElem?_eq_some_iff.1 HJ.out.1).1; simp; omega
      go_wp2_with (at_builtin; refine wpList_append_ownF _ rfl _ _ 157 rfl (w.heap.size + 1) 160 i0 z0 4 32 Tryz.underlying157 hi hz0 hz1 hz2 hz3 (by decide) _ L (chCs acc) rfl (HJ.out.2.2.2.2.1.alloc _) ⟨W2.heap.size, 0, none⟩ 1 1 [.int .i32 (c : Int), .int .i64 (pos : Int), .int .i64 ((pos : Int) + 1), .bool true] rfl rfl (new_cells _ _ _ _ _ _) (one4 _ _ _ _) hm1 hm2 (HM3.out _) ?_)
      intro v' w4 hown' hgrow _
      obtain ⟨ao', cap', rfl⟩ : ∃ ao' cap', v' = .slice ao' (L + 1) cap' := by
       rcases hown'.2 with ⟨_, h0⟩ | ⟨g, cap', cur, fz, hv, _⟩
       ·omega
       ·exact ⟨_, cap', hv⟩
      have hlt2 : w.heap.size < W2.heap.size := (Array.getElem?_eq_some_iff.1 HJ.out.1).1
      have hnb : ∀ k, (Value.slice ao L cap).ownBlock = some k → w.heap.size + 1 ≤ k := fun k hk => (HJ.out.2.2.2.2.1.lt k hk).1
      have e1 : L = acc.length := HL.out
      have e2 : (acc ++ [(⟨c, pos, pos + 1, true⟩ : Chr)]).length = L + 1 := by simp [e1]
      have HK : Hid (w4.heap[w.heap.size]? = some (.stringIter s (pos + wd)) ∧ Z = (acc ++ [(⟨c, pos, pos + 1, true⟩ : Chr)]) ++ (crs s b' (pos + wd)).map (chr1 s) ∧ s.size ≤ pos + wd + b' ∧ pos + wd ≤ s.size ∧ (acc ++ [(⟨c, pos, pos + 1, true⟩ : Chr)]).length ≤ pos + wd ∧ w4.ownsRowF (w.heap.size + 1) 160 4 (.slice ao' (acc ++ [(⟨c, pos, pos + 1, true⟩ : Chr)]).length cap') (acc ++ [(⟨c, pos, pos + 1, true⟩ : Chr)]).length (chCs (acc ++ [(⟨c, pos, pos + 1, true⟩ : Chr)])) ∧ Below w.heap.size w w4) := by
       refine ⟨?_, by rw [HJ.out.2.1, HE.out, List.append_assoc]; rfl, HJ.out.2.2.1, hwp, by rw [e2]; have := HJ.out.2.2.2.1; omega, ?_, ?_⟩
       ·rw [hgrow.block w.heap.size (by simp; omega) (fun e => by have := hnb _ e.symm; omega), alloc_old W2 _ w.heap.size hlt2]
        exact HJ.out.1
       ·rw [e2, chCs_snoc]
        exact hown'
       ·exact (HJ.out.2.2.2.2.2.alloc (by omega) _).grown hgrow (by simp; omega) (fun k hk => by have := hnb k hk; omega)
      have HV : Hid ((Value.slice ao' (L + 1) cap') = .slice ao' (acc ++ [(⟨c, pos, pos + 1, true⟩ : Chr)]).length cap') := by rw [e2]; exact rfl
      clear hown' hgrow e2 e1 hnb hlt2 HJ HE
      go_wp2
      go_roundw
      case rel => exact ⟨pos + wd, b', acc ++ [(⟨c, pos, pos + 1, true⟩ : Chr)], ao', cap', HV.out, HK⟩
      case measure => have e1 : w4.iterPos w.heap.size = pos + wd := by simp only [World.iterPos, HK.out.1]
                      omega
   ·have HE : Hid (chr1 s (pos, c) = ⟨c, pos, pos + wr c, false⟩) := by
     show chr1 s (pos, c) = _
     unfold chr1
     rw [if_neg (fun g => h3 g.1)]
    have i3 : ¬ (c : Int) = 65533 := by omega
    obtain ⟨R, hR⟩ : ∃ R, R = wr c := ⟨_, rfl⟩
    rw [← hR] at hts HE hw4 hw1
    clear HXr h3 hR
    obtain ⟨hi, hz0, hz1, hz2, hz3⟩ := HI0.out
    have hm1 : L + 1 ≤ maxLen := by unfold maxLen; omega
    have hm2 : (L + 1) * 32 ≤ 140737488355328 := by omega
    have HM3 : Hid (∀ o, w.heap.size + 1 ≤ (W2.alloc o).heap.size) := fun o => by have := (Array.getElem?_eq_some_iff.1 HJ.out.1).1; simp; omega
    go_wp2_with (at_builtin; refine wpList_append_ownF _ rfl _ _ 157 rfl (w.heap.size + 1) 160 i0 z0 4 32 Tryz.underlying157 hi hz0 hz1 hz2 hz3 (by decide) _ L (chCs acc) rfl (HJ.out.2.2.2.2.1.alloc _) ⟨W2.heap.size, 0, none⟩ 1 1 [.int .i32 (c : Int), .int .i64 (pos : Int), .int .i64 ((pos : Int) + (R : Int)), .bool false] rfl rfl (new_cells _ _ _ _ _ _) (one4 _ _ _ _) hm1 hm2 (HM3.out _) ?_)
    intro v' w4 hown' hgrow _
    obtain ⟨ao', cap', rfl⟩ : ∃ ao' cap', v' = .slice ao' (L + 1) cap' := by
     rcases hown'.2 with ⟨_, h0⟩ | ⟨g, cap', cur, fz, hv, _⟩
     ·omega
     ·exact ⟨_, cap', hv⟩
    have hlt2 : w.heap.size < W2.heap.size := (Array.getElem?_eq_some_iff.1 HJ.out.1).1
    have hnb : ∀ k, (Value.slice ao L cap).ownBlock = some k → w.heap.size + 1 ≤ k := fun k hk => (HJ.out.2.2.2.2.1.lt k hk).1
    have e1 : L = acc.length := HL.out
    have e2 : (acc ++ [(⟨c, pos, pos + R, false⟩ : Chr)]).length = L + 1 := by simp [e1]
    have HK : Hid (w4.heap[w.heap.size]? = some (.stringIter s (pos + wd)) ∧ Z = (acc ++ [(⟨c, pos, pos + R, false⟩ : Chr)]) ++ (crs s b' (pos + wd)).map (chr1 s) ∧ s.size ≤ pos + wd + b' ∧ pos + wd ≤ s.size ∧ (acc ++ [(⟨c, pos, pos + R, false⟩ : Chr)]).length ≤ pos + wd ∧ w4.ownsRowF (w.heap.size + 1) 160 4 (.slice ao' (acc ++ [(⟨c, pos, pos + R, false⟩ : Chr)]).length cap') (acc ++ [(⟨c, pos, pos + R, false⟩ : Chr)]).length (chCs (acc ++ [(⟨c, pos, pos + R, false⟩ : Chr)])) ∧ Below w.heap.size w w4) := by
     refine ⟨?_, by rw [HJ.out.2.1, HE.out, List.append_assoc]; rfl, HJ.out.2.2.1, hwp, by rw [e2]; have := HJ.out.2.2.2.1; omega, ?_, ?_⟩
     ·rw [hgrow.block w.heap.size (by simp; omega) (fun e => by have := hnb _ e.symm; omega), alloc_old W2 _ w.heap.size hlt2]
      exact HJ.out.1
     ·rw [e2, chCs_snoc]
      exact hown'
     ·exact (HJ.out.2.2.2.2.2.alloc (by omega) _).grown hgrow (by simp; omega) (fun k hk => by have := hnb k hk; omega)
    have HV : Hid ((Value.slice ao' (L + 1) cap') = .slice ao' (acc ++ [(⟨c, pos, pos + R, false⟩ : Chr)]).length cap') := by rw [e2]; exact rfl
    clear hown' hgrow e2 e1 hnb hlt2 HJ HE
    go_wp2
    go_roundw
    case rel => exact ⟨pos + wd, b', acc ++ [(⟨c, pos, pos + R, false⟩ : Chr)], ao', cap', HV.out, HK⟩
    case measure => have e1 : w4.iterPos w.heap.size = pos + wd := by simp only [World.iterPos, HK.out.1]
                    omega
  ·have hnx : ∀ ty, (Instr.next (.pointer (some ⟨w.heap.size, 0, none⟩)) true ty).run Tryz.prog w1 = _ := fun ty => run_next_end_at w1 w.heap.size s pos ty HI.out.1 hp
   have HE : Hid (Z = acc) := by
    show Z = acc
    rw [HI.out.2.1, crs_end hp, List.map_nil, List.append_nil]
   have HF : Hid (w1.ownsRowF (w.heap.size + 1) 160 4 (.slice ao acc.length cap) acc.length (chCs acc) ∧ Below w.heap.size w w1) := ⟨HI.out.2.2.2.2.2.1, HI.out.2.2.2.2.2.2⟩
   clear HI
   go_wp2
   go_ret
   rw [show Z = acc from HE.out]
   exact ⟨_, rfl, ⟨⟨ao, cap, rfl⟩, owns_lower HF.out.1 (Nat.le_succ _)⟩, HF.out.2⟩
def badL : List Chr → Int
 | [] => -1
 | c :: l => if c.b = true then (c.a : Int) else badL l
theorem badL_st (s : ByteArray) : ∀ (l : List (Nat × Nat)), (∀ x ∈ l, x.1 < s.size) → badL (l.map (chr1 s)) = if stL s l < s.size then (stL s l : Int) else -1
 | [], _ => by simp [badL, stL]
 | (i, c) :: l, h => by
   have hi := h (i, c) (List.mem_cons_self ..)
   rw [List.map_cons, badL, stL]
   unfold chr1
   by_cases hb : c = 65533 ∧ preB (s.extract i s.size) rpB = false
   ·rw [if_pos hb, if_pos rfl, if_pos hb, if_pos hi]
   ·rw [if_neg hb, if_neg (by simp), if_neg hb]
    exact badL_st s l (fun x hx => h x (List.mem_cons_of_mem _ hx))
theorem crs_lt (s : ByteArray) : ∀ (b pos : Nat), ∀ x ∈ crs s b pos, x.1 < s.size
 | 0, pos, x, hx => by simp [crs] at hx
 | b + 1, pos, x, hx => by
   by_cases hp : pos < s.size
   ·rw [show crs s (b + 1) pos = (pos, (Utf8.decode s pos).1) :: crs s b (pos + (Utf8.decode s pos).2) by simp [crs, hp]] at hx
    rcases List.mem_cons.1 hx with rfl | hx
    ·exact hp
    ·exact crs_lt s b _ x hx
   ·rw [crs_end hp] at hx
    simp at hx
theorem crs_len (s : ByteArray) : ∀ (b pos : Nat), pos ≤ s.size → (crs s b pos).length ≤ s.size - pos
 | 0, pos, _ => by simp [crs]
 | b + 1, pos, h => by
   by_cases hp : pos < s.size
   ·rw [show crs s (b + 1) pos = (pos, (Utf8.decode s pos).1) :: crs s b (pos + (Utf8.decode s pos).2) by simp [crs, hp], List.length_cons]
    have := wid_pos s pos hp
    have := decode_wd s pos hp
    have := crs_len s b (pos + (Utf8.decode s pos).2) (by omega)
    omega
   ·rw [crs_end hp]
    simp
theorem chrL_len (s : ByteArray) : (chrL s).length ≤ s.size := by
 have := crs_len s s.size 0 (Nat.zero_le _)
 unfold chrL chs
 rw [List.length_map]
 omega
def badR (s : ByteArray) : Int := if stR s < s.size then (stR s : Int) else -1
theorem badR_eq (s : ByteArray) : badL (chrL s) = badR s := badL_st s _ (crs_lt s _ _)
theorem badL_drop {l : List Chr} {i : Nat} {t : Chr} (h : l[i]? = some t) : badL (l.drop i) = if t.b = true then (t.a : Int) else badL (l.drop (i + 1)) := by
 have hi := (List.getElem?_eq_some_iff.1 h).1
 have : l.drop i = t :: l.drop (i + 1) := by
  rw [← (List.getElem?_eq_some_iff.1 h).2]
  exact List.drop_eq_getElem_cons hi
 rw [this, badL]
theorem bad_any (s : ByteArray) (hs : s.size ≤ 268435456) (w : World) : Cz 62 #[.string s] w fun e w' => e = .returned (.int .i64 (badR s)) ∧ Oz w w' := by
 have HC : Hid (Cz 95 #[.string s] w fun e w' => ∃ v, e = .returned v ∧ Hid (ChrAt w' w.heap.size v (chrL s) ∧ Below w.heap.size w w')) := chars_any s hs w
 have hlen := chrL_len s
 rw [← badR_eq]
 obtain ⟨l, hl⟩ : ∃ l, l = chrL s := ⟨_, rfl⟩
 rw [← hl] at HC hlen ⊢
 clear hl
 obtain ⟨Z, hZ⟩ : ∃ Z, Z = badL l := ⟨_, rfl⟩
 have HZ : Hid (Z = badL l) := hZ
 rw [← hZ]
 clear hZ
 go_enter Tryz.func62, Tryz.ntmps62
 go_wp2_with fail
 refine (show Cz 95 _ _ _ from HC.out).mono ?_
 rintro e w1 ⟨v, rfl, g⟩
 have O1 : Hid (Oz w w1) := below_only g.out.2
 have T1 : Hid (ChrAt w1 w.heap.size v l) := g.out.1
 obtain ⟨ao, cap, rfl⟩ := g.out.1.1
 clear HC g
 go_wp2
 go_loopw [4] (fun r4 wr => ∃ k : Nat, k ≤ l.length ∧ r4 = .int .i64 (k : Int) ∧ wr = w1 ∧ Hid (Z = badL (l.drop k))) (fun r4 _ => l.length - uOf r4)
 case atStart => exact ⟨0, Nat.zero_le _, rfl, rfl, HZ.out⟩
 case round =>
  obtain ⟨k, hk, rfl, rfl, HI⟩ := hrel
  clear HZ
  by_cases hlt : k < l.length
  ·obtain ⟨t, ht⟩ : ∃ t, t = l[k]'hlt := ⟨_, rfl⟩
   have ht2 : l[k]? = some t := by rw [ht]; exact List.getElem?_eq_getElem _
   obtain ⟨g, cap', hv, _, _, c0, c1, c2, c3⟩ := chr_cells T1.out ht2
   injection hv with hv1 hv2 hv3
   subst hv1
   have hd := badL_drop ht2
   obtain ⟨tr, ta, tz, tb⟩ := t
   dsimp only at c0 c1 c2 c3 hd
   have k0 : (0 : Int) ≤ (k : Int) := Int.natCast_nonneg _
   obtain ⟨L, hL⟩ : ∃ L, L = l.length := ⟨_, rfl⟩
   rw [← hL]
   have k1 : (k : Int) < (L : Int) := by omega
   cases tb with
   | true =>
     have HE : Hid (Z = (ta : Int)) := by
      show Z = _
      rw [HI.out, hd, if_pos rfl]
     clear HI hd ht ht2 T1 hL hlen hv2 hv3
     go_wp2
     go_ret
     exact ⟨by rw [show Z = _ from HE.out]; rfl, O1.out⟩
   | false =>
     have HE : Hid (Z = badL (l.drop (k + 1))) := by
      show Z = _
      rw [HI.out, hd, if_neg (by simp)]
     have HLL : Hid (L = l.length) := hL
     have hl4 : L ≤ 268435456 := by omega
     clear HI hd ht ht2 hL hlen hv2 hv3
     go_wp2
     go_roundw
     case rel => exact ⟨k + 1, by omega, by go_num, by simp, HE⟩
     case measure => simp only [uOf]; omega
  ·have HE : Hid (Z = -1) := by
    show Z = _
    rw [HI.out, List.drop_eq_nil_of_le (by omega)]
    rfl
   have k1 : ¬ (k : Int) < (l.length : Int) := by omega
   clear HI
   go_wp2
   go_ret
   exact ⟨by rw [show Z = _ from HE.out]; rfl, O1.out⟩
def rs (c : Nat) : Nat := if 48 ≤ c ∧ c ≤ 57 then 48 else if 1632 ≤ c ∧ c ≤ 1641 then 1632 else if 65296 ≤ c ∧ c ≤ 65305 then 65296 else 0
theorem rscript_any (c : Nat) (w : World) : Cz 125 #[.int .i32 (c : Int)] w fun e w' => e = .returned (.int .i32 (rs c : Int)) ∧ w' = w := by
 unfold rs
 by_cases h1 : 48 ≤ c ∧ c ≤ 57
 ·rw [if_pos h1]
  have i1 : (48 : Int) ≤ (c : Int) := by omega
  have i2 : (c : Int) ≤ 57 := by omega
  go_enter Tryz.func125, Tryz.ntmps125
  go_wp2
  go_ret
  exact ⟨rfl, rfl⟩
 ·rw [if_neg h1]
  have j1 : (decide ((48 : Int) ≤ (c : Int)) && decide ((c : Int) ≤ 57)) = false := by
   rw [Bool.eq_false_iff]; simp only [ne_eq, Bool.and_eq_true, decide_eq_true_eq]; omega
  by_cases h2 : 1632 ≤ c ∧ c ≤ 1641
  ·rw [if_pos h2]
   have i1 : (1632 : Int) ≤ (c : Int) := by omega
   have i2 : (c : Int) ≤ 1641 := by omega
   have i3 : (48 : Int) ≤ (c : Int) := by omega
   have i4 : decide ((c : Int) ≤ 57) = false := decide_eq_false (by omega)
   clear j1 h1 h2
   go_enter Tryz.func125, Tryz.ntmps125
   go_wp2
   go_ret
   exact ⟨rfl, rfl⟩
  ·rw [if_neg h2]
   by_cases h3 : 65296 ≤ c ∧ c ≤ 65305
   ·rw [if_pos h3]
    have i1 : (65296 : Int) ≤ (c : Int) := by omega
    have i2 : (c : Int) ≤ 65305 := by omega
    have i3 : (48 : Int) ≤ (c : Int) := by omega
    have i4 : decide ((c : Int) ≤ 57) = false := decide_eq_false (by omega)
    have i5 : (1632 : Int) ≤ (c : Int) := by omega
    have i6 : decide ((c : Int) ≤ 1641) = false := decide_eq_false (by omega)
    clear j1 h1 h2 h3
    go_enter Tryz.func125, Tryz.ntmps125
    go_wp2
    go_ret
    exact ⟨rfl, rfl⟩
   ·rw [if_neg h3]
    have key : ∀ x y : Int, ¬ (x ≤ (c : Int) ∧ (c : Int) ≤ y) → (decide (x ≤ (c : Int)) = false) ∨ (decide (x ≤ (c : Int)) = true ∧ decide ((c : Int) ≤ y) = false) := fun x y g => by
     by_cases hx : x ≤ (c : Int)
     ·exact .inr ⟨decide_eq_true hx, decide_eq_false (fun hy => g ⟨hx, hy⟩)⟩
     ·exact .inl (decide_eq_false hx)
    have k1 := key 48 57 (by omega)
    have k2 := key 1632 1641 (by omega)
    have k3 := key 65296 65305 (by omega)
    clear j1 h1 h2 h3 key
    rcases k1 with k1 | ⟨k1, k1'⟩ <;> rcases k2 with k2 | ⟨k2, k2'⟩ <;> rcases k3 with k3 | ⟨k3, k3'⟩
    all_goals
     go_enter Tryz.func125, Tryz.ntmps125
     go_wp2
     go_ret
     exact ⟨rfl, rfl⟩
def RdC (w : World) (v : Value) (l : List Chr) : Prop := ∃ ao cap, v = .slice ao l.length cap ∧ l.length ≤ cap ∧ ∀ i t, l[i]? = some t → ∃ g o, ao = some ⟨g, o, none⟩ ∧ g < w.heap.size ∧ w.cell? ⟨g, o + i * 4, none⟩ = some (.int .i32 (t.r : Int)) ∧ w.cell? ⟨g, o + i * 4 + 1, none⟩ = some (.int .i64 (t.a : Int)) ∧ w.cell? ⟨g, o + i * 4 + 2, none⟩ = some (.int .i64 (t.z : Int)) ∧ w.cell? ⟨g, o + i * 4 + 3, none⟩ = some (.bool t.b)
theorem RdC.only {w w' : World} {v : Value} {l : List Chr} (h : RdC w v l) (o : Oz w w') : RdC w' v l := by
 obtain ⟨ao, cap, e, hc, h⟩ := h
 refine ⟨ao, cap, e, hc, fun i t ht => ?_⟩
 obtain ⟨g, oo, e1, hg, c0, c1, c2, c3⟩ := h i t ht
 exact ⟨g, oo, e1, Nat.lt_of_lt_of_le hg o.size, o.cell c0 (fun x => x), o.cell c1 (fun x => x), o.cell c2 (fun x => x), o.cell c3 (fun x => x)⟩
theorem rdc_chr /- 160 -/ {w : World} {B : Nat} {v : Value} {l : List Chr} (h : ChrAt w B v l) : RdC w v l := by
 obtain ⟨ao, cap, rfl⟩ := h.1
 have hc : l.length ≤ cap := by
  rcases h.2.2 with ⟨e, e2⟩ | ⟨g, cap', cur, fz, hv, _, _, _, hcap, _⟩
  ·injection e with e1 e3 e4
   omega
  ·injection hv with e1 e3 e4
   omega
 refine ⟨ao, cap, rfl, hc, fun i t ht => ?_⟩
 obtain ⟨g, cap', hv, _, hg, c0, c1, c2, c3⟩ := chr_cells h ht
 injection hv with e1 e2 e3
 exact ⟨g, 0, e1, hg, by rw [Nat.zero_add]; exact c0, by rw [Nat.zero_add]; exact c1, by rw [Nat.zero_add]; exact c2, by rw [Nat.zero_add]; exact c3⟩
def rnum (nt : Nat) : List Nat → Nat → Nat × Bool
 | [], n => (n, true)
 | c :: l, n => if rs c ≠ nt then (0, false) else rnum nt l (min (10 * n + (c - rs c)) 1152921504606846977)
def rminus (l : List Nat) : Bool := decide (l.head? = some 45 ∨ l.head? = some 8722)
def rrest (l : List Nat) : List Nat := if rminus l then l.tail else l
def rnumM (mn : Bool) : List Nat → Nat × Bool × Bool
 | [] => (0, mn, false)
 | c :: r => if rs c = 0 then (0, mn, false) else ((rnum (rs c) (c :: r) 0).1, mn, (rnum (rs c) (c :: r) 0).2)
def rnumL (l : List Nat) : Nat × Bool × Bool := rnumM (rminus l) (rrest l)
theorem rs_digit {c : Nat} (h : rs c ≠ 0) : rs c ≤ c ∧ c - rs c ≤ 9 := by
 unfold rs at h ⊢
 split
 ·omega
 ·split
  ·omega
  ·split
   ·omega
   ·rename_i h1 h2 h3
    simp [h1, h2, h3] at h
def rnV (x : Nat × Bool × Bool) : Value := .tuple #[.int .u64 (x.1 : Int), .bool x.2.1, .bool x.2.2]
theorem chr_rest (g o k c : Nat) (hk : 1 ≤ k) (hc : k ≤ c) : ∃ a2 c2, (∀ w, (Instr.slice 157 (.slice (some ⟨g, o, none⟩) k c) (some (.int .i64 1)) none none).run Tryz.prog w = .ok (.slice a2 (k - 1) c2) w) ∧ (a2 = some ⟨g, o + 4, none⟩ ∨ k = 1) ∧ k - 1 ≤ c2 := by
 have k0 : (1 : Int) ≤ (k : Int) := by omega
 have kc : (k : Int) ≤ (c : Int) := by omega
 have e1 : ((k : Int) - 1).toNat = k - 1 := by omega
 have e2 : ((c : Int) - 1).toNat = c - 1 := by omega
 by_cases e : c = 1
 ·have ek : k = 1 := by omega
  subst e ek
  exact ⟨some ⟨g, o, none⟩, 0, fun w => by go_simp, .inr rfl, by omega⟩
 ·have ec : ¬ c - 1 = 0 := by omega
  refine ⟨some ⟨g, o + 4, none⟩, c - 1, fun w => ?_, .inl rfl, by omega⟩
  go_simp
theorem rnumber_any (l : List Chr) (hl : l.length ≤ 268435456) (v : Value) (w : World) (h : RdC w v l) :
  Cz 101 #[v] w fun e w' => e = .returned (rnV (rnumL (l.map (·.r)))) ∧ Oz w w' := by
 obtain ⟨ao, cap, rfl, hcap, fL⟩ := h
 obtain ⟨Z, hZ⟩ : ∃ Z, Z = rnumL (l.map (·.r)) := ⟨_, rfl⟩
 rw [← hZ]
 have O0 : Hid (Oz w w) := Only.refl _ _
 by_cases hmin : rminus (l.map (·.r)) = true
 ·obtain ⟨t1, L, hlL⟩ : ∃ t1 L, l = t1 :: L := by
   cases l with
   | nil => simp [rminus] at hmin
   | cons x y => exact ⟨x, y, rfl⟩
  have HZ : Hid (Z = rnumM true (L.map (·.r))) := by
   show Z = _
   rw [hZ]
   unfold rnumL rrest
   rw [if_pos hmin, hmin, hlL]
   rfl
  have hsign : t1.r = 45 ∨ t1.r = 8722 := by
   rw [hlL] at hmin
   simpa [rminus] using hmin
  clear hZ hmin
  subst hlL
  obtain ⟨g1, o1, rfl, hg1, z0, _, _, _⟩ := fL 0 t1 rfl
  simp only [Nat.zero_mul, Nat.add_zero] at z0
  obtain ⟨K, hK⟩ : ∃ K, K = (t1 :: L).length := ⟨_, rfl⟩
  have hKL : K - 1 = L.length := by rw [hK]; simp
  rw [← hK] at hcap hl ⊢
  have hK1 : 1 ≤ K := by rw [hK]; simp
  obtain ⟨ao, cap2, hsl, hao, hcap2⟩ := chr_rest g1 o1 K cap hK1 hcap
  rw [hKL] at hsl hcap2
  have fL2 : ∀ i t, L[i]? = some t → ∃ g o, ao = some ⟨g, o, none⟩ ∧ g < w.heap.size ∧ w.cell? ⟨g, o + i * 4, none⟩ = some (.int .i32 (t.r : Int)) ∧ w.cell? ⟨g, o + i * 4 + 1, none⟩ = some (.int .i64 (t.a : Int)) ∧ w.cell? ⟨g, o + i * 4 + 2, none⟩ = some (.int .i64 (t.z : Int)) ∧ w.cell? ⟨g, o + i * 4 + 3, none⟩ = some (.bool t.b) := fun i t ht => by
   have hi : i < L.length := (List.getElem?_eq_some_iff.1 ht).1
   obtain ⟨g, o, e, hg, c⟩ := fL (i + 1) t (by simpa using ht)
   injection e with e
   injection e with e1 e2
   subst e1
   subst e2
   refine ⟨g1, o1 + 4, by rcases hao with h | h <;> first | exact h | omega, hg, ?_⟩
   rw [show o1 + 4 + i * 4 = o1 + (i + 1) * 4 by omega]
   exact c
  have hl2 : L.length ≤ 268435456 := by omega
  have hN0 : (0 : Int) < (K : Int) := by omega
  clear fL hao hK hKL
  obtain ⟨fL, hl3⟩ : (∀ i t, L[i]? = some t → ∃ g o, ao = some ⟨g, o, none⟩ ∧ g < w.heap.size ∧ w.cell? ⟨g, o + i * 4, none⟩ = some (.int .i32 (t.r : Int)) ∧ w.cell? ⟨g, o + i * 4 + 1, none⟩ = some (.int .i64 (t.a : Int)) ∧ w.cell? ⟨g, o + i * 4 + 2, none⟩ = some (.int .i64 (t.z : Int)) ∧ w.cell? ⟨g, o + i * 4 + 3, none⟩ = some (.bool t.b)) ∧ True := ⟨fL2, trivial⟩
  clear fL2 hl3
  obtain ⟨cs, hcs⟩ : ∃ cs, cs = t1.r := ⟨_, rfl⟩
  rw [← hcs] at z0 hsign
  clear hcs
  rcases hsign with hsg | hsg
  ·have s45 : ((cs : Int) == 45) = true := by rw [hsg]; rfl
   clear hsg
   obtain hL | ⟨t0, L', hL⟩ : L = [] ∨ ∃ t0 L', L = t0 :: L' := by
    cases L with
    | nil => exact .inl rfl
    | cons x y => exact .inr ⟨x, y, rfl⟩
   ·subst hL
    have HE : Hid (Z = (0, true, false)) := HZ.out
    go_enter Tryz.func101, Tryz.ntmps101
    go_wp2
    go_ret3
    exact ⟨by rw [show Z = _ from HE.out]; rfl, O0.out⟩
   ·have h0 : L[0]? = some t0 := by rw [hL]; rfl
    have hlen : 0 < L.length := by rw [hL]; simp
    skip
    obtain ⟨g, o, rfl, hg, x0, x1, x2, x3⟩ := fL 0 t0 h0
    simp only [Nat.zero_mul, Nat.add_zero] at x0
    obtain ⟨F, hF⟩ : ∃ F : Nat → Nat, F = rs := ⟨_, rfl⟩
    have HSc : Hid (∀ (c : Nat) w1, Cz 125 #[.int .i32 (c : Int)] w1 fun e w' => e = .returned (.int .i32 (F c : Int)) ∧ w' = w1) := fun c w1 => by rw [hF]; exact rscript_any c w1
    have HFd : Hid (∀ c, F c ≠ 0 → F c ≤ c ∧ c - F c ≤ 9) := fun c => by rw [hF]; exact rs_digit
    have HFr : Hid (F = rs) := hF
    obtain ⟨m, hm⟩ : ∃ m, m = L.length := ⟨_, rfl⟩
    obtain ⟨c0, hc0⟩ : ∃ c0, c0 = t0.r := ⟨_, rfl⟩
    obtain ⟨s0, hs0⟩ : ∃ s0, s0 = F c0 := ⟨_, rfl⟩
    have HZ2 : Hid (Z = if rs c0 = 0 then (0, true, false) else ((rnum (rs c0) (L.map (·.r)) 0).1, true, (rnum (rs c0) (L.map (·.r)) 0).2)) := by
     show Z = _
     rw [HZ.out, hL, hc0]
     rfl
    rw [← hc0] at x0
    rw [← hF, ← hs0] at HZ2
    have HS00 : Hid (s0 = F c0) := hs0
    have hm0 : (0 : Int) < (m : Int) := by omega
    have hm1 : ((m : Int) == 0) = false := by simp; omega
    have hmm : m ≤ 268435456 := by omega
    have HMm : Hid (m = L.length) := hm
    have HF : Hid (∀ i t, L[i]? = some t → ∃ g' o', some (⟨g, o, none⟩ : Addr) = some ⟨g', o', none⟩ ∧ g' < w.heap.size ∧ w.cell? ⟨g', o' + i * 4, none⟩ = some (.int .i32 (t.r : Int)) ∧ w.cell? ⟨g', o' + i * 4 + 1, none⟩ = some (.int .i64 (t.a : Int)) ∧ w.cell? ⟨g', o' + i * 4 + 2, none⟩ = some (.int .i64 (t.z : Int)) ∧ w.cell? ⟨g', o' + i * 4 + 3, none⟩ = some (.bool t.b)) := fL
    rw [← hm] at hsl hcap2
    clear fL h0 x1 x2 x3 hg hL hm hlen hc0 HZ hF
    subst hs0
    clear HS00
    go_enter Tryz.func101, Tryz.ntmps101
    by_cases hz0 : F c0 = 0
    ·have HE : Hid (Z = (0, true, false)) := by
      show Z = _
      rw [HZ2.out, if_pos hz0]
     have hb0 : ((F c0 : Int) == 0) = true := by rw [hz0]; rfl
     clear HZ2 hz0
     go_wp2_with fail
     refine (show Cz 125 _ _ _ from HSc.out c0 _).mono ?_
     rintro e1 w1 ⟨rfl, hw1⟩
     subst w1
     go_wp2
     go_ret3
     exact ⟨by rw [show Z = _ from HE.out]; rfl, O0.out⟩
    ·have hb0 : ((F c0 : Int) == 0) = false := by simp; omega
     have HE : Hid (Z = ((rnum (F c0) (L.map (·.r)) 0).1, true, (rnum (F c0) (L.map (·.r)) 0).2)) := by
      show Z = _
      rw [HZ2.out, if_neg hz0]
     clear HZ2
     go_wp2_with fail
     refine (show Cz 125 _ _ _ from HSc.out c0 _).mono ?_
     rintro e1 w1 ⟨rfl, hw1⟩
     subst w1
     go_wp2
     go_loopw [2, 3, 5] (fun r2 r3 r5 wr => ∃ (k n : Nat), k ≤ m ∧ n ≤ 1152921504606846977 ∧ r2 = .int .u64 (n : Int) ∧ r3 = .bool true ∧ r5 = .int .i64 (k : Int) ∧ Hid (Oz w wr ∧ Z = ((rnum (F c0) ((L.drop k).map (·.r)) n).1, true, (rnum (F c0) ((L.drop k).map (·.r)) n).2))) (fun _ _ r5 _ => m - uOf r5)
     case atStart => exact ⟨0, 0, Nat.zero_le _, by omega, rfl, rfl, rfl, Only.refl _ _, HE.out⟩
     case round =>
      obtain ⟨k, n, hk, hn, rfl, rfl, rfl, HI⟩ := hrel
      obtain ⟨w5, rfl⟩ : ∃ w5, w5 = wr := ⟨_, rfl⟩
      clear HE
      by_cases hlt : k < m
      ·have hlt2 : k < L.length := by have : m = L.length := HMm.out; omega
       obtain ⟨t, ht⟩ : ∃ t, t = L[k]'hlt2 := ⟨_, rfl⟩
       have ht2 : L[k]? = some t := by rw [ht]; exact List.getElem?_eq_getElem _
       obtain ⟨g', o', eg, hg', y0, _, _, _⟩ := HF.out k t ht2
       injection eg with eg
       injection eg with eg1 eg2
       subst eg1
       subst eg2
       have X0 := HI.out.1.cell x0 (fun x => x)
       have Y0 := HI.out.1.cell y0 (fun x => x)
       have hd : L.drop k = t :: L.drop (k + 1) := by
        rw [ht]
        exact List.drop_eq_getElem_cons hlt2
       have hst := HFd.out t.r
       obtain ⟨c, hc⟩ : ∃ c, c = t.r := ⟨_, rfl⟩
       have HZ3 : Hid (Z = if F c ≠ F c0 then (0, true, false) else ((rnum (F c0) ((L.drop (k + 1)).map (·.r)) (min (10 * n + (c - F c)) 1152921504606846977)).1, true, (rnum (F c0) ((L.drop (k + 1)).map (·.r)) (min (10 * n + (c - F c)) 1152921504606846977)).2)) := by
        show Z = _
        rw [HI.out.2, hd, List.map_cons, rnum, ← hc, show rs = F from HFr.out.symm]
        split <;> rfl
       rw [← hc] at Y0 hst
       have HO : Hid (Oz w w5) := HI.out.1
       clear HI hd ht ht2 y0 hc hlt2
       have k0 : (0 : Int) ≤ (k : Int) := Int.natCast_nonneg _
       have k1 : (k : Int) < (m : Int) := by omega
       by_cases hqs : F c = F c0
       ·have hst2 := hst (by rw [hqs]; exact hz0)
        have HZ4 : Hid (Z = ((rnum (F c0) ((L.drop (k + 1)).map (·.r)) (min (10 * n + (c - F c)) 1152921504606846977)).1, true, (rnum (F c0) ((L.drop (k + 1)).map (·.r)) (min (10 * n + (c - F c)) 1152921504606846977)).2)) := by
         show Z = _
         rw [HZ3.out, if_neg (by simp [hqs])]
        have hqb : ((F c : Int) == (F c0 : Int)) = true := by rw [hqs]; simp
        clear HZ3 hst hqs
        go_wp2_with fail
        go_quiet (first | (go_at_call 125; refine Calls.quiet_of_same (HSc.out _ _)))
        go_wp2_with fail
        obtain ⟨W6, hW6⟩ : ∃ W6, W6 = w5.drewN nq := ⟨_, rfl⟩
        rw [← hW6]
        have Y6 : W6.cell? ⟨g, o + k * 4, none⟩ = some (.int .i32 (c : Int)) := by rw [hW6]; exact Y0
        have HO6 : Hid (Oz w W6) := by rw [hW6]; exact HO.out.drewN _
        clear hW6 X0 Y0 HO hqb
        have r1 : IntKind.i32.wrap ((c : Int) - (F c : Int)) = ((c - F c : Nat) : Int) := by rw [IntKind.wrap_i32]; omega
        have r2 : IntKind.u64.wrap ((c - F c : Nat) : Int) = ((c - F c : Nat) : Int) := by rw [IntKind.wrap_u64]; omega
        have r3 : IntKind.u64.wrap (10 * (n : Int)) = 10 * (n : Int) := by rw [IntKind.wrap_u64]; omega
        have r4 : IntKind.u64.wrap (10 * (n : Int) + ((c - F c : Nat) : Int)) = 10 * (n : Int) + ((c - F c : Nat) : Int) := by rw [IntKind.wrap_u64]; omega
        go_quiet (first | (go_at_call 125; refine Calls.quiet_of_same (HSc.out _ _)))
        rw [show min (10 * (n : Int) + ((c - F c : Nat) : Int)) 1152921504606846977 = ((min (10 * n + (c - F c)) 1152921504606846977 : Nat) : Int) by omega]
        obtain ⟨n2, hn2⟩ : ∃ n2, n2 = min (10 * n + (c - F c)) 1152921504606846977 := ⟨_, rfl⟩
        have hn3 : n2 ≤ 1152921504606846977 := by omega
        rw [← hn2] at HZ4 ⊢
        clear hn2 r1 r2 r3 r4
        go_wp2
        go_roundw
        case rel => exact ⟨k + 1, n2, by omega, hn3, rfl, rfl, by go_num, HO6.out.drewN _, HZ4.out⟩
        case measure => simp only [uOf]; omega
       ·have hqb : ((F c : Int) == (F c0 : Int)) = false := by simp; omega
        have HZ4 : Hid (Z = (0, true, false)) := by
         show Z = _
         rw [HZ3.out, if_pos hqs]
        clear HZ3 hst hqs
        go_wp2_with fail
        go_quiet (first | (go_at_call 125; refine Calls.quiet_of_same (HSc.out _ _)))
        go_wp2
        go_ret3
        exact ⟨by rw [show Z = _ from HZ4.out]; rfl, HO.out.drewN _⟩
      ·have HZ4 : Hid (Z = (n, true, true)) := by
        show Z = _
        rw [HI.out.2, List.drop_eq_nil_of_le (by have : m = L.length := HMm.out; omega)]
        rfl
       have k1 : ¬ (k : Int) < (m : Int) := by omega
       go_wp2
       go_ret3
       exact ⟨by rw [show Z = _ from HZ4.out]; rfl, HI.out.1⟩
  ·have s45 : ((cs : Int) == 45) = false := by rw [hsg]; rfl
   have s87 : ((cs : Int) == 8722) = true := by rw [hsg]; rfl
   clear hsg
   obtain hL | ⟨t0, L', hL⟩ : L = [] ∨ ∃ t0 L', L = t0 :: L' := by
    cases L with
    | nil => exact .inl rfl
    | cons x y => exact .inr ⟨x, y, rfl⟩
   ·subst hL
    have HE : Hid (Z = (0, true, false)) := HZ.out
    go_enter Tryz.func101, Tryz.ntmps101
    go_wp2
    go_ret3
    exact ⟨by rw [show Z = _ from HE.out]; rfl, O0.out⟩
   ·have h0 : L[0]? = some t0 := by rw [hL]; rfl
    have hlen : 0 < L.length := by rw [hL]; simp
    skip
    obtain ⟨g, o, rfl, hg, x0, x1, x2, x3⟩ := fL 0 t0 h0
    simp only [Nat.zero_mul, Nat.add_zero] at x0
    obtain ⟨F, hF⟩ : ∃ F : Nat → Nat, F = rs := ⟨_, rfl⟩
    have HSc : Hid (∀ (c : Nat) w1, Cz 125 #[.int .i32 (c : Int)] w1 fun e w' => e = .returned (.int .i32 (F c : Int)) ∧ w' = w1) := fun c w1 => by rw [hF]; exact rscript_any c w1
    have HFd : Hid (∀ c, F c ≠ 0 → F c ≤ c ∧ c - F c ≤ 9) := fun c => by rw [hF]; exact rs_digit
    have HFr : Hid (F = rs) := hF
    obtain ⟨m, hm⟩ : ∃ m, m = L.length := ⟨_, rfl⟩
    obtain ⟨c0, hc0⟩ : ∃ c0, c0 = t0.r := ⟨_, rfl⟩
    obtain ⟨s0, hs0⟩ : ∃ s0, s0 = F c0 := ⟨_, rfl⟩
    have HZ2 : Hid (Z = if rs c0 = 0 then (0, true, false) else ((rnum (rs c0) (L.map (·.r)) 0).1, true, (rnum (rs c0) (L.map (·.r)) 0).2)) := by
     show Z = _
     rw [HZ.out, hL, hc0]
     rfl
    rw [← hc0] at x0
    rw [← hF, ← hs0] at HZ2
    have HS00 : Hid (s0 = F c0) := hs0
    have hm0 : (0 : Int) < (m : Int) := by omega
    have hm1 : ((m : Int) == 0) = false := by simp; omega
    have hmm : m ≤ 268435456 := by omega
    have HMm : Hid (m = L.length) := hm
    have HF : Hid (∀ i t, L[i]? = some t → ∃ g' o', some (⟨g, o, none⟩ : Addr) = some ⟨g', o', none⟩ ∧ g' < w.heap.size ∧ w.cell? ⟨g', o' + i * 4, none⟩ = some (.int .i32 (t.r : Int)) ∧ w.cell? ⟨g', o' + i * 4 + 1, none⟩ = some (.int .i64 (t.a : Int)) ∧ w.cell? ⟨g', o' + i * 4 + 2, none⟩ = some (.int .i64 (t.z : Int)) ∧ w.cell? ⟨g', o' + i * 4 + 3, none⟩ = some (.bool t.b)) := fL
    rw [← hm] at hsl hcap2
    clear fL h0 x1 x2 x3 hg hL hm hlen hc0 HZ hF
    subst hs0
    clear HS00
    go_enter Tryz.func101, Tryz.ntmps101
    by_cases hz0 : F c0 = 0
    ·have HE : Hid (Z = (0, true, false)) := by
      show Z = _
      rw [HZ2.out, if_pos hz0]
     have hb0 : ((F c0 : Int) == 0) = true := by rw [hz0]; rfl
     clear HZ2 hz0
     go_wp2_with fail
     refine (show Cz 125 _ _ _ from HSc.out c0 _).mono ?_
     rintro e1 w1 ⟨rfl, hw1⟩
     subst w1
     go_wp2
     go_ret3
     exact ⟨by rw [show Z = _ from HE.out]; rfl, O0.out⟩
    ·have hb0 : ((F c0 : Int) == 0) = false := by simp; omega
     have HE : Hid (Z = ((rnum (F c0) (L.map (·.r)) 0).1, true, (rnum (F c0) (L.map (·.r)) 0).2)) := by
      show Z = _
      rw [HZ2.out, if_neg hz0]
     clear HZ2
     go_wp2_with fail
     refine (show Cz 125 _ _ _ from HSc.out c0 _).mono ?_
     rintro e1 w1 ⟨rfl, hw1⟩
     subst w1
     go_wp2
     go_loopw [2, 3, 5] (fun r2 r3 r5 wr => ∃ (k n : Nat), k ≤ m ∧ n ≤ 1152921504606846977 ∧ r2 = .int .u64 (n : Int) ∧ r3 = .bool true ∧ r5 = .int .i64 (k : Int) ∧ Hid (Oz w wr ∧ Z = ((rnum (F c0) ((L.drop k).map (·.r)) n).1, true, (rnum (F c0) ((L.drop k).map (·.r)) n).2))) (fun _ _ r5 _ => m - uOf r5)
     case atStart => exact ⟨0, 0, Nat.zero_le _, by omega, rfl, rfl, rfl, Only.refl _ _, HE.out⟩
     case round =>
      obtain ⟨k, n, hk, hn, rfl, rfl, rfl, HI⟩ := hrel
      obtain ⟨w5, rfl⟩ : ∃ w5, w5 = wr := ⟨_, rfl⟩
      clear HE
      by_cases hlt : k < m
      ·have hlt2 : k < L.length := by have : m = L.length := HMm.out; omega
       obtain ⟨t, ht⟩ : ∃ t, t = L[k]'hlt2 := ⟨_, rfl⟩
       have ht2 : L[k]? = some t := by rw [ht]; exact List.getElem?_eq_getElem _
       obtain ⟨g', o', eg, hg', y0, _, _, _⟩ := HF.out k t ht2
       injection eg with eg
       injection eg with eg1 eg2
       subst eg1
       subst eg2
       have X0 := HI.out.1.cell x0 (fun x => x)
       have Y0 := HI.out.1.cell y0 (fun x => x)
       have hd : L.drop k = t :: L.drop (k + 1) := by
        rw [ht]
        exact List.drop_eq_getElem_cons hlt2
       have hst := HFd.out t.r
       obtain ⟨c, hc⟩ : ∃ c, c = t.r := ⟨_, rfl⟩
       have HZ3 : Hid (Z = if F c ≠ F c0 then (0, true, false) else ((rnum (F c0) ((L.drop (k + 1)).map (·.r)) (min (10 * n + (c - F c)) 1152921504606846977)).1, true, (rnum (F c0) ((L.drop (k + 1)).map (·.r)) (min (10 * n + (c - F c)) 1152921504606846977)).2)) := by
        show Z = _
        rw [HI.out.2, hd, List.map_cons, rnum, ← hc, show rs = F from HFr.out.symm]
        split <;> rfl
       rw [← hc] at Y0 hst
       have HO : Hid (Oz w w5) := HI.out.1
       clear HI hd ht ht2 y0 hc hlt2
       have k0 : (0 : Int) ≤ (k : Int) := Int.natCast_nonneg _
       have k1 : (k : Int) < (m : Int) := by omega
       by_cases hqs : F c = F c0
       ·have hst2 := hst (by rw [hqs]; exact hz0)
        have HZ4 : Hid (Z = ((rnum (F c0) ((L.drop (k + 1)).map (·.r)) (min (10 * n + (c - F c)) 1152921504606846977)).1, true, (rnum (F c0) ((L.drop (k + 1)).map (·.r)) (min (10 * n + (c - F c)) 1152921504606846977)).2)) := by
         show Z = _
         rw [HZ3.out, if_neg (by simp [hqs])]
        have hqb : ((F c : Int) == (F c0 : Int)) = true := by rw [hqs]; simp
        clear HZ3 hst hqs
        go_wp2_with fail
        go_quiet (first | (go_at_call 125; refine Calls.quiet_of_same (HSc.out _ _)))
        go_wp2_with fail
        obtain ⟨W6, hW6⟩ : ∃ W6, W6 = w5.drewN nq := ⟨_, rfl⟩
        rw [← hW6]
        have Y6 : W6.cell? ⟨g, o + k * 4, none⟩ = some (.int .i32 (c : Int)) := by rw [hW6]; exact Y0
        have HO6 : Hid (Oz w W6) := by rw [hW6]; exact HO.out.drewN _
        clear hW6 X0 Y0 HO hqb
        have r1 : IntKind.i32.wrap ((c : Int) - (F c : Int)) = ((c - F c : Nat) : Int) := by rw [IntKind.wrap_i32]; omega
        have r2 : IntKind.u64.wrap ((c - F c : Nat) : Int) = ((c - F c : Nat) : Int) := by rw [IntKind.wrap_u64]; omega
        have r3 : IntKind.u64.wrap (10 * (n : Int)) = 10 * (n : Int) := by rw [IntKind.wrap_u64]; omega
        have r4 : IntKind.u64.wrap (10 * (n : Int) + ((c - F c : Nat) : Int)) = 10 * (n : Int) + ((c - F c : Nat) : Int) := by rw [IntKind.wrap_u64]; omega
        go_quiet (first | (go_at_call 125; refine Calls.quiet_of_same (HSc.out _ _)))
        rw [show min (10 * (n : Int) + ((c - F c : Nat) : Int)) 1152921504606846977 = ((min (10 * n + (c - F c)) 1152921504606846977 : Nat) : Int) by omega]
        obtain ⟨n2, hn2⟩ : ∃ n2, n2 = min (10 * n + (c - F c)) 1152921504606846977 := ⟨_, rfl⟩
        have hn3 : n2 ≤ 1152921504606846977 := by omega
        rw [← hn2] at HZ4 ⊢
        clear hn2 r1 r2 r3 r4
        go_wp2
        go_roundw
        case rel => exact ⟨k + 1, n2, by omega, hn3, rfl, rfl, by go_num, HO6.out.drewN _, HZ4.out⟩
        case measure => simp only [uOf]; omega
       ·have hqb : ((F c : Int) == (F c0 : Int)) = false := by simp; omega
        have HZ4 : Hid (Z = (0, true, false)) := by
         show Z = _
         rw [HZ3.out, if_pos hqs]
        clear HZ3 hst hqs
        go_wp2_with fail
        go_quiet (first | (go_at_call 125; refine Calls.quiet_of_same (HSc.out _ _)))
        go_wp2
        go_ret3
        exact ⟨by rw [show Z = _ from HZ4.out]; rfl, HO.out.drewN _⟩
      ·have HZ4 : Hid (Z = (n, true, true)) := by
        show Z = _
        rw [HI.out.2, List.drop_eq_nil_of_le (by have : m = L.length := HMm.out; omega)]
        rfl
       have k1 : ¬ (k : Int) < (m : Int) := by omega
       go_wp2
       go_ret3
       exact ⟨by rw [show Z = _ from HZ4.out]; rfl, HI.out.1⟩
 ·have HZ : Hid (Z = rnumM false (l.map (·.r))) := by
   show Z = _
   rw [hZ]
   unfold rnumL rrest
   rw [if_neg hmin, Bool.eq_false_iff.2 hmin]
  have HM : Hid (∀ t, l[0]? = some t → ¬ t.r = 45 ∧ ¬ t.r = 8722) := fun t ht => by
   cases l with
   | nil => simp at ht
   | cons x l =>
     simp only [List.getElem?_cons_zero, Option.some.injEq] at ht
     subst ht
     simp only [rminus, List.map_cons, List.head?_cons, decide_eq_true_eq, Option.some.injEq] at hmin
     omega
  clear hZ hmin
  obtain ⟨L, hLL⟩ : ∃ L, L = l := ⟨_, rfl⟩
  rw [← hLL] at HZ HM fL hcap hl ⊢
  clear hLL
  obtain hL | ⟨t0, L', hL⟩ : L = [] ∨ ∃ t0 L', L = t0 :: L' := by
   cases L with
   | nil => exact .inl rfl
   | cons x y => exact .inr ⟨x, y, rfl⟩
  ·subst hL
   have HE : Hid (Z = (0, false, false)) := HZ.out
   go_enter Tryz.func101, Tryz.ntmps101
   go_wp2
   go_ret3
   exact ⟨by rw [show Z = _ from HE.out]; rfl, O0.out⟩
  ·have h0 : L[0]? = some t0 := by rw [hL]; rfl
   have hlen : 0 < L.length := by rw [hL]; simp
   obtain ⟨i45, i8722⟩ : ((t0.r : Int) == 45) = false ∧ ((t0.r : Int) == 8722) = false := by have := HM.out t0 h0; simp; omega
   obtain ⟨g, o, rfl, hg, x0, x1, x2, x3⟩ := fL 0 t0 h0
   simp only [Nat.zero_mul, Nat.add_zero] at x0
   obtain ⟨F, hF⟩ : ∃ F : Nat → Nat, F = rs := ⟨_, rfl⟩
   have HSc : Hid (∀ (c : Nat) w1, Cz 125 #[.int .i32 (c : Int)] w1 fun e w' => e = .returned (.int .i32 (F c : Int)) ∧ w' = w1) := fun c w1 => by rw [hF]; exact rscript_any c w1
   have HFd : Hid (∀ c, F c ≠ 0 → F c ≤ c ∧ c - F c ≤ 9) := fun c => by rw [hF]; exact rs_digit
   have HFr : Hid (F = rs) := hF
   obtain ⟨m, hm⟩ : ∃ m, m = L.length := ⟨_, rfl⟩
   obtain ⟨c0, hc0⟩ : ∃ c0, c0 = t0.r := ⟨_, rfl⟩
   obtain ⟨s0, hs0⟩ : ∃ s0, s0 = F c0 := ⟨_, rfl⟩
   have HZ2 : Hid (Z = if rs c0 = 0 then (0, false, false) else ((rnum (rs c0) (L.map (·.r)) 0).1, false, (rnum (rs c0) (L.map (·.r)) 0).2)) := by
    show Z = _
    rw [HZ.out, hL, hc0]
    rfl
   rw [← hc0] at x0 i45 i8722
   rw [← hF, ← hs0] at HZ2
   have HS00 : Hid (s0 = F c0) := hs0
   have hm0 : (0 : Int) < (m : Int) := by omega
   have hm1 : ((m : Int) == 0) = false := by simp; omega
   have hmm : m ≤ 268435456 := by omega
   have HMm : Hid (m = L.length) := hm
   have HF : Hid (∀ i t, L[i]? = some t → ∃ g' o', some (⟨g, o, none⟩ : Addr) = some ⟨g', o', none⟩ ∧ g' < w.heap.size ∧ w.cell? ⟨g', o' + i * 4, none⟩ = some (.int .i32 (t.r : Int)) ∧ w.cell? ⟨g', o' + i * 4 + 1, none⟩ = some (.int .i64 (t.a : Int)) ∧ w.cell? ⟨g', o' + i * 4 + 2, none⟩ = some (.int .i64 (t.z : Int)) ∧ w.cell? ⟨g', o' + i * 4 + 3, none⟩ = some (.bool t.b)) := fL
   rw [← hm]
   clear fL h0 x1 x2 x3 hg hL hm hlen hc0 HZ hF
   subst hs0
   clear HS00
   go_enter Tryz.func101, Tryz.ntmps101
   by_cases hz0 : F c0 = 0
   ·have HE : Hid (Z = (0, false, false)) := by
     show Z = _
     rw [HZ2.out, if_pos hz0]
    have hb0 : ((F c0 : Int) == 0) = true := by rw [hz0]; rfl
    clear HZ2 hz0
    go_wp2_with fail
    refine (show Cz 125 _ _ _ from HSc.out c0 _).mono ?_
    rintro e1 w1 ⟨rfl, hw1⟩
    subst w1
    go_wp2
    go_ret3
    exact ⟨by rw [show Z = _ from HE.out]; rfl, O0.out⟩
   ·have hb0 : ((F c0 : Int) == 0) = false := by simp; omega
    have HE : Hid (Z = ((rnum (F c0) (L.map (·.r)) 0).1, false, (rnum (F c0) (L.map (·.r)) 0).2)) := by
     show Z = _
     rw [HZ2.out, if_neg hz0]
    clear HZ2
    go_wp2_with fail
    refine (show Cz 125 _ _ _ from HSc.out c0 _).mono ?_
    rintro e1 w1 ⟨rfl, hw1⟩
    subst w1
    go_wp2
    go_loopw [2, 3, 5] (fun r2 r3 r5 wr => ∃ (k n : Nat), k ≤ m ∧ n ≤ 1152921504606846977 ∧ r2 = .int .u64 (n : Int) ∧ r3 = .bool false ∧ r5 = .int .i64 (k : Int) ∧ Hid (Oz w wr ∧ Z = ((rnum (F c0) ((L.drop k).map (·.r)) n).1, false, (rnum (F c0) ((L.drop k).map (·.r)) n).2))) (fun _ _ r5 _ => m - uOf r5)
    case atStart => exact ⟨0, 0, Nat.zero_le _, by omega, rfl, rfl, rfl, Only.refl _ _, HE.out⟩
    case round =>
     obtain ⟨k, n, hk, hn, rfl, rfl, rfl, HI⟩ := hrel
     obtain ⟨w5, rfl⟩ : ∃ w5, w5 = wr := ⟨_, rfl⟩
     clear HE
     by_cases hlt : k < m
     ·have hlt2 : k < L.length := by have : m = L.length := HMm.out; omega
      obtain ⟨t, ht⟩ : ∃ t, t = L[k]'hlt2 := ⟨_, rfl⟩
      have ht2 : L[k]? = some t := by rw [ht]; exact List.getElem?_eq_getElem _
      obtain ⟨g', o', eg, hg', y0, _, _, _⟩ := HF.out k t ht2
      injection eg with eg
      injection eg with eg1 eg2
      subst eg1
      subst eg2
      have X0 := HI.out.1.cell x0 (fun x => x)
      have Y0 := HI.out.1.cell y0 (fun x => x)
      have hd : L.drop k = t :: L.drop (k + 1) := by
       rw [ht]
       exact List.drop_eq_getElem_cons hlt2
      have hst := HFd.out t.r
      obtain ⟨c, hc⟩ : ∃ c, c = t.r := ⟨_, rfl⟩
      have HZ3 : Hid (Z = if F c ≠ F c0 then (0, false, false) else ((rnum (F c0) ((L.drop (k + 1)).map (·.r)) (min (10 * n + (c - F c)) 1152921504606846977)).1, false, (rnum (F c0) ((L.drop (k + 1)).map (·.r)) (min (10 * n + (c - F c)) 1152921504606846977)).2)) := by
       show Z = _
       rw [HI.out.2, hd, List.map_cons, rnum, ← hc, show rs = F from HFr.out.symm]
       split <;> rfl
      rw [← hc] at Y0 hst
      have HO : Hid (Oz w w5) := HI.out.1
      clear HI hd ht ht2 y0 hc hlt2
      have k0 : (0 : Int) ≤ (k : Int) := Int.natCast_nonneg _
      have k1 : (k : Int) < (m : Int) := by omega
      by_cases hqs : F c = F c0
      ·have hst2 := hst (by rw [hqs]; exact hz0)
       have HZ4 : Hid (Z = ((rnum (F c0) ((L.drop (k + 1)).map (·.r)) (min (10 * n + (c - F c)) 1152921504606846977)).1, false, (rnum (F c0) ((L.drop (k + 1)).map (·.r)) (min (10 * n + (c - F c)) 1152921504606846977)).2)) := by
        show Z = _
        rw [HZ3.out, if_neg (by simp [hqs])]
       have hqb : ((F c : Int) == (F c0 : Int)) = true := by rw [hqs]; simp
       clear HZ3 hst hqs
       go_wp2_with fail
       go_quiet (first | (go_at_call 125; refine Calls.quiet_of_same (HSc.out _ _)))
       go_wp2_with fail
       obtain ⟨W6, hW6⟩ : ∃ W6, W6 = w5.drewN nq := ⟨_, rfl⟩
       rw [← hW6]
       have Y6 : W6.cell? ⟨g, o + k * 4, none⟩ = some (.int .i32 (c : Int)) := by rw [hW6]; exact Y0
       have HO6 : Hid (Oz w W6) := by rw [hW6]; exact HO.out.drewN _
       clear hW6 X0 Y0 HO hqb
       have r1 : IntKind.i32.wrap ((c : Int) - (F c : Int)) = ((c - F c : Nat) : Int) := by rw [IntKind.wrap_i32]; omega
       have r2 : IntKind.u64.wrap ((c - F c : Nat) : Int) = ((c - F c : Nat) : Int) := by rw [IntKind.wrap_u64]; omega
       have r3 : IntKind.u64.wrap (10 * (n : Int)) = 10 * (n : Int) := by rw [IntKind.wrap_u64]; omega
       have r4 : IntKind.u64.wrap (10 * (n : Int) + ((c - F c : Nat) : Int)) = 10 * (n : Int) + ((c - F c : Nat) : Int) := by rw [IntKind.wrap_u64]; omega
       go_quiet (first | (go_at_call 125; refine Calls.quiet_of_same (HSc.out _ _)))
       rw [show min (10 * (n : Int) + ((c - F c : Nat) : Int)) 1152921504606846977 = ((min (10 * n + (c - F c)) 1152921504606846977 : Nat) : Int) by omega]
       obtain ⟨n2, hn2⟩ : ∃ n2, n2 = min (10 * n + (c - F c)) 1152921504606846977 := ⟨_, rfl⟩
       have hn3 : n2 ≤ 1152921504606846977 := by omega
       rw [← hn2] at HZ4 ⊢
       clear hn2 r1 r2 r3 r4
       go_wp2
       go_roundw
       case rel => exact ⟨k + 1, n2, by omega, hn3, rfl, rfl, by go_num, HO6.out.drewN _, HZ4.out⟩
       case measure => simp only [uOf]; omega
      ·have hqb : ((F c : Int) == (F c0 : Int)) = false := by simp; omega
       have HZ4 : Hid (Z = (0, false, false)) := by
        show Z = _
        rw [HZ3.out, if_pos hqs]
       clear HZ3 hst hqs
       go_wp2_with fail
       go_quiet (first | (go_at_call 125; refine Calls.quiet_of_same (HSc.out _ _)))
       go_wp2
       go_ret3
       exact ⟨by rw [show Z = _ from HZ4.out]; rfl, HO.out.drewN _⟩
     ·have HZ4 : Hid (Z = (n, false, true)) := by
       show Z = _
       rw [HI.out.2, List.drop_eq_nil_of_le (by have : m = L.length := HMm.out; omega)]
       rfl
      have k1 : ¬ (k : Int) < (m : Int) := by omega
      go_wp2
      go_ret3
      exact ⟨by rw [show Z = _ from HZ4.out]; rfl, HI.out.1⟩
theorem chr_runes (s : ByteArray) : (chrL s).map (·.r) = rns s := by
 unfold chrL rns
 rw [List.map_map]
 apply List.map_congr_left
 intro x _
 simp only [Function.comp, chr1]
 split <;> rfl
theorem crs_tail (s : ByteArray) (n : Nat) (hn : n ≤ s.size) : ∀ (b pos : Nat), (crs (s.extract n s.size) b pos).map (·.2) = (crs s b (n + pos)).map (·.2)
 | 0, pos => rfl
 | b + 1, pos => by
   have hz : (s.extract n s.size).size = s.size - n := by rw [ByteArray.size_extract]; omega
   by_cases hp : n + pos < s.size
   ·rw [show crs s (b + 1) (n + pos) = (n + pos, (Utf8.decode s (n + pos)).1) :: crs s b (n + pos + (Utf8.decode s (n + pos)).2) by simp [crs, hp]]
    rw [show crs (s.extract n s.size) (b + 1) pos = (pos, (Utf8.decode (s.extract n s.size) pos).1) :: crs (s.extract n s.size) b (pos + (Utf8.decode (s.extract n s.size) pos).2) by simp [crs, hz]; omega]
    rw [tail_decode, List.map_cons, List.map_cons, crs_tail s n hn b, Nat.add_assoc]
   ·rw [crs_end (by omega), crs_end (by omega)]
theorem crs_fuel (s : ByteArray) : ∀ (b b' pos : Nat), s.size ≤ pos + b → s.size ≤ pos + b' → crs s b pos = crs s b' pos
 | b, b', pos, h, h' => by
   induction b generalizing b' pos with
   | zero => rw [crs_end (by omega), crs_end (by omega)]
   | succ b ih =>
     by_cases hp : pos < s.size
     ·have := wid_pos s pos hp
      obtain ⟨b2, rfl⟩ : ∃ k, b' = k + 1 := ⟨b' - 1, by omega⟩
      rw [show crs s (b + 1) pos = (pos, (Utf8.decode s pos).1) :: crs s b (pos + (Utf8.decode s pos).2) by simp [crs, hp], show crs s (b2 + 1) pos = (pos, (Utf8.decode s pos).1) :: crs s b2 (pos + (Utf8.decode s pos).2) by simp [crs, hp], ih b2 _ (by omega) (by omega)]
     ·rw [crs_end hp, crs_end hp]
theorem rns_nil {s : ByteArray} (h : s.size = 0) : rns s = [] := by
 unfold rns chs
 rw [crs_end (by omega)]
 rfl
theorem rns_cons {s : ByteArray} (h : 0 < s.size) : rns s = (Utf8.decode s 0).1 :: rns (s.extract (Utf8.decode s 0).2 s.size) := by
 have hw := wid_pos s 0 h
 have hwd := decode_wd s 0 h
 have hz : (s.extract (Utf8.decode s 0).2 s.size).size = s.size - (Utf8.decode s 0).2 := by rw [ByteArray.size_extract]; omega
 obtain ⟨b, hb, e⟩ := crs_go (s := s) (b := s.size) (pos := 0) h (by omega)
 unfold rns chs
 rw [e, List.map_cons, crs_tail s _ (by omega), Nat.add_zero, hz, Nat.zero_add]
 congr 2
 exact crs_fuel s _ _ _ (by omega) (by omega)
theorem pre_rune (s : ByteArray) {c : Nat} (hc : Vr c) (hb : c ≠ 65533) : preB s (tx [c]) = decide ((rns s).head? = some c) := by
 have hw := wr_pos c
 have hts : (tx [c]).size = wr c := by rw [tx_size, wl_cons, wl_nil, Nat.add_zero]
 have htd : (tx [c]).data.toList = encodeRune (c : Int) := by rw [tx_data]; simp [enL]
 rw [Bool.eq_iff_iff, decide_eq_true_iff]
 constructor
 ·intro h
  have ht := pre_take h
  rw [hts, htd] at ht
  have hs : 0 < s.size := by have := preB_le h; omega
  have e3 : s.data.toList = encodeRune (c : Int) ++ s.data.toList.drop (wr c) := by
   rw [← ht]
   exact (List.take_append_drop _ _).symm
  have hd := decodeL_drop s 0
  rw [List.drop_zero, e3, decodeL_enc hc] at hd
  rw [rns_cons hs, ← hd]
  rfl
 ·intro h
  by_cases hs : 0 < s.size
  ·rw [rns_cons hs] at h
   simp only [List.head?_cons, Option.some.injEq] at h
   have hd := decodeL_drop s 0
   rw [List.drop_zero] at hd
   have hne : s.data.toList ≠ [] := by
    intro g
    have := congrArg List.length g
    rw [Array.length_toList] at this
    have : s.size = 0 := this
    omega
   have he := encode_decode s.data.toList hne (by rw [hd, h]; intro g; exact hb g.1)
   rw [hd, h] at he
   have hle := decodeL_le s.data.toList hne
   rw [hd] at hle
   have hl : wr c = (Utf8.decode s 0).2 := by
    unfold wr
    rw [he, List.length_take]
    omega
   unfold preB
   rw [hts]
   have hsz : s.data.toList.length = s.size := Array.length_toList
   rw [decide_eq_true (by omega : wr c ≤ s.size), Bool.true_and, beq_iff_eq, ByteArray.toList_eq, ByteArray.toList_eq, htd, he, ← hl, ByteArray.data_extract, Array.toList_extract]
   simp
  ·rw [rns_nil (by omega)] at h
   simp at h
theorem hy_tx : hyB = tx [45] := rfl
theorem mi_tx : miB = tx [8722] := rfl
theorem sgn_runes (s : ByteArray) : rns (sgn s).1 = rrest (rns s) ∧ (sgn s).2 = rminus (rns s) := by
 unfold sgn rrest
 have h1 := pre_rune s (c := 45) (.inl (by decide)) (by decide)
 have h2 := pre_rune s (c := 8722) (.inl (by decide)) (by decide)
 rw [← hy_tx] at h1
 rw [← mi_tx] at h2
 rw [h1, h2]
 by_cases g1 : (rns s).head? = some 45
 ·have hm : rminus (rns s) = true := by unfold rminus; exact decide_eq_true (.inl g1)
  rw [if_pos (by simpa using g1), hm, if_pos rfl]
  refine ⟨?_, rfl⟩
  have hs : 0 < s.size := by
   rcases Nat.eq_zero_or_pos s.size with h | h
   ·rw [rns_nil h] at g1; simp at g1
   ·exact h
  have e := rns_cons hs
  rw [e] at g1
  simp only [List.head?_cons, Option.some.injEq] at g1
  have hd : (Utf8.decode s 0).2 = 1 := by
   by_cases ha : (s[0]'hs).toNat < 128
   ·rw [decode_ascii s 0 hs ha]
   ·have := (decode_high s 0 hs (by omega)).1
    omega
  rw [e, hd]
  rfl
 ·rw [if_neg (by simpa using g1)]
  by_cases g2 : (rns s).head? = some 8722
  ·have hm : rminus (rns s) = true := by unfold rminus; exact decide_eq_true (.inr g2)
   rw [if_pos (by simpa using g2), hm, if_pos rfl]
   refine ⟨?_, rfl⟩
   have hs : 0 < s.size := by
    rcases Nat.eq_zero_or_pos s.size with h | h
    ·rw [rns_nil h] at g2; simp at g2
    ·exact h
   have e := rns_cons hs
   have hp : preB s (tx [8722]) = true := by rw [← mi_tx, h2]; simpa using g2
   have ht := pre_take hp
   have hd : (Utf8.decode s 0).2 = 3 := by
    have e3 : s.data.toList = encodeRune ((8722 : Nat) : Int) ++ s.data.toList.drop 3 := by
     have : encodeRune ((8722 : Nat) : Int) = (tx [8722]).data.toList := rfl
     rw [this, ← ht]
     exact (List.take_append_drop _ _).symm
    have hd := decodeL_drop s 0
    rw [List.drop_zero, e3, decodeL_enc (.inl (by decide))] at hd
    rw [← hd]
    rfl
   rw [e, hd]
   rfl
  ·have hm : rminus (rns s) = false := by unfold rminus; exact decide_eq_false (fun g => g.elim g1 g2)
   rw [if_neg (by simpa using g2), hm, if_neg (by simp)]
   exact ⟨rfl, rfl⟩
theorem scr_rs (c : Nat) : scr (c : Int) = if rs c = 0 then none else some (rs c : Int) := by
 unfold scr rs inS
 simp only [decide_eq_true_eq]
 by_cases h1 : 48 ≤ c ∧ c ≤ 57
 ·rw [if_pos (by omega), if_pos h1]; rfl
 ·rw [if_neg (by omega), if_neg h1]
  by_cases h2 : 1632 ≤ c ∧ c ≤ 1641
  ·rw [if_pos (by omega), if_pos h2]; rfl
  ·rw [if_neg (by omega), if_neg h2]
   by_cases h3 : 65296 ≤ c ∧ c ≤ 65305
   ·rw [if_pos (by omega), if_pos h3]; rfl
   ·rw [if_neg (by omega), if_neg h3]; rfl
theorem ins_rs (c d : Nat) (h : rs d ≠ 0) : inS (c : Int) (rs d : Int) = decide (rs c = rs d) := by
 unfold inS
 rw [Bool.eq_iff_iff, decide_eq_true_iff, decide_eq_true_iff]
 unfold rs at h ⊢
 by_cases h1 : 48 ≤ d ∧ d ≤ 57
 ·simp only [if_pos h1] at h ⊢
  constructor
  ·intro g; rw [if_pos (by omega)]
  ·intro g
   split at g
   ·omega
   ·split at g
    ·omega
    ·split at g <;> omega
 ·simp only [if_neg h1] at h ⊢
  by_cases h2 : 1632 ≤ d ∧ d ≤ 1641
  ·simp only [if_pos h2] at h ⊢
   constructor
   ·intro g; rw [if_neg (by omega), if_pos (by omega)]
   ·intro g
    split at g
    ·omega
    ·split at g
     ·omega
     ·split at g <;> omega
  ·simp only [if_neg h2] at h ⊢
   by_cases h3 : 65296 ≤ d ∧ d ≤ 65305
   ·simp only [if_pos h3] at h ⊢
    constructor
    ·intro g; rw [if_neg (by omega), if_neg (by omega), if_pos (by omega)]
    ·intro g
     split at g
     ·omega
     ·split at g
      ·omega
      ·split at g <;> omega
   ·simp only [if_neg h3] at h
    exact absurd rfl h
theorem nat_rnum (d : Nat) (hd : rs d ≠ 0) : ∀ (l : List Nat) (np nr : Nat), nr = min np 1152921504606846977 → (natL l (rs d : Int) true np).2 = (rnum (rs d) l nr).2 ∧ ((rnum (rs d) l nr).2 = true → (rnum (rs d) l nr).1 = min (natL l (rs d : Int) true np).1 1152921504606846977)
 | [], np, nr, h => ⟨rfl, fun _ => h⟩
 | c :: l, np, nr, h => by
   rw [natL, rnum, ins_rs c d hd]
   by_cases hc : rs c = rs d
   ·rw [if_pos (by simpa using hc), if_neg (by simpa using hc)]
    have hdg := rs_digit (c := c) (by rw [hc]; exact hd)
    refine nat_rnum d hd l _ _ ?_
    unfold dig
    rw [hc] at hdg ⊢
    split
    ·omega
    ·omega
   ·rw [if_neg (by simpa using hc), if_pos hc]
    exact ⟨rfl, fun g => by simp at g⟩
def rNumR (s : ByteArray) : Int × Int :=
 if (rnumL (rns s)).2.2 = false then (0, 9)
 else if (rnumL (rns s)).2.1 = true ∧ (rnumL (rns s)).1 ≤ 1152921504606846976 then (-((rnumL (rns s)).1 : Int), 0)
 else if 1152921504606846975 < (rnumL (rns s)).1 then (0, 11)
 else ((rnumL (rns s)).1, 0)
theorem num_same (s : ByteArray) : rNumR s = numR s ∧ ((numR s).2 = 9 ↔ (rnumL (rns s)).2.2 = false) := by
 obtain ⟨h1, h2⟩ := sgn_runes s
 unfold rNumR numR rnumL
 rw [h1, h2]
 have key : ∀ (l : List Nat) (mn : Bool), (rnumM mn l).2.1 = mn ∧ (natL l 0 false 0).2 = (rnumM mn l).2.2 ∧ ((rnumM mn l).2.2 = true → (rnumM mn l).1 = min (natL l 0 false 0).1 1152921504606846977) := by
  intro l mn
  cases l with
  | nil => exact ⟨rfl, rfl, fun g => by simp [rnumM] at g⟩
  | cons c l =>
    rw [rnumM, natL, scr_rs]
    by_cases hc : rs c = 0
    ·rw [if_pos hc, if_pos hc]
     exact ⟨rfl, rfl, fun g => by simp at g⟩
    ·rw [if_neg hc, if_neg hc]
     have hdg := rs_digit hc
     rw [rnum, if_neg (by simp)]
     have := nat_rnum c hc l (dig 0 c (rs c : Int)) (min (10 * 0 + (c - rs c)) 1152921504606846977) (by unfold dig; rw [if_pos (by omega)]; omega)
     exact ⟨rfl, this.1, this.2⟩
 obtain ⟨k1, k2, k3⟩ := key (rrest (rns s)) (rminus (rns s))
 obtain ⟨p, hp⟩ : ∃ p, p = natL (rrest (rns s)) 0 false 0 := ⟨_, rfl⟩
 obtain ⟨r, hr⟩ : ∃ r, r = rnumM (rminus (rns s)) (rrest (rns s)) := ⟨_, rfl⟩
 rw [← hp, ← hr] at k2 k3
 rw [← hr] at k1
 rw [← hp, ← hr]
 obtain ⟨pn, po⟩ := p
 obtain ⟨rn, rm, ro⟩ := r
 clear hp hr h1 h2 key
 obtain ⟨mn, hmn⟩ : ∃ mn, mn = rminus (rns s) := ⟨_, rfl⟩
 rw [← hmn] at k1 ⊢
 clear hmn
 dsimp only at k1 k2 k3 ⊢
 subst k1
 subst k2
 cases po with
 | false => exact ⟨rfl, by simp⟩
 | true =>
   have k4 := k3 rfl
   clear k3
   have f1 : ¬ (true = false) := by simp
   rw [if_neg f1, if_neg f1]
   cases rm with
   | true =>
     by_cases hle : pn ≤ 1152921504606846976
     ·have : rn = pn := by omega
      subst this
      rw [if_pos ⟨rfl, hle⟩, if_pos ⟨rfl, hle⟩]
      simp
     ·have h3 : ¬ (true = true ∧ rn ≤ 1152921504606846976) := fun g => by have := g.2; omega
      have h4 : ¬ (true = true ∧ pn ≤ 1152921504606846976) := fun g => hle g.2
      have h5 : 1152921504606846975 < rn := by omega
      have h6 : ¬ (true = false ∧ pn ≤ 1152921504606846975) := fun g => by simp at g
      rw [if_neg h3, if_neg h4, if_pos h5, if_neg h6]
      simp
   | false =>
     have h3 : ∀ x : Nat, ¬ (false = true ∧ x ≤ 1152921504606846976) := fun x g => by simp at g
     rw [if_neg (h3 rn), if_neg (h3 pn)]
     by_cases hle : pn ≤ 1152921504606846975
     ·have : rn = pn := by omega
      subst this
      rw [if_neg (by omega), if_pos ⟨rfl, hle⟩]
      simp
     ·have h5 : 1152921504606846975 < rn := by omega
      have h6 : ¬ (false = false ∧ pn ≤ 1152921504606846975) := fun g => hle g.2
      rw [if_pos h5, if_neg h6]
      simp
theorem nmL_all : ∀ (l : List Nat) (k : Nat), k + l.length ≤ 32 → nmL l k = (decide (0 < k + l.length) && l.all ofN)
 | [], k, h => by simp [nmL]
 | c :: l, k, h => by
   rw [List.length_cons] at h
   rw [nmL, List.all_cons, List.length_cons]
   by_cases hc : ofN c = false
   ·rw [if_pos (.inr hc), hc]; simp
   ·rw [if_neg (fun g => g.elim (by omega) hc), nmL_all l (k + 1) (by omega)]
    simp only [Bool.not_eq_false] at hc
    rw [hc, Bool.true_and, decide_eq_true (by omega), decide_eq_true (by omega)]
theorem nmL_long : ∀ (l : List Nat) (k : Nat), k ≤ 32 → 32 < k + l.length → nmL l k = false
 | [], k, h0, h => by simp at h; omega
 | c :: l, k, h0, h => by
   rw [nmL]
   rw [List.length_cons] at h
   split
   ·rfl
   ·rename_i g
    exact nmL_long l (k + 1) (by omega) (by omega)
theorem qu_tx : quB = tx [34] := rfl
theorem name_eq (s : ByteArray) : nameB s = (!(s.toList == [33]) && !decide ((rns s).head? = some 34) && decide (0 < (rns s).length) && decide ((rns s).length ≤ 32) && (rns s).all ofN && !(rnumL (rns s)).2.2) := by
 unfold nameB nmdB
 have h1 := (num_same s).2
 have h2 := pre_rune s (c := 34) (.inl (by decide)) (by decide)
 rw [← qu_tx] at h2
 rw [h2]
 have h3 : decide ((numR s).2 = 9) = !(rnumL (rns s)).2.2 := by
  rw [Bool.eq_iff_iff, decide_eq_true_iff, h1]
  simp
 rw [h3]
 cases s.toList == [33] with
 | true => simp
 | false =>
   by_cases h34 : (rns s).head? = some 34
   ·simp [h34]
   ·simp only [Bool.false_eq_true, if_false, decide_eq_false h34, Bool.not_false, Bool.true_and]
    by_cases hl : (rns s).length ≤ 32
    ·rw [nmL_all _ 0 (by omega), decide_eq_true hl, Nat.zero_add, Bool.and_true, Bool.and_comm]
    ·rw [nmL_long _ 0 (by omega) (by omega), decide_eq_false hl]
     simp
theorem all_drop {l : List Nat} {k : Nat} (h : k < l.length) (P : Nat → Bool) : (l.drop k).all P = (P (l[k]'h) && (l.drop (k + 1)).all P) := by
 rw [List.drop_eq_getElem_cons h, List.all_cons]
theorem rName_any (s : ByteArray) (hs : s.size ≤ 268435456) (w : World) :
  Cz 96 #[.string s] w fun e w' => e = .returned (.bool (nameB s)) ∧ Oz w w' := by
 have HC : Hid (Cz 95 #[.string s] w fun e w' => ∃ v, e = .returned v ∧ Hid (ChrAt w' w.heap.size v (chrL s) ∧ Below w.heap.size w w')) := chars_any s hs w
 have HN : Hid (∀ v w1, RdC w1 v (chrL s) → Cz 101 #[v] w1 fun e w' => e = .returned (rnV (rnumL (rns s))) ∧ Oz w1 w') := fun v w1 h => by
  have := rnumber_any (chrL s) (by have := chrL_len s; omega) v w1 h
  rwa [chr_runes] at this
 have HB : Hid (∀ (c : Nat) w1, Cz 123 #[.int .i32 (c : Int)] w1 fun e w' => e = .returned (.bool (blk c)) ∧ w' = w1) := fun c w1 => rblank_any c w1
 obtain ⟨Z, hZ⟩ : ∃ Z, Z = nameB s := ⟨_, rfl⟩
 have hZ2 := hZ
 rw [name_eq] at hZ2
 rw [← hZ]
 have hlen := chrL_len s
 have hrun := chr_runes s
 obtain ⟨x, hx⟩ : ∃ x, x = rnumL (rns s) := ⟨_, rfl⟩
 rw [← hx] at HN hZ2
 obtain ⟨l, hl⟩ : ∃ l, l = chrL s := ⟨_, rfl⟩
 rw [← hl] at HC HN hlen hrun
 rw [← hrun] at hZ2
 have HZ : Hid (Z = (!(s.toList == [33]) && !decide ((l.map (·.r)).head? = some 34) && decide (0 < (l.map (·.r)).length) && decide ((l.map (·.r)).length ≤ 32) && (l.map (·.r)).all ofN && !x.2.2)) := hZ2
 clear hZ hZ2 hx hl hrun
 obtain ⟨xn, xm, xo⟩ := x
 simp only [rnV] at HN
 dsimp only at HZ
 go_enter Tryz.func96, Tryz.ntmps96
 go_wp2_with fail
 refine (show Cz 95 _ _ _ from HC.out).mono ?_
 rintro e w1 ⟨v, rfl, g⟩
 have O1 : Hid (Oz w w1) := below_only g.out.2
 have T1 : Hid (RdC w1 v l) := rdc_chr g.out.1
 clear HC g
 obtain ⟨ao, cap, rfl, hcap, fL⟩ := T1.out
 obtain rfl | ⟨t0, l', hl'⟩ : l = [] ∨ ∃ t0 l', l = t0 :: l' := by
  cases l with
  | nil => exact .inl rfl
  | cons a b => exact .inr ⟨a, b, rfl⟩
 ·have HE : Hid (Z = false) := by show Z = _; rw [HZ.out]; simp
  clear HZ fL
  go_wp2
  go_ret
  exact ⟨by rw [show Z = _ from HE.out]; rfl, O1.out⟩
 ·obtain ⟨L, hL⟩ : ∃ L, L = l.length := ⟨_, rfl⟩
  have HL : Hid (L = l.length) := hL
  have hL1 : 1 ≤ L := by rw [hL, hl']; simp
  have hLm : L ≤ 268435456 := by omega
  have hml : (l.map (·.r)).length = L := by rw [List.length_map, hL]
  have hhd : (l.map (·.r)).head? = some t0.r := by rw [hl']; rfl
  rw [← hL]
  have b1 : decide ((L : Int) < 1) = false := decide_eq_false (by omega)
  by_cases h32 : L ≤ 32
  ·have b2 : decide ((32 : Int) < (L : Int)) = false := decide_eq_false (by omega)
   obtain ⟨g0, o0, rfl, hg0, x0, _, _, _⟩ := fL 0 t0 (by rw [hl']; rfl)
   simp only [Nat.zero_mul, Nat.add_zero] at x0
   have j0 : (0 : Int) < (L : Int) := by omega
   obtain ⟨c0, hc0⟩ : ∃ c0, c0 = t0.r := ⟨_, rfl⟩
   rw [← hc0] at x0 hhd
   by_cases h34 : c0 = 34
   ·have HE : Hid (Z = false) := by show Z = _; rw [HZ.out, hhd, h34]; simp
    have s34 : ((c0 : Int) == 34) = true := by rw [h34]; rfl
    clear HZ fL h34 hc0 hhd hml hL hl'
    go_wp2
    go_ret
    exact ⟨by rw [show Z = _ from HE.out]; rfl, O1.out⟩
   ·have s34 : ((c0 : Int) == 34) = false := by simp; omega
    by_cases h33 : s.toList = [33]
    ·have HE : Hid (Z = false) := by show Z = _; rw [HZ.out, h33]; simp
     have s33 : (s.toList == [33]) = true := by rw [h33]; rfl
     clear HZ fL h34 hc0 hhd hml hL hl' h33
     go_wp2
     go_ret
     exact ⟨by rw [show Z = _ from HE.out]; rfl, O1.out⟩
    ·have s33 : (s.toList == [33]) = false := by simpa using h33
     have HE : Hid (Z = (((l.map (·.r)).drop 0).all ofN && !xo)) := by
      show Z = _
      rw [HZ.out, hhd, s33, hml, decide_eq_false (by simpa using h34 : ¬ some c0 = some 34), decide_eq_true (by omega : 0 < L), decide_eq_true h32, List.drop_zero]
      simp
     have HF : Hid (∀ i t, l[i]? = some t → ∃ g o, some (⟨g0, o0, none⟩ : Addr) = some ⟨g, o, none⟩ ∧ g < w1.heap.size ∧ w1.cell? ⟨g, o + i * 4, none⟩ = some (.int .i32 (t.r : Int)) ∧ w1.cell? ⟨g, o + i * 4 + 1, none⟩ = some (.int .i64 (t.a : Int)) ∧ w1.cell? ⟨g, o + i * 4 + 2, none⟩ = some (.int .i64 (t.z : Int)) ∧ w1.cell? ⟨g, o + i * 4 + 3, none⟩ = some (.bool t.b)) := fL
     clear HZ fL h34 hc0 hhd hml hL hl' h33
     go_wp2
     clear b1 b2 s33 s34 x0 j0
     go_loopw [4] (fun r4 wr => ∃ k : Nat, k ≤ L ∧ r4 = .int .i64 (k : Int) ∧ wr = w1 ∧ Hid (Z = (((l.map (·.r)).drop k).all ofN && !xo))) (fun r4 _ => L - uOf r4)
     case atStart => exact ⟨0, Nat.zero_le _, rfl, rfl, HE.out⟩
     case round =>
      obtain ⟨k, hk, rfl, hwr, HI⟩ := hrel
      subst wr
      clear HE
      by_cases hlt : k < L
      ·have hlt2 : k < l.length := by have : L = l.length := HL.out; omega
       obtain ⟨t, ht⟩ : ∃ t, t = l[k]'hlt2 := ⟨_, rfl⟩
       have ht2 : l[k]? = some t := by rw [ht]; exact List.getElem?_eq_getElem _
       obtain ⟨g, o, eg, hg, y0, _, _, _⟩ := HF.out k t ht2
       injection eg with eg
       injection eg with eg1 eg2
       subst eg1
       subst eg2
       have hd : ((l.map (·.r)).drop k).all ofN = (ofN t.r && ((l.map (·.r)).drop (k + 1)).all ofN) := by
        rw [all_drop (by rw [List.length_map]; exact hlt2), List.getElem_map, ← ht]
       obtain ⟨c, hc⟩ : ∃ c, c = t.r := ⟨_, rfl⟩
       rw [← hc] at y0 hd
       have HI2 : Hid (Z = (ofN c && ((l.map (·.r)).drop (k + 1)).all ofN && !xo)) := by show Z = _; rw [HI.out, hd]
       clear HI hd ht ht2 hc hlt2
       have k0 : (0 : Int) ≤ (k : Int) := Int.natCast_nonneg _
       have k1 : (k : Int) < (L : Int) := by omega
       have HBc := HB.out c w1
       have ho : ofN c = (!blk c && decide (31 < c) && !(c == 127) && !(c == 65533)) := rfl
       cases hb : blk c with
       | true =>
         rw [hb] at HBc ho
         have HE : Hid (Z = false) := by show Z = _; rw [HI2.out, ho]; simp
         have HB1 : Hid (Cz 123 _ _ _) := HBc
         clear HI2 ho hb HBc
         go_wp2_with fail
         refine (show Cz 123 _ _ _ from HB1.out).mono ?_
         rintro e3 wz ⟨rfl, hwz⟩
         subst wz
         go_wp2
         go_ret
         exact ⟨by rw [show Z = _ from HE.out]; rfl, O1.out⟩
       | false =>
         rw [hb] at HBc ho
         have HB1 : Hid (Cz 123 _ _ _) := HBc
         clear hb HBc
         by_cases h31 : 31 < c
         ·have i1 : decide ((c : Int) < 32) = false := decide_eq_false (by omega)
          by_cases h127 : c = 127
          ·have HE : Hid (Z = false) := by show Z = _; rw [HI2.out, ho, h127]; simp
           have i2 : ((c : Int) == 127) = true := by rw [h127]; rfl
           clear HI2 ho h127 h31
           go_wp2_with fail
           refine (show Cz 123 _ _ _ from HB1.out).mono ?_
           rintro e3 wz ⟨rfl, hwz⟩
           subst wz
           go_wp2
           go_ret
           exact ⟨by rw [show Z = _ from HE.out]; rfl, O1.out⟩
          ·have i2 : ((c : Int) == 127) = false := by simp; omega
           by_cases hfd : c = 65533
           ·have HE : Hid (Z = false) := by show Z = _; rw [HI2.out, ho, hfd]; simp
            have i3 : ((c : Int) == 65533) = true := by rw [hfd]; rfl
            clear HI2 ho h127 h31 hfd
            go_wp2_with fail
            refine (show Cz 123 _ _ _ from HB1.out).mono ?_
            rintro e3 wz ⟨rfl, hwz⟩
            subst wz
            go_wp2
            go_ret
            exact ⟨by rw [show Z = _ from HE.out]; rfl, O1.out⟩
           ·have i3 : ((c : Int) == 65533) = false := by simp; omega
            have HE : Hid (Z = (((l.map (·.r)).drop (k + 1)).all ofN && !xo)) := by
             show Z = _
             rw [HI2.out, ho, show (c == 127) = false by simpa using h127, show (c == 65533) = false by simpa using hfd, decide_eq_true h31]
             simp
            clear HI2 ho h127 h31 hfd
            go_wp2_with fail
            refine (show Cz 123 _ _ _ from HB1.out).mono ?_
            rintro e3 wz ⟨rfl, hwz⟩
            subst wz
            go_wp2
            go_roundw
            case rel => exact ⟨k + 1, by omega, by go_num, by simp, HE⟩
            case measure => simp only [uOf]; omega
         ·have i1 : (c : Int) < 32 := by omega
          have HE : Hid (Z = false) := by show Z = _; rw [HI2.out, ho, decide_eq_false h31]; simp
          clear HI2 ho h31
          go_wp2_with fail
          refine (show Cz 123 _ _ _ from HB1.out).mono ?_
          rintro e3 wz ⟨rfl, hwz⟩
          subst wz
          go_wp2
          go_ret
          exact ⟨by rw [show Z = _ from HE.out]; rfl, O1.out⟩
      ·have k1 : ¬ (k : Int) < (L : Int) := by omega
       have HE : Hid (Z = !xo) := by
        show Z = _
        rw [HI.out, List.drop_eq_nil_of_le (by rw [List.length_map]; have : L = l.length := HL.out; omega)]
        simp
       have HR : Hid (RdC w1 (.slice (some ⟨g0, o0, none⟩) L cap) l) := ⟨_, _, by rw [show L = l.length from HL.out], hcap, HF.out⟩
       clear HI
       go_wp2_with fail
       refine (show Cz 101 _ _ _ from HN.out _ _ HR.out).mono ?_
       rintro e2 w2 ⟨rfl, o2⟩
       have O2 : Hid (Oz w w2) := O1.out.trans o2 (fun _ _ x => x)
       clear HN HR o2
       go_wp2
       go_ret
       exact ⟨by rw [show Z = _ from HE.out]; rfl, O2.out⟩
  ·have b2 : decide ((32 : Int) < (L : Int)) = true := decide_eq_true (by omega)
   have HE : Hid (Z = false) := by show Z = _; rw [HZ.out, hml, decide_eq_false h32]; simp
   clear HZ fL hhd hml hL hl' h32
   go_wp2
   go_ret
   exact ⟨by rw [show Z = _ from HE.out]; rfl, O1.out⟩
end Go.Proofs.YtenjollhlgjjdaaGreatDoor
