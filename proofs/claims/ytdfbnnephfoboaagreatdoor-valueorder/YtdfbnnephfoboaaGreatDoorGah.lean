/- Values of any kind as the document's trees: how these lie in memory. What the document measures of a tree, and what the program does: the plain functions. Two values in their normal form are equal just if they are the same tree. -/
import Derived.Test.YtdfbnnephfoboaaGreatDoorGaa
import Derived.Test.YtdfbnnephfoboaaGreatDoorGac
import Derived.Test.YtdfbnnephfoboaaGreatDoorGaf
import Derived.Test.YtdfbnnephfoboaaGreatDoorGag
import Derived.Lib.ValidLaws
namespace Go.Proofs.YtdfbnnephfoboaaGreatDoor
open Go.RowKit
set_option linter.unusedSimpArgs false
set_option linter.unusedVariables false
/-- the number and the text that a tree of its kind has -/
def vnn (t : Vt) : Int := if t.k = 1 ∨ t.k = 6 then t.n else if t.k = 3 then (if t.n != 0 then 1 else 0) else 0
def vss (t : Vt) : ByteArray := if t.k = 2 ∨ t.k = 7 then t.s else ⟨#[]⟩
/-- a tree as values have it: no number and no text but where its kind has one -/
def NfT : Nat → Vt → Prop
  | 0, _ => False
  | d + 1, t => t.l.length ≤ 2600000000000 ∧ (-9223372036854775808 ≤ t.n ∧ t.n ≤ 9223372036854775807) ∧ t.n = vnn t ∧ t.s = vss t ∧ ∀ x ∈ t.l, NfT d x
theorem NfT.mono : ∀ {d d' : Nat} {t : Vt}, d ≤ d' → NfT d t → NfT d' t
  | 0, _, _, _, h => h.elim
  | d + 1, 0, t, hd, h => by omega
  | d + 1, e + 1, t, hd, h => ⟨h.1, h.2.1, h.2.2.1, h.2.2.2.1, fun x hx => (h.2.2.2.2 x hx).mono (by omega)⟩
theorem nf8 {d : Nat} : NfT (d + 1) ⟨8, 0, ⟨#[]⟩, []⟩ := ⟨Nat.zero_le _, ⟨by decide, by decide⟩, rfl, rfl, fun x hx => by cases hx⟩
theorem nm_nf : ∀ (d : Nat) (i : Bool) (t : Vt), SmT d t → NfT d (nm d i t)
  | 0, _, _, h => h.elim
  | d + 1, i, t, h => by
    obtain ⟨k, n, s, l⟩ := t
    obtain ⟨h1, h2, h3, h4, h5⟩ := h
    dsimp only at h1 h2 h3 h4 h5
    unfold nm
    dsimp only
    have z0 : (-9223372036854775808 : Int) ≤ 0 ∧ (0 : Int) ≤ 9223372036854775807 := ⟨by decide, by decide⟩
    split
    · exact ⟨Nat.zero_le _, h4, rfl, rfl, fun x hx => by cases hx⟩
    split
    · exact ⟨Nat.zero_le _, z0, rfl, rfl, fun x hx => by cases hx⟩
    split
    · refine ⟨Nat.zero_le _, ?_, ?_, rfl, fun x hx => by cases hx⟩ <;> dsimp only [vnn] <;> cases n != 0 <;> decide
    split
    · refine ⟨by simpa using h2, z0, rfl, rfl, fun x hx => ?_⟩
      obtain ⟨y, hy, rfl⟩ := List.mem_map.1 hx
      exact nm_nf d false y (h5 y hy)
    split
    · refine ⟨by simpa using h2, z0, rfl, rfl, fun x hx => ?_⟩
      obtain ⟨y, hy, rfl⟩ := List.mem_map.1 hx
      exact nm_nf d true y (h5 y hy)
    split
    · exact ⟨Nat.zero_le _, h4, rfl, rfl, fun x hx => by cases hx⟩
    split
    · exact ⟨Nat.zero_le _, z0, rfl, rfl, fun x hx => by cases hx⟩
    · exact nf8
def NuAt (w : World) (B d : Nat) (t : Vt) (lv : Value) : Prop := ∃ S, VsAt w S d t.l lv ∧ ∀ b, S b → B ≤ b ∧ b < w.heap.size
theorem NuAt.only {w w' : World} {B d : Nat} {t : Vt} {lv : Value} {bs : Nat → Prop} (h : NuAt w B d t lv) (o : Only bs w w') (hb : ∀ b, B ≤ b → ¬ bs b) : NuAt w' B d t lv := by
  obtain ⟨S, ht, hS⟩ := h
  exact ⟨S, ht.step (fun _ g => g) (fun a u hs hc => o.cell hc (hb _ (hS _ hs).1)) (Nat.le_refl _), fun b hbS => ⟨(hS b hbS).1, Nat.lt_of_lt_of_le (hS b hbS).2 o.size⟩⟩
theorem NuAt.lower {w : World} {B C d : Nat} {t : Vt} {lv : Value} (h : NuAt w B d t lv) (hC : C ≤ B) : NuAt w C d t lv := by
  obtain ⟨S, ht, hS⟩ := h
  exact ⟨S, ht, fun b hbS => ⟨Nat.le_trans hC (hS b hbS).1, (hS b hbS).2⟩⟩
theorem NuAt.deep {w : World} {B d d' : Nat} {t : Vt} {lv : Value} (h : NuAt w B d t lv) (hd : d ≤ d') : NuAt w B d' t lv := by
  obtain ⟨S, ht, hS⟩ := h
  exact ⟨S, ht.step (fun _ g => g) (fun _ _ _ g => g) hd, hS⟩
theorem nu_nil {w : World} {B d : Nat} {t : Vt} (h : t.l = []) : NuAt w B (d + 1) t (.slice none 0 0) :=
  ⟨fun _ => False, ⟨none, 0, by rw [h]; rfl, by rw [h]; exact Nat.zero_le _, fun i x hx => by rw [h] at hx; simp at hx⟩, fun b h => h.elim⟩
theorem NuAt.form {w : World} {B d : Nat} {t : Vt} {lv : Value} (h : NuAt w B d t lv) : ∃ ao cap, lv = .slice ao t.l.length cap := by
  obtain ⟨S, ht, _⟩ := h
  cases d with
  | zero => exact ht.elim
  | succ d => obtain ⟨ao, cap, hv, _⟩ := ht; exact ⟨ao, cap, hv⟩
/-- a row of the document's trees that was made since block B -/
def UrAt (w : World) (B d : Nat) (v : Value) (l : List Vt) : Prop :=
  ∃ us S, w.ownsRow B 24 4 v l.length us ∧ (∀ (j : Nat) (x : Vt), l[j]? = some x → ∃ lx, (us[j * 4]? = some (.int .i64 x.k) ∧ us[j * 4 + 1]? = some (.int .i64 (x.n)) ∧ us[j * 4 + 2]? = some (.string (x.s)) ∧ us[j * 4 + 3]? = some lx) ∧ VsAt w S d x.l lx) ∧ ∀ b, S b → B ≤ b ∧ b < w.heap.size ∧ v.ownBlock ≠ some b
theorem ur_nil (w : World) (B d : Nat) : UrAt w B d (.slice none 0 0) [] :=
  ⟨[], fun _ => False, ⟨rfl, .inl ⟨rfl, rfl⟩⟩, fun j x h => by simp at h, fun b h => h.elim⟩
theorem UrAt.form {w : World} {B d : Nat} {v : Value} {l : List Vt} (h : UrAt w B d v l) : ∃ ao cap, v = .slice ao l.length cap := by
  obtain ⟨us, S, ho, _⟩ := h
  rcases ho.2 with ⟨h1, h2⟩ | ⟨g, cap, cur, h1, _⟩
  · exact ⟨_, _, by rw [h1, h2]⟩
  · exact ⟨_, _, h1⟩
theorem UrAt.only {w w' : World} {B d : Nat} {v : Value} {l : List Vt} {bs : Nat → Prop} (h : UrAt w B d v l) (o : Only bs w w') (hb : ∀ b, B ≤ b → ¬ bs b) : UrAt w' B d v l := by
  obtain ⟨us, S, ho, ht, hS⟩ := h
  refine ⟨us, S, o.owns ho (fun k hk => hb k (ho.lt k hk).1), fun j x hx => ?_, fun b hbS => ?_⟩
  · obtain ⟨lx, hu, h2⟩ := ht j x hx
    exact ⟨lx, hu, h2.step (fun _ g => g) (fun a u hs hc => o.cell hc (hb _ (hS _ hs).1)) (Nat.le_refl _)⟩
  · obtain ⟨h1, h2, h3⟩ := hS b hbS
    exact ⟨h1, Nat.lt_of_lt_of_le h2 o.size, h3⟩
theorem UrAt.snoc {w w' : World} {B C d : Nat} {v v' : Value} {l : List Vt} {t : Vt} {lv : Value} {us : List Value} {S : Nat → Prop} (hg : w.grownBy w' v.ownBlock) (ho : w.ownsRow B 24 4 v l.length us) (ht : ∀ (j : Nat) (x : Vt), l[j]? = some x → ∃ lx, (us[j * 4]? = some (.int .i64 x.k) ∧ us[j * 4 + 1]? = some (.int .i64 (x.n)) ∧ us[j * 4 + 2]? = some (.string (x.s)) ∧ us[j * 4 + 3]? = some lx) ∧ VsAt w S d x.l lx) (hS : ∀ b, S b → B ≤ b ∧ b < w.heap.size ∧ v.ownBlock ≠ some b)
    (hn : NuAt w C d t lv) (hC : B ≤ C) (hv : ∀ k, v.ownBlock = some k → k < C) (ho' : w'.ownsRow B 24 4 v' (l.length + 1) (us ++ [.int .i64 t.k, .int .i64 (t.n), .string (t.s), lv])) (hat : v'.ownBlock = v.ownBlock ∨ v'.ownBlock = some w.heap.size) : UrAt w' B d v' (l ++ [t]) := by
  obtain ⟨S1, t1, s1⟩ := hn
  have oo : Only (fun k => v.ownBlock = some k) w w' := (Only.refl _ w).grown hg (fun k e _ => e)
  have a1 : ∀ b, S b → ¬ v.ownBlock = some b := fun b h => (hS b h).2.2
  have a2 : ∀ b, S1 b → ¬ v.ownBlock = some b := fun b h e => by have := hv b e; have := (s1 b h).1; omega
  have hl : us.length = l.length * 4 := ho.1
  refine ⟨_, fun b => S b ∨ S1 b, by simpa using ho', fun j x hx => ?_, fun b hb => ?_⟩
  · by_cases hj : j < l.length
    · rw [List.getElem?_append_left hj] at hx
      obtain ⟨lx, ⟨h0, h1, h2, h3⟩, h6⟩ := ht j x hx
      have ap : ∀ i u, us[i]? = some u → (us ++ [.int .i64 t.k, .int .i64 (t.n), .string (t.s), lv])[i]? = some u := fun i u hu => by
        rw [List.getElem?_append_left (List.getElem?_eq_some_iff.1 hu).1]; exact hu
      exact ⟨lx, ⟨ap _ _ h0, ap _ _ h1, ap _ _ h2, ap _ _ h3⟩, h6.step (fun _ g => .inl g) (fun a y hs hc => oo.cell hc (a1 _ hs)) (Nat.le_refl _)⟩
    · have hj2 : j < (l ++ [t]).length := (List.getElem?_eq_some_iff.1 hx).1
      have hj3 : j = l.length := by simp at hj2; omega
      subst hj3
      simp at hx
      subst hx
      have ap : ∀ i, (us ++ [.int .i64 t.k, .int .i64 (t.n), .string (t.s), lv])[l.length * 4 + i]? = ([.int .i64 t.k, .int .i64 (t.n), .string (t.s), lv] : List Value)[i]? := fun i => by
        rw [List.getElem?_append_right (by omega)]
        congr 1
        omega
      exact ⟨lv, ⟨ap 0, ap 1, ap 2, ap 3⟩, t1.step (fun _ g => .inr g) (fun a y hs hc => oo.cell hc (a2 _ hs)) (Nat.le_refl _)⟩
  · have h1 : B ≤ b ∧ b < w.heap.size ∧ v.ownBlock ≠ some b := by
      rcases hb with h | h
      · exact hS b h
      · exact ⟨Nat.le_trans hC (s1 b h).1, (s1 b h).2, a2 b h⟩
    refine ⟨h1.1, Nat.lt_of_lt_of_le h1.2.1 oo.size, ?_⟩
    rcases hat with e | e <;> rw [e]
    · exact h1.2.2
    · intro e2
      injection e2 with e2
      have := h1.2.1
      omega
/-- a row as the parts of a tree -/
theorem UrAt.tree {w : World} {B d : Nat} {v : Value} {l : List Vt} {t : Vt} (h : UrAt w B d v l) (e : t.l = l) : NuAt w B (d + 1) t v := by
  subst e
  obtain ⟨us, S, ho, ht, hS⟩ := h
  refine ⟨fun b => S b ∨ v.ownBlock = some b, ?_, fun b hb => ?_⟩
  · rcases ho.2 with ⟨rfl, h2⟩ | ⟨g, cap, cur, hv, hB, hg, hn, hcm, hcs, htk⟩
    · exact ⟨none, 0, by rw [h2], by omega, fun i x hx => by have := (List.getElem?_eq_some_iff.1 hx).1; omega⟩
    · refine ⟨some ⟨g, 0, none⟩, cap, hv, hn, fun i x hx => ?_⟩
      obtain ⟨lx, ⟨h0, h1, h2, h3⟩, h4⟩ := ht i x hx
      have hc : ∀ j u, us[j]? = some u → w.cell? ⟨g, 0 + j, none⟩ = some u := fun j u hu => by
        have := ho.cells (g := g) (by rw [hv]; rfl) j u hu
        rwa [addr_ad, ← Nat.zero_add j] at this
      exact ⟨g, 0, lx, rfl, .inr (by rw [hv]; rfl), ⟨hc _ _ h0, hc _ _ h1, hc _ _ h2, hc _ _ h3⟩, h4.step (fun _ g => .inl g) (fun _ _ _ g => g) (Nat.le_refl _)⟩
  · rcases hb with h | h
    · exact ⟨(hS b h).1, (hS b h).2.1⟩
    · exact ho.lt b h
/-- what a type assertion with two values answers -/
theorem uas_hit (T xt : TypeId) (D : TypeDesc) (hD : Tryz.prog.underlying T = some D) (hn : ∀ m, D ≠ .interface m) (x : Value) (W : World) : (Instr.typeAssert (.iface T x) xt T true).run Tryz.prog W = .ok (.tuple #[x, .bool true]) W := by
  simp only [Instr.typeAssert, Sem.run_bind, run_underlying hD, Result.andThen_ok]
  cases D <;> simp_all
theorem uas_miss (T U xt : TypeId) (D : TypeDesc) (hD : Tryz.prog.underlying U = some D) (hn : ∀ m, D ≠ .interface m) (hT : T ≠ U) (z : Value) (hz : ∀ W : World, (zeroValue U).run Tryz.prog W = .ok z W) (x : Value) (W : World) : (Instr.typeAssert (.iface T x) xt U true).run Tryz.prog W = .ok (.tuple #[z, .bool false]) W := by
  simp only [Instr.typeAssert, Sem.run_bind, run_underlying hD, Result.andThen_ok]
  cases D <;> simp_all
theorem uas_nil (U xt : TypeId) (D : TypeDesc) (hD : Tryz.prog.underlying U = some D) (hn : ∀ m, D ≠ .interface m) (z : Value) (hz : ∀ W : World, (zeroValue U).run Tryz.prog W = .ok z W) (W : World) : (Instr.typeAssert .nilIface xt U true).run Tryz.prog W = .ok (.tuple #[z, .bool false]) W := by
  simp only [Instr.typeAssert, Sem.run_bind, run_underlying hD, Result.andThen_ok]
  cases D <;> simp_all
/-- trees in a slice of values or items -/
def QiAt (w : World) (S : Nat → Prop) (d : Nat) (i : Bool) (v : Value) (l : List Vt) : Prop := ∃ ao cap, v = .slice ao l.length cap ∧ l.length ≤ cap ∧ ∀ (j : Nat) (x : Vt), l[j]? = some x → ∃ g k u, ao = some ⟨g, k, none⟩ ∧ S g ∧ w.cell? ⟨g, k + j, none⟩ = some u ∧ TiAt w S d i x u
theorem QiAt.step {w w' : World} {S S' : Nat → Prop} (hS : ∀ b, S b → S' b) (hk : ∀ (a : Addr) u, S a.block → w.cell? a = some u → w'.cell? a = some u) {d d' : Nat} {i : Bool} {l : List Vt} {v : Value} (hd : d ≤ d') (h : QiAt w S d i v l) : QiAt w' S' d' i v l := by
  obtain ⟨ao, cap, hv, hc, hl⟩ := h
  refine ⟨ao, cap, hv, hc, fun j x hx => ?_⟩
  obtain ⟨g, k, u, ha, hg, hu, ht⟩ := hl j x hx
  exact ⟨g, k, u, ha, hS g hg, hk _ _ hg hu, ht.step hS hk hd⟩
end Go.Proofs.YtdfbnnephfoboaaGreatDoor
namespace Go.Proofs.YtdfbnnephfoboaaGreatDoor
open Go.RowKit Go.Lib
set_option linter.unusedSimpArgs false
set_option linter.unusedVariables false
theorem validD_enL : ∀ (q : List Nat), VL q → validD (enL q) = true
  | [], _ => rfl
  | c :: q, h => by
    have hc : Vr c := h c (List.mem_cons_self ..)
    have e : enL (c :: q) = encodeRune (c : Int) ++ enL q := by simp [enL]
    have hd := decodeL_enc hc (enL q)
    have hw := wr_pos c
    have hne : enL (c :: q) ≠ [] := by
      rw [e]
      intro g
      have := congrArg List.length g
      rw [List.length_append, List.length_nil] at this
      unfold wr at hw
      omega
    rw [validD_step _ hne, e, hd]
    have h1 : ¬ (c = 65533 ∧ wr c = 1) := by
      rintro ⟨rfl, h⟩
      exact absurd h (by decide)
    rw [if_neg h1, show wr c = (encodeRune (c : Int)).length from rfl, List.drop_left]
    exact validD_enL q (fun x hx => h x (List.mem_cons_of_mem _ hx))
theorem validD_runes : ∀ (n : Nat) (l : List UInt8), l.length ≤ n → validD l = true → ∃ q, VL q ∧ l = enL q
  | 0, l, h, _ => ⟨[], fun c hc => by simp at hc, (List.length_eq_zero_iff.1 (Nat.le_zero.1 h)).trans rfl⟩
  | n + 1, l, h, hv => by
    by_cases hne : l = []
    · exact ⟨[], fun c hc => by simp at hc, by rw [hne]; rfl⟩
    · rw [validD_step _ hne] at hv
      by_cases hb : (decodeL l).1 = 65533 ∧ (decodeL l).2 = 1
      · rw [if_pos hb] at hv
        exact absurd hv (by decide)
      · rw [if_neg hb] at hv
        have he := encode_decode _ hne hb
        have hp : 1 ≤ (decodeL l).2 := by
          by_cases h0 : (decodeL l).2 = 0
          · rw [h0, List.take_zero] at he
            have := wr_pos (decodeL l).1
            unfold wr at this
            rw [he] at this
            simp at this
          · omega
        have hl : 0 < l.length := List.length_pos_iff.2 hne
        obtain ⟨q, hq, e⟩ := validD_runes n (l.drop (decodeL l).2) (by rw [List.length_drop]; omega) hv
        refine ⟨(decodeL l).1 :: q, fun c hc => ?_, ?_⟩
        · rcases List.mem_cons.1 hc with rfl | hc
          · exact decode_vr _ _
          · exact hq c hc
        · rw [show enL ((decodeL l).1 :: q) = encodeRune ((decodeL l).1 : Int) ++ enL q by simp [enL], he, ← e, List.take_append_drop]
/-- a text is one of characters just if no byte is astray -/
theorem vl_st (s : ByteArray) : vlB s = true ↔ ¬ stR s < s.size := by
  unfold vlB
  constructor
  · intro h
    obtain ⟨q, hq, e⟩ := validD_runes _ _ (Nat.le_refl _) h
    rw [tx_inj e]
    exact stR_tx hq
  · intro h
    obtain ⟨q, hq, rfl⟩ := valid_tx h
    rw [tx_data]
    exact validD_enL q hq
/-- a tree whose leaves have no parts -/
def LfT : Nat → Vt → Prop
  | 0, _ => False
  | d + 1, t => (¬ (t.k = 4 ∨ t.k = 5) → t.l = []) ∧ ∀ x ∈ t.l, LfT d x
theorem nm_lf : ∀ (d : Nat) (i : Bool) (t : Vt), SmT d t → LfT d (nm d i t)
  | 0, _, _, h => h.elim
  | d + 1, i, t, h => by
    obtain ⟨k, n, s, l⟩ := t
    obtain ⟨h1, h2, h3, h4, h5⟩ := h
    dsimp only at h5
    unfold nm
    dsimp only
    split
    · exact ⟨fun _ => rfl, fun x hx => by cases hx⟩
    split
    · exact ⟨fun _ => rfl, fun x hx => by cases hx⟩
    split
    · exact ⟨fun _ => rfl, fun x hx => by cases hx⟩
    split
    · refine ⟨fun g => absurd (.inl rfl) g, fun x hx => ?_⟩
      obtain ⟨y, hy, rfl⟩ := List.mem_map.1 hx
      exact nm_lf d false y (h5 y hy)
    split
    · refine ⟨fun g => absurd (.inr rfl) g, fun x hx => ?_⟩
      obtain ⟨y, hy, rfl⟩ := List.mem_map.1 hx
      exact nm_lf d true y (h5 y hy)
    split
    · exact ⟨fun _ => rfl, fun x hx => by cases hx⟩
    split
    · exact ⟨fun _ => rfl, fun x hx => by cases hx⟩
    · exact ⟨fun _ => rfl, fun x hx => by cases hx⟩
/-- is each part what it may be; the size, the depth, the height -/
def okD : Nat → Bool → Vt → Bool
  | 0, _, _ => false
  | d + 1, i, t => if t.k = 4 ∨ t.k = 5 then t.l.all (okD d (decide (t.k = 5))) else if i = true ∧ t.k = 7 then clB t.s else alB t
def szD : Nat → Vt → Nat
  | 0, _ => 1
  | d + 1, t => 1 + (t.l.map (szD d)).sum
def dpD : Nat → Vt → Nat
  | 0, _ => 0
  | d + 1, t => if t.k = 4 ∨ t.k = 5 then 1 + (t.l.map (dpD d)).foldl max 0 else 0
def hgD : Nat → Vt → Nat
  | 0, _ => 0
  | d + 1, t => (t.l.map fun x => 1 + hgD d x).foldl max 0
theorem al8 {t : Vt} (h : t.k = 8) : alB t = false := by simp [alB, h]
theorem al7 {t : Vt} (h : t.k = 7) : alB t = false := by simp [alB, h]
theorem ok_eq : ∀ (d : Nat) (t : Vt), LfT d t → ∀ (i : Bool) (F : Nat), 2 * d + 1 + (if i = true then 1 else 0) ≤ F → okV F i t = okD d i t ∧ sz F i t = szD d t ∧ dp F i t = dpD d t
  | 0, _, h, _, _, _ => h.elim
  | d + 1, t, h, i, F, hF => by
    have val : ∀ F', 2 * (d + 1) + 1 ≤ F' → okV F' false t = okD (d + 1) false t ∧ sz F' false t = szD (d + 1) t ∧ dp F' false t = dpD (d + 1) t := by
      intro F' hF'
      obtain ⟨G, rfl⟩ : ∃ G, F' = G + 1 := ⟨F' - 1, by omega⟩
      have ch : ∀ x ∈ t.l, ∀ j, okV G j x = okD d j x ∧ sz G j x = szD d x ∧ dp G j x = dpD d x := fun x hx j => ok_eq d x (h.2 x hx) j G (by split <;> omega)
      refine ⟨?_, ?_, ?_⟩
      · unfold okV okD
        by_cases hk : t.k = 4 ∨ t.k = 5
        · rw [if_pos hk, if_pos hk]
          rw [Bool.eq_iff_iff, List.all_eq_true, List.all_eq_true]
          exact ⟨fun g x hx => by rw [← (ch x hx _).1]; exact g x hx, fun g x hx => by rw [(ch x hx _).1]; exact g x hx⟩
        · rw [if_neg hk, if_neg hk, if_neg (fun g => by cases g.1)]
      · unfold sz szD
        rw [List.map_congr_left fun x hx => (ch x hx _).2.1]
      · unfold dp dpD
        rw [List.map_congr_left fun x hx => (ch x hx _).2.2]
    cases i with
    | false => exact val F (by simpa using hF)
    | true =>
      obtain ⟨G, rfl⟩ : ∃ G, F = G + 1 := ⟨F - 1, by simp at hF; omega⟩
      by_cases h7 : t.k = 7
      · have hl : t.l = [] := h.1 (by omega)
        refine ⟨?_, ?_, ?_⟩
        · unfold okV okD
          rw [if_pos h7, if_neg (by omega), if_pos ⟨rfl, h7⟩]
        · unfold sz szD
          rw [if_pos (.inl h7), hl]
          rfl
        · unfold dp dpD
          rw [if_pos (.inl h7), if_neg (by omega)]
      by_cases h8 : t.k = 8
      · have hl : t.l = [] := h.1 (by omega)
        refine ⟨?_, ?_, ?_⟩
        · unfold okV okD
          rw [if_neg h7, if_pos h8, if_neg (by omega), if_neg (fun g => h7 g.2), al8 h8]
        · unfold sz szD
          rw [if_pos (.inr h8), hl]
          rfl
        · unfold dp dpD
          rw [if_pos (.inr h8), if_neg (by omega)]
      obtain ⟨v1, v2, v3⟩ := val G (by simp at hF; omega)
      refine ⟨?_, ?_, ?_⟩
      · rw [show okV (G + 1) true t = okV G false t from (show (if t.k = 7 then clB t.s else if t.k = 8 then false else okV G false t) = okV G false t by rw [if_neg h7, if_neg h8]), v1]
        unfold okD
        rw [if_neg (fun g : false = true ∧ t.k = 7 => by cases g.1), if_neg (fun g : true = true ∧ t.k = 7 => h7 g.2)]
      · rw [show sz (G + 1) true t = sz G false t from (show (if t.k = 7 ∨ t.k = 8 then 1 else sz G false t) = sz G false t by rw [if_neg (fun g => g.elim h7 h8)]), v2]
      · rw [show dp (G + 1) true t = dp G false t from (show (if t.k = 7 ∨ t.k = 8 then 0 else dp G false t) = dp G false t by rw [if_neg (fun g => g.elim h7 h8)]), v3]
theorem okD_val {d : Nat} {t : Vt} : okD (d + 1) false t = (decide (t.k ≠ 7) && okD (d + 1) true t) := by
  unfold okD
  by_cases hk : t.k = 4 ∨ t.k = 5
  · rw [if_pos hk, if_pos hk, decide_eq_true (p := t.k ≠ 7) (by omega), Bool.true_and]
  · rw [if_neg hk, if_neg hk, if_neg (fun g => by cases g.1)]
    by_cases h7 : t.k = 7
    · rw [al7 h7, decide_eq_false (p := _ ≠ 7) (fun g => g h7), Bool.false_and]
    · rw [if_neg (fun g => h7 g.2), decide_eq_true h7, Bool.true_and]
theorem fold_le : ∀ (l : List Nat) (a b : Nat), l.foldl max a ≤ b ↔ a ≤ b ∧ ∀ x ∈ l, x ≤ b
  | [], a, b => by simp
  | x :: l, a, b => by
    rw [List.foldl_cons, fold_le l]
    simp only [List.mem_cons, forall_eq_or_imp]
    constructor
    · rintro ⟨h1, h2⟩; exact ⟨by omega, by omega, h2⟩
    · rintro ⟨h1, h2, h3⟩; exact ⟨by omega, h3⟩
theorem hg_dp : ∀ (d : Nat) (t : Vt), LfT d t → hgD d t ≤ dpD d t
  | 0, _, h => h.elim
  | d + 1, t, h => by
    unfold hgD dpD
    by_cases hk : t.k = 4 ∨ t.k = 5
    · rw [if_pos hk, fold_le]
      refine ⟨Nat.zero_le _, fun x hx => ?_⟩
      obtain ⟨y, hy, rfl⟩ := List.mem_map.1 hx
      have h1 := hg_dp d y (h.2 y hy)
      have h2 := ((fold_le (t.l.map (dpD d)) 0 _).1 (Nat.le_refl _)).2 _ (List.mem_map.2 ⟨y, hy, rfl⟩)
      omega
    · rw [h.1 hk]
      exact Nat.zero_le _
/-- what Measure answers: of the parts, one behind the other; of a tree -/
def mzL (f : Vt → Int → Int × Int × Bool) (k4 : Bool) (left : Int) : List Vt → Int → Int → Int × Int × Bool
  | [], z, p => (z, p + 1, decide (p < 32))
  | x :: r, z, p => if k4 = true ∧ x.k = 7 then (0, 0, false) else if (f x (left - z)).2.2 = true then mzL f k4 left r (z + (f x (left - z)).1) (max p (f x (left - z)).2.1) else (0, 0, false)
def mz : Nat → Vt → Int → Int → Int × Int × Bool
  | 0, _, _, _ => (0, 0, false)
  | d + 1, t, left, nest => if left < 1 ∨ 32 < nest then (0, 0, false) else if t.k = 4 ∨ t.k = 5 then mzL (fun x lf => mz d x lf (nest + 1)) (decide (t.k = 4)) left t.l 1 0
    else if 1 ≤ t.k ∧ t.k ≤ 7 then (1, 0, if t.k = 7 then clB t.s else alB t) else (0, 0, false)
theorem mzL_bd (f : Vt → Int → Int × Int × Bool) (k4 : Bool) (left : Int) (hf : ∀ x lf, (f x lf).2.2 = true → 1 ≤ (f x lf).1 ∧ (f x lf).1 ≤ lf ∧ 0 ≤ (f x lf).2.1 ∧ (f x lf).2.1 ≤ 32) : ∀ (l : List Vt) (z p : Int), 1 ≤ z → z ≤ left → 0 ≤ p → (mzL f k4 left l z p).2.2 = true → 1 ≤ (mzL f k4 left l z p).1 ∧ (mzL f k4 left l z p).1 ≤ left ∧ 0 ≤ (mzL f k4 left l z p).2.1 ∧ (mzL f k4 left l z p).2.1 ≤ 32
  | [], z, p, h1, h2, h3, h => by
    simp only [mzL, decide_eq_true_eq] at h ⊢
    omega
  | x :: r, z, p, h1, h2, h3, h => by
    unfold mzL at h ⊢
    by_cases c1 : k4 = true ∧ x.k = 7
    · rw [if_pos c1] at h; exact absurd h (by decide)
    · rw [if_neg c1] at h ⊢
      by_cases c2 : (f x (left - z)).2.2 = true
      · rw [if_pos c2] at h ⊢
        have := hf x _ c2
        exact mzL_bd f k4 left hf r _ _ (by omega) (by omega) (by omega) h
      · rw [if_neg c2] at h; exact absurd h (by decide)
theorem mz_bd : ∀ (d : Nat) (t : Vt) (left nest : Int), (mz d t left nest).2.2 = true → 1 ≤ (mz d t left nest).1 ∧ (mz d t left nest).1 ≤ left ∧ 0 ≤ (mz d t left nest).2.1 ∧ (mz d t left nest).2.1 ≤ 32
  | 0, _, _, _, h => absurd h (by simp [mz])
  | d + 1, t, left, nest, h => by
    unfold mz at h ⊢
    by_cases c1 : left < 1 ∨ 32 < nest
    · rw [if_pos c1] at h; exact absurd h (by decide)
    rw [if_neg c1] at h ⊢
    by_cases c2 : t.k = 4 ∨ t.k = 5
    · rw [if_pos c2] at h ⊢
      exact mzL_bd _ _ left (fun x lf g => mz_bd d x lf _ g) t.l 1 0 (by omega) (by omega) (by omega) h
    rw [if_neg c2] at h ⊢
    by_cases c3 : 1 ≤ t.k ∧ t.k ≤ 7
    · rw [if_pos c3] at h ⊢
      refine ⟨?_, ?_, ?_, ?_⟩ <;> dsimp only <;> omega
    · rw [if_neg c3] at h; exact absurd h (by decide)
def MzS (d : Nat) (x : Vt) (nest : Int) (r : Int → Int × Int × Bool) : Prop := ∀ left, ((r left).2.2 = true ↔ okD d true x = true ∧ (szD d x : Int) ≤ left ∧ dpD d x ≤ 32 ∧ nest + hgD d x ≤ 32) ∧ ((r left).2.2 = true → (r left).1 = szD d x ∧ (r left).2.1 = dpD d x)
theorem szD_pos : ∀ (d : Nat) (t : Vt), 1 ≤ szD d t
  | 0, _ => Nat.le_refl _
  | d + 1, t => by unfold szD; omega
theorem mzL_spec (d : Nat) (f : Vt → Int → Int × Int × Bool) (k4 : Bool) (left nest : Int) : ∀ (l : List Vt) (z p : Nat), (∀ x ∈ l, (∃ e, d = e + 1) ∧ MzS d x (nest + 1) (f x)) → (z : Int) ≤ left →
    ((mzL f k4 left l z p).2.2 = true ↔ l.all (okD d (!k4)) = true ∧ ((z + (l.map (szD d)).sum : Nat) : Int) ≤ left ∧ (l.map (dpD d)).foldl max p < 32 ∧ ∀ x ∈ l, nest + 1 + hgD d x ≤ 32) ∧ ((mzL f k4 left l z p).2.2 = true → (mzL f k4 left l z p).1 = ((z + (l.map (szD d)).sum : Nat) : Int) ∧ (mzL f k4 left l z p).2.1 = (((l.map (dpD d)).foldl max p : Nat) : Int) + 1)
  | [], z, p, _, hz => by
    simp only [mzL, List.all_nil, List.map_nil, List.sum_nil, List.foldl_nil, decide_eq_true_eq, List.not_mem_nil, false_implies, implies_true, and_true, true_and, Nat.add_zero]
    constructor
    · intro h; exact ⟨hz, by omega⟩
    · rintro ⟨_, h⟩; omega
  | x :: r, z, p, hf, hz => by
    obtain ⟨⟨e, rfl⟩, hx⟩ := hf x (List.mem_cons_self ..)
    obtain ⟨s1, s2⟩ := hx (left - z)
    have hp := szD_pos (e + 1) x
    unfold mzL
    by_cases c1 : k4 = true ∧ x.k = 7
    · rw [if_pos c1]
      refine ⟨⟨fun g => absurd g (by decide), fun g => ?_⟩, fun g => absurd g (by decide)⟩
      have := g.1
      rw [List.all_cons, c1.1, Bool.not_true, okD_val, decide_eq_false (p := x.k ≠ 7) (fun g => g c1.2), Bool.false_and, Bool.false_and] at this
      exact absurd this (by decide)
    rw [if_neg c1]
    have okx : okD (e + 1) (!k4) x = okD (e + 1) true x := by
      cases k4 with
      | false => rfl
      | true => rw [Bool.not_true, okD_val, decide_eq_true (p := x.k ≠ 7) (fun g => c1 ⟨rfl, g⟩), Bool.true_and]
    by_cases c2 : (f x (left - z)).2.2 = true
    · rw [if_pos c2]
      obtain ⟨q1, q2⟩ := s2 c2
      obtain ⟨o1, o2, o3, o4⟩ := s1.1 c2
      have ih := mzL_spec (e + 1) f k4 left nest r (z + szD (e + 1) x) (max p (dpD (e + 1) x)) (fun y hy => hf y (List.mem_cons_of_mem _ hy)) (by omega)
      have e1 : (z : Int) + (f x (left - z)).1 = ((z + szD (e + 1) x : Nat) : Int) := by rw [q1]; omega
      have e2 : max (p : Int) (f x (left - z)).2.1 = ((max p (dpD (e + 1) x) : Nat) : Int) := by rw [q2]; omega
      rw [e1, e2]
      simp only [List.all_cons, List.map_cons, List.sum_cons, List.foldl_cons, List.mem_cons, forall_eq_or_imp, Bool.and_eq_true, okx]
      rw [← Nat.add_assoc]
      refine ⟨?_, ih.2⟩
      rw [ih.1]
      exact ⟨fun ⟨a, b, c, g⟩ => ⟨⟨o1, a⟩, b, c, o4, g⟩, fun ⟨⟨_, a⟩, b, c, _, g⟩ => ⟨a, b, c, g⟩⟩
    · rw [if_neg c2]
      refine ⟨⟨fun g => absurd g (by decide), fun g => ?_⟩, fun g => absurd g (by decide)⟩
      obtain ⟨a, b, c, g⟩ := g
      simp only [List.all_cons, List.map_cons, List.sum_cons, List.foldl_cons, List.mem_cons, forall_eq_or_imp, Bool.and_eq_true, okx] at a b c g
      refine absurd (s1.2 ⟨a.1, by omega, ?_, g.1⟩) c2
      have := (fold_le (r.map (dpD (e + 1))) (max p (dpD (e + 1) x)) 31).1 (by omega)
      omega
theorem mz_spec : ∀ (d : Nat) (t : Vt) (nest : Int), LfT d t → 0 ≤ nest → MzS d t nest (fun left => mz d t left nest)
  | 0, _, _, h, _ => h.elim
  | d + 1, t, nest, h, hn => by
    intro left
    dsimp only
    have hp := szD_pos (d + 1) t
    unfold mz
    by_cases c1 : left < 1 ∨ 32 < nest
    · rw [if_pos c1]
      exact ⟨⟨fun g => absurd g (by decide), fun ⟨_, g1, _, g2⟩ => by omega⟩, fun g => absurd g (by decide)⟩
    rw [if_neg c1]
    by_cases c2 : t.k = 4 ∨ t.k = 5
    · rw [if_pos c2]
      have key := mzL_spec d (fun x lf => mz d x lf (nest + 1)) (decide (t.k = 4)) left nest t.l 1 0 (fun x hx => ⟨by
        cases d with
        | zero => exact (h.2 x hx).elim
        | succ d => exact ⟨d, rfl⟩, mz_spec d x (nest + 1) (h.2 x hx) (by omega)⟩) (by omega)
      have e5 : (!decide (t.k = 4)) = decide (t.k = 5) := by
        rcases c2 with c | c
        · rw [c]; rfl
        · rw [c]; rfl
      rw [e5] at key
      have e0 : ((1 : Nat) : Int) = 1 := rfl
      have e00 : ((0 : Nat) : Int) = 0 := rfl
      rw [e0, e00] at key
      obtain ⟨k1, k2⟩ := key
      have hh : (nest + hgD (d + 1) t ≤ 32) ↔ ∀ x ∈ t.l, nest + 1 + hgD d x ≤ 32 := by
        rw [show hgD (d + 1) t = (t.l.map fun x => 1 + hgD d x).foldl max 0 from rfl]
        constructor
        · intro g x hx
          have := ((fold_le (t.l.map fun x => 1 + hgD d x) 0 _).1 (Nat.le_refl _)).2 _ (List.mem_map.2 ⟨x, hx, rfl⟩)
          omega
        · intro g
          obtain ⟨m, hm⟩ : ∃ m : Nat, nest + m = 32 := ⟨(32 - nest).toNat, by omega⟩
          have := (fold_le (t.l.map fun x => 1 + hgD d x) 0 m).2 ⟨Nat.zero_le _, fun y hy => by
            obtain ⟨x, hx, rfl⟩ := List.mem_map.1 hy
            have := g x hx
            omega⟩
          omega
      have ho : okD (d + 1) true t = t.l.all (okD d (decide (t.k = 5))) := by unfold okD; rw [if_pos c2]
      have hd : dpD (d + 1) t = 1 + (t.l.map (dpD d)).foldl max 0 := by unfold dpD; rw [if_pos c2]
      refine ⟨?_, fun g => ?_⟩
      · rw [k1, hh, ho, hd]
        constructor
        · rintro ⟨a, b, c, g⟩; exact ⟨a, b, by omega, g⟩
        · rintro ⟨a, b, c, g⟩; exact ⟨a, b, by omega, g⟩
      · obtain ⟨a, b⟩ := k2 g
        exact ⟨a, by rw [b, hd]; omega⟩
    rw [if_neg c2]
    have hl : t.l = [] := h.1 c2
    have hs : szD (d + 1) t = 1 := by unfold szD; rw [hl]; rfl
    have hd : dpD (d + 1) t = 0 := by unfold dpD; rw [if_neg c2]
    have hg : hgD (d + 1) t = 0 := by unfold hgD; rw [hl]; rfl
    have ho : okD (d + 1) true t = if t.k = 7 then clB t.s else alB t := by
      unfold okD
      rw [if_neg c2]
      by_cases h7 : t.k = 7
      · rw [if_pos h7, if_pos ⟨rfl, h7⟩]
      · rw [if_neg h7, if_neg (fun g => h7 g.2)]
    by_cases c3 : 1 ≤ t.k ∧ t.k ≤ 7
    · rw [if_pos c3]
      dsimp only
      rw [hs, hd, hg, ho]
      exact ⟨⟨fun g => ⟨g, by omega, by omega, by omega⟩, fun g => g.1⟩, fun _ => ⟨rfl, rfl⟩⟩
    · rw [if_neg c3]
      refine ⟨⟨fun g => absurd g (by decide), fun g => ?_⟩, fun g => absurd g (by decide)⟩
      have g1 := g.1
      rw [ho, if_neg (by omega)] at g1
      unfold alB at g1
      rw [if_neg (by omega), if_neg (by omega), if_neg (by omega), decide_eq_true_eq] at g1
      omega
/-- is a tree sound, as the document has it? -/
def dsB (d : Nat) (t : Vt) : Bool := (mz d t 1024 0).2.2 && decide (t.k ≠ 7)
theorem ds_sd {d D : Nat} {t : Vt} (h : LfT d t) (hD : 2 * d + 1 ≤ D) : sdB D t = dsB d t := by
  have h1 := ok_eq d t h false D (by simpa using hD)
  have h2 := (mz_spec d t 0 h (Int.le_refl _) 1024).1
  have h3 := hg_dp d t h
  unfold sdB msB dsB
  rw [h1.1, h1.2.1, h1.2.2]
  cases d with
  | zero => exact h.elim
  | succ d =>
    rw [okD_val, Bool.eq_iff_iff]
    simp only [Bool.and_eq_true, decide_eq_true_eq, Nat.zero_add]
    dsimp only at h2
    rw [h2]
    constructor
    · rintro ⟨⟨⟨a, b⟩, c⟩, g⟩; exact ⟨⟨b, by omega, g, by omega⟩, a⟩
    · rintro ⟨⟨a, b, c, _⟩, g⟩; exact ⟨⟨⟨g, a⟩, by omega⟩, c⟩
theorem smL_congr {f g : Vt → Vt → Bool} : ∀ (a b : List Vt), (∀ x ∈ a, ∀ y ∈ b, f x y = g x y) → smL f a b = smL g a b
  | [], [], _ => rfl
  | [], _ :: _, _ => rfl
  | _ :: _, [], _ => rfl
  | x :: a, y :: b, h => by
    show (f x y && smL f a b) = (g x y && smL g a b)
    rw [h x (List.mem_cons_self ..) y (List.mem_cons_self ..), smL_congr a b (fun x hx y hy => h x (List.mem_cons_of_mem _ hx) y (List.mem_cons_of_mem _ hy))]
theorem sm_sa : ∀ (d : Nat) (a b : Vt), LfT d a → LfT d b → ∀ (i : Bool) (F : Nat), 2 * d + 1 + (if i = true then 1 else 0) ≤ F → okD d i a = true → smV F i a b = saV d a b
  | 0, _, _, h, _, _, _, _, _ => h.elim
  | d + 1, a, b, ha, hb, i, F, hF, hok => by
    have val : ∀ F', 2 * (d + 1) + 1 ≤ F' → a.k ≠ 7 → smV F' false a b = saV (d + 1) a b := by
      intro F' hF' h7
      obtain ⟨G, rfl⟩ : ∃ G, F' = G + 1 := ⟨F' - 1, by omega⟩
      unfold smV saV
      by_cases hk : a.k = b.k
      · rw [← hk, decide_eq_true rfl, Bool.true_and, Bool.true_and]
        by_cases hl : a.k = 4 ∨ a.k = 5
        · rw [if_neg (by omega), if_neg (by omega), if_neg (by omega)]
          have hs : saL a.k a.n b.n a.s b.s = true := by
            unfold saL
            rw [if_neg (by omega), if_neg (by omega), if_neg (by omega)]
          rw [hs, Bool.and_true]
          have hall : ∀ x ∈ a.l, okD d (decide (a.k = 5)) x = true := by
            unfold okD at hok
            rw [if_pos hl, List.all_eq_true] at hok
            exact hok
          rw [smL_congr a.l b.l (fun x hx y hy => sm_sa d x y (ha.2 x hx) (hb.2 y hy) (decide (a.k = 5)) G (by split <;> omega) (hall x hx))]
          by_cases hlen : a.l.length = b.l.length
          · rw [decide_eq_true hlen, Bool.true_and]
          · rw [smL_len _ _ _ hlen, Bool.and_false]
        · have la := ha.1 hl
          have lb := hb.1 (by omega)
          rw [la, lb]
          show _ = (decide (0 = 0) && saL a.k a.n b.n a.s b.s && true)
          rw [decide_eq_true rfl, Bool.true_and, Bool.and_true]
          unfold saL
          by_cases h1 : a.k = 1 ∨ a.k = 6
          · rw [if_pos h1, if_pos h1]
          rw [if_neg h1, if_neg h1]
          by_cases h2 : a.k = 2
          · rw [if_pos h2, if_neg (by omega), if_pos (.inl h2)]
          rw [if_neg h2]
          by_cases h3 : a.k = 3
          · rw [if_pos h3, if_pos h3]
          rw [if_neg h3, if_neg h3, if_neg (by omega)]
          rfl
      · rw [decide_eq_false hk, Bool.false_and, Bool.false_and, Bool.false_and, Bool.false_and]
    cases i with
    | false =>
      refine val F (by simpa using hF) (fun h7 => ?_)
      rw [okD_val, decide_eq_false (p := _ ≠ 7) (fun g => g h7), Bool.false_and] at hok
      exact absurd hok (by decide)
    | true =>
      obtain ⟨G, rfl⟩ : ∃ G, F = G + 1 := ⟨F - 1, by simp at hF; omega⟩
      by_cases h7 : a.k = 7 ∨ b.k = 7
      · rw [show smV (G + 1) true a b = (decide (a.k = 7) && decide (b.k = 7) && (a.s.toList == b.s.toList)) from (show (if a.k = 7 ∨ b.k = 7 then decide (a.k = 7) && decide (b.k = 7) && (a.s.toList == b.s.toList) else smV G false a b) = _ by rw [if_pos h7])]
        unfold saV
        by_cases hk : a.k = b.k
        · have a7 : a.k = 7 := by omega
          have b7 : b.k = 7 := by omega
          rw [ha.1 (by omega), hb.1 (by omega), a7, b7]
          show _ = (decide ((7 : Int) = 7) && decide (0 = 0) && saL 7 a.n b.n a.s b.s && true)
          rw [show saL 7 a.n b.n a.s b.s = (a.s.toList == b.s.toList) from by unfold saL; rw [if_neg (by omega), if_neg (by omega), if_pos (.inr rfl)]]
          simp
        · rw [decide_eq_false hk, Bool.false_and, Bool.false_and, Bool.false_and]
          rcases h7 with h7 | h7
          · rw [decide_eq_false (p := b.k = 7) (by omega), Bool.and_false, Bool.false_and]
          · rw [decide_eq_false (p := a.k = 7) (by omega), Bool.false_and, Bool.false_and]
      · rw [show smV (G + 1) true a b = smV G false a b from (show (if a.k = 7 ∨ b.k = 7 then decide (a.k = 7) && decide (b.k = 7) && (a.s.toList == b.s.toList) else smV G false a b) = smV G false a b by rw [if_neg h7])]
        exact val G (by simp at hF; omega) (fun g => h7 (.inl g))
end Go.Proofs.YtdfbnnephfoboaaGreatDoor
namespace Go.Proofs.YtdfbnnephfoboaaGreatDoor
open Go.RowKit Go.Lib
set_option linter.unusedSimpArgs false
set_option linter.unusedVariables false
theorem vt_ext {a b : Vt} (h1 : a.k = b.k) (h2 : a.n = b.n) (h3 : a.s = b.s) (h4 : a.l = b.l) : a = b := by
  cases a; cases b
  simp only at h1 h2 h3 h4
  subst h1 h2 h3 h4
  rfl
theorem bytes_same {a b : ByteArray} : (a.toList == b.toList) = true ↔ a = b := by
  constructor
  · intro h
    have h := beq_iff_eq.1 h
    rw [ByteArray.toList_eq, ByteArray.toList_eq] at h
    exact ByteArray.ext (Array.toList_inj.1 h)
  · intro h; rw [h]; simp
theorem smL_eq (f : Vt → Vt → Bool) : ∀ (a b : List Vt), (∀ x ∈ a, ∀ y ∈ b, (f x y = true ↔ x = y)) → (smL f a b = true ↔ a = b)
  | [], [], _ => by simp [smL]
  | [], y :: b, _ => by simp [smL]
  | x :: a, [], _ => by simp [smL]
  | x :: a, y :: b, h => by
    have h1 := h x (.head _) y (.head _)
    have h2 := smL_eq f a b (fun x' hx y' hy => h x' (.tail _ hx) y' (.tail _ hy))
    rw [show smL f (x :: a) (y :: b) = (f x y && smL f a b) from rfl, Bool.and_eq_true, h1, h2]
    simp
theorem ok_kind {d : Nat} {t : Vt} (h : okV (d + 1) false t = true) : t.k = 1 ∨ t.k = 2 ∨ t.k = 3 ∨ t.k = 4 ∨ t.k = 5 ∨ t.k = 6 := by
  by_cases hk : t.k = 4 ∨ t.k = 5
  · omega
  · rw [show okV (d + 1) false t = alB t from if_neg hk] at h
    unfold alB at h
    split at h
    · omega
    split at h
    · omega
    split at h
    · omega
    · have := of_decide_eq_true h
      omega
theorem sm_eq : ∀ (D : Nat) (i : Bool) (a b : Vt) (e : Nat), okV D i a = true → okV D i b = true → NfT e a → NfT e b → LfT e a → LfT e b → (smV D i a b = true ↔ a = b)
  | 0, _, _, _, _, h, _, _, _, _, _ => by cases h
  | D + 1, true, a, b, e, h1, h2, n1, n2, l1, l2 => by
    cases e with
    | zero => exact n1.elim
    | succ e =>
      by_cases h7 : a.k = 7 ∨ b.k = 7
      · rw [show smV (D + 1) true a b = (decide (a.k = 7) && decide (b.k = 7) && (a.s.toList == b.s.toList)) from if_pos h7]
        simp only [Bool.and_eq_true, decide_eq_true_eq, bytes_same]
        constructor
        · rintro ⟨⟨ka, kb⟩, hs⟩
          refine vt_ext (ka.trans kb.symm) ?_ hs ?_
          · have va : vnn a = 0 := (if_neg (by omega)).trans (if_neg (by omega))
            have vb : vnn b = 0 := (if_neg (by omega)).trans (if_neg (by omega))
            rw [n1.2.2.1, n2.2.2.1, va, vb]
          · rw [l1.1 (by omega), l2.1 (by omega)]
        · intro he
          subst he
          exact ⟨⟨by omega, by omega⟩, rfl⟩
      · have ka : a.k ≠ 7 := fun g => h7 (.inl g)
        have kb : b.k ≠ 7 := fun g => h7 (.inr g)
        have e1 : okV (D + 1) true a = if a.k = 8 then false else okV D false a := if_neg ka
        have e2 : okV (D + 1) true b = if b.k = 8 then false else okV D false b := if_neg kb
        rw [e1] at h1
        rw [e2] at h2
        split at h1
        · cases h1
        split at h2
        · cases h2
        rw [show smV (D + 1) true a b = smV D false a b from if_neg h7]
        exact sm_eq D false a b (e + 1) h1 h2 n1 n2 l1 l2
  | D + 1, false, a, b, e, h1, h2, n1, n2, l1, l2 => by
    cases e with
    | zero => exact n1.elim
    | succ e =>
      have ka := ok_kind h1
      have kb := ok_kind h2
      obtain ⟨_, _, na, sa, pa⟩ := n1
      obtain ⟨_, _, nb, sb, pb⟩ := n2
      have es : smV (D + 1) false a b = (decide (a.k = b.k) && (if a.k = 1 ∨ a.k = 6 then a.n == b.n else if a.k = 2 then a.s.toList == b.s.toList else if a.k = 3 then (a.n != 0) == (b.n != 0) else smL (smV D (decide (a.k = 5))) a.l b.l)) := rfl
      rw [es, Bool.and_eq_true, decide_eq_true_eq]
      by_cases hk : a.k = b.k
      · have hs2 : a.k ≠ 2 → a.s = b.s := fun g => by
          have va : vss a = ⟨#[]⟩ := if_neg (by omega)
          have vb : vss b = ⟨#[]⟩ := if_neg (by omega)
          rw [sa, sb, va, vb]
        have hl0 : ¬ (a.k = 4 ∨ a.k = 5) → a.l = b.l := fun g => by rw [l1.1 g, l2.1 (by omega)]
        have hn0 : ¬ (a.k = 1 ∨ a.k = 6) → a.k ≠ 3 → a.n = b.n := fun g g3 => by
          have va : vnn a = 0 := (if_neg g).trans (if_neg g3)
          have vb : vnn b = 0 := (if_neg (by omega)).trans (if_neg (by omega))
          rw [na, nb, va, vb]
        by_cases k1 : a.k = 1 ∨ a.k = 6
        · rw [if_pos k1, beq_iff_eq]
          exact ⟨fun g => vt_ext hk g.2 (hs2 (by omega)) (hl0 (by omega)), fun g => by subst g; exact ⟨rfl, rfl⟩⟩
        · rw [if_neg k1]
          by_cases k2 : a.k = 2
          · rw [if_pos k2, bytes_same]
            exact ⟨fun g => vt_ext hk (hn0 k1 (by omega)) g.2 (hl0 (by omega)), fun g => by subst g; exact ⟨rfl, rfl⟩⟩
          · rw [if_neg k2]
            by_cases k3 : a.k = 3
            · rw [if_pos k3, beq_iff_eq]
              refine ⟨fun g => vt_ext hk ?_ (hs2 k2) (hl0 (by omega)), fun g => by subst g; exact ⟨rfl, rfl⟩⟩
              have va : vnn a = if a.n != 0 then 1 else 0 := (if_neg k1).trans (if_pos k3)
              have vb : vnn b = if b.n != 0 then 1 else 0 := (if_neg (by omega)).trans (if_pos (by omega))
              rw [na, nb, va, vb, g.2]
            · rw [if_neg k3]
              have k45 : a.k = 4 ∨ a.k = 5 := by omega
              rw [show okV (D + 1) false a = a.l.all (okV D (decide (a.k = 5))) from if_pos k45] at h1
              rw [show okV (D + 1) false b = b.l.all (okV D (decide (b.k = 5))) from if_pos (by omega), ← hk] at h2
              rw [smL_eq (smV D (decide (a.k = 5))) a.l b.l (fun x hx y hy => sm_eq D _ x y e (List.all_eq_true.1 h1 x hx) (List.all_eq_true.1 h2 y hy) (pa x hx) (pb y hy) (l1.2 x hx) (l2.2 y hy))]
              exact ⟨fun g => vt_ext hk (hn0 k1 k3) (hs2 k2) g.2, fun g => by subst g; exact ⟨rfl, rfl⟩⟩
      · exact ⟨fun g => absurd g.1 hk, fun g => by subst g; exact absurd rfl hk⟩
/-- the same of what comes in as trees -/
theorem sm_nm {d D : Nat} {a b : Vt} (sa : SmT d a) (sb : SmT d b) (h1 : sdB D (nm d false a) = true) (h2 : sdB D (nm d false b) = true) : smV D false (nm d false a) (nm d false b) = true ↔ nm d false a = nm d false b := by
  unfold sdB msB at h1 h2
  simp only [Bool.and_eq_true] at h1 h2
  exact sm_eq D false _ _ d h1.1.1 h2.1.1 (nm_nf d false a sa) (nm_nf d false b sb) (nm_lf d false a sa) (nm_lf d false b sb)
end Go.Proofs.YtdfbnnephfoboaaGreatDoor
