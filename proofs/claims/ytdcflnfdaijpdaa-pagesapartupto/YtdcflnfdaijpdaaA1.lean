/- Pages that are written on a disk that lives on: what is read then; what lies in memory meanwhile. -/
import Derived.Test.YtdcflnfdaijpdaaIn2
namespace Go.Proofs.Ytdcflnfdaijpdaa
open Go.RowKit
set_option linter.unusedSimpArgs false
set_option linter.unusedVariables false

theorem write_live (d : DS) (k : Nat) (f : Nat → Int) (hl : d.life = -1) (hk : k < d.n) : d.write k f 32 = (0, { d with sec := upd d.sec k f, pend := d.pend ++ [⟨k, d.sec k, f⟩], life := -1 }) := by
  unfold DS.write
  rw [if_neg (by omega), if_neg (by omega), if_neg (by omega)]
  simp [hl, aged]
theorem wr4_live (d : DS) (P : Nat) (Z : List Nat) (hl : d.life = -1) (hP : P < d.n / 4) : ∀ k, k ≤ 4 → (d.wr4 P Z k).1 = 0 ∧ (d.wr4 P Z k).2.life = -1 ∧ (d.wr4 P Z k).2.n = d.n ∧ ∀ i, (d.wr4 P Z k).2.sec i = if 4 * P ≤ i ∧ i < 4 * P + k then secF Z (i - 4 * P) else d.sec i
  | 0, _ => ⟨rfl, hl, rfl, fun i => by rw [if_neg (by omega)]; rfl⟩
  | k + 1, hk => by
    obtain ⟨h1, h2, h3, h4⟩ := wr4_live d P Z hl hP k (by omega)
    simp only [DS.wr4]
    rw [if_pos h1, write_live _ _ _ h2 (by rw [h3]; omega)]
    refine ⟨rfl, rfl, h3, fun i => ?_⟩
    show upd (d.wr4 P Z k).2.sec (4 * P + k) (secF Z k) i = _
    unfold upd
    by_cases e : i = 4 * P + k
    · rw [if_pos e, if_pos (by omega), e, show 4 * P + k - 4 * P = k by omega]
    · rw [if_neg e, h4 i]
      by_cases c : 4 * P ≤ i ∧ i < 4 * P + k
      · rw [if_pos c, if_pos (by omega)]
      · rw [if_neg c, if_neg (by omega)]
theorem pgN_congr {d d' : DS} (P : Nat) : ∀ k, (∀ j, j < k → d'.sec (4 * P + j) = d.sec (4 * P + j)) → pgN d' P k = pgN d P k
  | 0, _ => rfl
  | k + 1, h => by
    simp only [pgN]
    rw [pgN_congr P k (fun j hj => h j (by omega)), h k (by omega)]
theorem pgN_take {d : DS} (P : Nat) (Z : List Nat) (hZ : Z.length = 128) : ∀ k, k ≤ 4 → (∀ j, j < k → d.sec (4 * P + j) = secF Z j) → pgN d P k = Z.take (32 * k)
  | 0, _, _ => by simp [pgN]
  | k + 1, hk, h => by
    simp only [pgN]
    rw [pgN_take P Z hZ k (by omega) (fun j hj => h j (by omega)), h k (by omega), secN_secF Z k (by omega)]
    rw [show 32 * (k + 1) = 32 * k + 32 by omega, List.take_add]
theorem wpage_live (d : DS) (P id : Nat) (D : List Nat) (hl : d.life = -1) (hP : P < d.n / 4) (hD : D.length ≤ 116) :
    (d.wpage P id D).1 = 0 ∧ (d.wpage P id D).2.life = -1 ∧ pgN (d.wpage P id D).2 P 4 = page id D ∧ ∀ q, q ≠ P → pgN (d.wpage P id D).2 q 4 = pgN d q 4 := by
  have e : d.wpage P id D = d.wr4 P (page id D) 4 := by
    unfold DS.wpage
    rw [if_neg (by omega), if_neg (by omega)]
    rfl
  rw [e]
  obtain ⟨h1, h2, h3, h4⟩ := wr4_live d P (page id D) hl hP 4 (by omega)
  have hpl := page_length id D hD
  refine ⟨h1, h2, ?_, fun q hq => ?_⟩
  · rw [pgN_take P (page id D) hpl 4 (by omega) (fun j hj => by rw [h4, if_pos (by omega), show 4 * P + j - 4 * P = j by omega])]
    rw [List.take_of_length_le (by omega)]
  · exact pgN_congr q 4 (fun j hj => by rw [h4, if_neg (by omega)])
theorem zeros_sum : sumN (List.replicate 124 0) ≠ 0 := by decide +kernel
theorem pgN_zero (n q : Nat) : pgN ⟨n, fun _ _ => 0, [], -1⟩ q 4 = List.replicate 128 0 := by
  have e : ∀ k, pgN ⟨n, fun _ _ => 0, [], -1⟩ q k = List.replicate (32 * k) 0 := by
    intro k
    induction k with
    | zero => rfl
    | succ k ih =>
      simp only [pgN]
      have e0 : secN (fun _ => 0) = List.replicate 32 0 := rfl
      rw [ih, e0, show 32 * (k + 1) = 32 * k + 32 by omega, List.replicate_append_replicate]
  exact e 4
theorem unp_zero : unp (List.replicate 128 0) = none := by
  unfold unp
  rw [if_neg]
  have e : (List.replicate 128 0).drop 4 = List.replicate 124 0 := by simp
  have v : val4 (List.replicate 128 0) 0 = 0 := by decide
  rw [e, v]
  exact fun h => zeros_sum h.symm

/-- The number l tells which call wrote page q last (0: none did). -/
def PgIs (d : DS) (os : List OpP) (i q l : Nat) : Prop :=
  (l = 0 ∧ unp (pgN d q 4) = none) ∨ ∃ (j : Nat) (h : j < os.length), l = j + 1 ∧ j < i ∧ pgN d q 4 = page (os[j]).id.toNat (os[j]).b ∧ (os[j]).b.length ≤ 116
/-- Behind i calls. -/
structure ApAt (w0 w : World) (p LB n0 i : Nat) (os : List OpP) (S : Nat) (pv : Value) (d : DS) (lf : Nat → Nat) : Prop where
  disk : DiskAt w w0.heap.size p S pv d
  n : d.n = n0
  life : d.life = -1
  byte : ByteD d
  good : Good d
  pend : d.pend.length ≤ 4 * i
  only : Only (fun _ => False) w0 w
  lb : w0.heap.size ≤ LB ∧ LB < w.heap.size
  sep : ¬ diskB p S pv LB
  last : Whole w (.slice (some ⟨LB, 0, none⟩) (n0 / 4) (n0 / 4)) (n0 / 4) (fun q => .int .i64 (lf q : Nat))
  pg : ∀ q, q < n0 / 4 → PgIs d os i q (lf q)
theorem ApAt.frame {w0 w w' : World} {p LB n0 i : Nat} {os : List OpP} {S : Nat} {pv : Value} {d : DS} {lf : Nat → Nat} (h : ApAt w0 w p LB n0 i os S pv d lf) (ho : Only (fun _ => False) w w') : ApAt w0 w' p LB n0 i os S pv d lf :=
  ⟨h.disk.frame ho (fun _ _ e => e), h.n, h.life, h.byte, h.good, h.pend, h.only.trans ho (fun _ _ e => e), ⟨h.lb.1, Nat.lt_of_lt_of_le h.lb.2 ho.size⟩, h.sep, h.last.frame ho (fun _ _ e => e), h.pg⟩
theorem PgIs.more {d : DS} {os : List OpP} {i q l : Nat} (h : PgIs d os i q l) : PgIs d os (i + 1) q l := by
  rcases h with h | ⟨j, hj, h1, h2, h3⟩
  · exact .inl h
  · exact .inr ⟨j, hj, h1, by omega, h3⟩
/-- Behind some calls, whatever they left. -/
def Aps (w0 w : World) (p LB n0 i : Nat) (os : List OpP) : Prop := ∃ S pv d lf, ApAt w0 w p LB n0 i os S pv d lf
/-- What a write of a page leaves. -/
def ApPost (w0 w2 : World) (p LB n0 i : Nat) (os : List OpP) (P : Int) (m : Nat) (q : Int) : Prop :=
  (q ≠ 0 ∧ ¬ (0 ≤ P ∧ P < ((n0 / 4 : Nat) : Int) ∧ m ≤ 116) ∧ Aps w0 w2 p LB n0 (i + 1) os) ∨
  (q = 0 ∧ ∃ Q : Nat, P = Q ∧ Q < n0 / 4 ∧ m ≤ 116 ∧ (∃ v, w2.cell? ⟨LB, Q, none⟩ = some v) ∧ w2.frozen? ⟨LB, Q, none⟩ = false ∧ Aps w0 (w2.setCell ⟨LB, Q, none⟩ (.int .i64 ((i + 1 : Nat) : Int))) p LB n0 (i + 1) os)
theorem ap_write {w0 w : World} {p LB n0 i X : Nat} {os : List OpP} {S : Nat} {pv : Value} {d : DS} {lf : Nat → Nat} (h : ApAt w0 w p LB n0 i os S pv d lf) (hi : i < os.length) (hlen : os.length ≤ 1048576) (hok : (os[i]).ok w0) (hxd : ¬ diskB p S pv X) :
    Calls Try.prog 11 #[(os[i]).vb] w fun e w1 => ∃ u, e = .returned u ∧ Hid (KeepX X w w1) ∧
      Hid (Calls Try.prog 25 #[.pointer (some ⟨p, 0, none⟩), .int .i64 (os[i]).P, .int .u32 (os[i]).id, u] w1 fun e w2 => ∃ q, e = .returned (.int .i64 q) ∧ Hid (KeepX X w w2) ∧ Hid (ApPost w0 w2 p LB n0 i os (os[i]).P (os[i]).b.length q)) := by
  obtain ⟨hb, _, _, _, hid⟩ := hok
  have hi2 : 0 ≤ (os[i]).id ∧ (os[i]).id ≤ 4294967295 := u32_bounds hid
  refine (own_any _ _ w (hb.frame h.only)).mono ?_
  rintro e w1 ⟨u, rfl, hf, o1⟩
  have h1 := h.frame o1
  have hid2 : (os[i]).id = ((os[i]).id.toNat : Int) := by omega
  refine ⟨u, rfl, fun j v hv => o1.cell hv (fun e => e), ?_⟩
  have hc := pwrite_all p S _ (os[i]).P (os[i]).id.toNat pv u d (os[i]).b w1 h1.disk h1.only.size hf.bytes (by omega) (by have := h1.pend; omega) h1.byte h1.good
  rw [← hid2] at hc
  refine hc.mono ?_
  rintro e w2 ⟨rfl, pv', d2, o2, b2⟩
  refine ⟨_, rfl, fun j v hv => o2.cell (o1.cell hv (fun e => e)) hxd, ?_⟩
  obtain ⟨f1, f2, f3, f4⟩ := wpage_facts (os[i]).P (os[i]).id.toNat (os[i]).b hb.2.2 h1.byte h1.good
  have o02 : Only (fun _ => False) w0 w2 := h1.only.trans o2 (fun b hb e => by have := (h1.disk.lt b e).1; omega)
  have hsep : ¬ diskB p S pv' LB := by
    rintro (e | e | e)
    · exact h1.sep (.inl e)
    · exact h1.sep (.inr (.inl e))
    · rcases b2 LB e with e | e
      · exact h1.sep (.inr (.inr e))
      · have := h1.lb.2; omega
  have hlast : Whole w2 (.slice (some ⟨LB, 0, none⟩) (n0 / 4) (n0 / 4)) (n0 / 4) (fun q => .int .i64 (lf q : Nat)) := h1.last.frame o2 (fun b hb => by
    simp [Value.ownBlock] at hb; subst hb; exact h1.sep)
  have hlb : w0.heap.size ≤ LB ∧ LB < w2.heap.size := ⟨h1.lb.1, Nat.lt_of_lt_of_le h1.lb.2 o2.size⟩
  by_cases c1 : 0 ≤ (os[i]).P ∧ (os[i]).P < ((n0 / 4 : Nat) : Int) ∧ (os[i]).b.length ≤ 116
  · obtain ⟨p1, p2, p3⟩ := c1
    obtain ⟨Q, hQ⟩ : ∃ Q : Nat, (os[i]).P = Q := ⟨(os[i]).P.toNat, by omega⟩
    have hQ2 : Q < n0 / 4 := by omega
    rw [hQ] at d2 f1 f2 f3 f4 ⊢
    obtain ⟨g1, g2, g3, g4⟩ := wpage_live d Q (os[i]).id.toNat (os[i]).b h1.life (by rw [h1.n]; exact hQ2) p3
    refine .inr ⟨g1, Q, rfl, hQ2, p3, ?_, ?_, ?_⟩
    · obtain ⟨g', o', c', hv, hcell, hfr⟩ := hlast.form (by omega)
      simp only [Value.slice.injEq, Option.some.injEq, Addr.mk.injEq, and_true, true_and] at hv
      obtain ⟨⟨rfl, rfl⟩, _⟩ := hv
      have := hcell Q hQ2
      rw [Nat.zero_add] at this
      exact ⟨_, this⟩
    · obtain ⟨g', o', c', hv, hcell, hfr⟩ := hlast.form (by omega)
      simp only [Value.slice.injEq, Option.some.injEq, Addr.mk.injEq, and_true, true_and] at hv
      obtain ⟨⟨rfl, rfl⟩, _⟩ := hv
      have := hfr Q hQ2
      rwa [Nat.zero_add] at this
    · have oS : Only (fun b => b = LB) w2 (w2.setCell ⟨LB, Q, none⟩ (.int .i64 ((i + 1 : Nat) : Int))) := (Only.refl _ w2).setCell _ _ (fun _ => rfl)
      have hW := Whole.setCell hlast Q hQ2 (.int .i64 ((i + 1 : Nat) : Int))
      rw [Nat.zero_add] at hW
      refine ⟨S, pv', _, fun q => if q = Q then i + 1 else lf q, ⟨d2.frame oS (fun b hb e => hsep (e ▸ hb)), f3.trans h1.n, g2, f1, f2, by have := h1.pend; omega, o02.trans oS (fun b hb e => by have := hlb.1; omega), ⟨hlb.1, Nat.lt_of_lt_of_le hlb.2 oS.size⟩, hsep, Whole.congr hW (fun j hj => ?_), fun q hq => ?_⟩⟩
      · by_cases e : j = Q
        · simp [e]
        · simp [e]
      · by_cases e : q = Q
        · rw [if_pos e, e]
          exact .inr ⟨i, hi, rfl, by omega, g3, p3⟩
        · rw [if_neg e]
          have := (h1.pg q hq).more
          unfold PgIs at this ⊢
          rw [g4 q e]
          exact this
  · have hsame : (d.wpage (os[i]).P (os[i]).id.toNat (os[i]).b).2 = d ∧ (d.wpage (os[i]).P (os[i]).id.toNat (os[i]).b).1 ≠ 0 := by
      unfold DS.wpage
      by_cases c2 : (os[i]).P < 0 ∨ ((d.n / 4 : Nat) : Int) ≤ (os[i]).P
      · rw [if_pos c2]; exact ⟨rfl, by show (4 : Int) ≠ 0; decide⟩
      · rw [if_neg c2, if_pos (by have := h1.n; rw [h1.n] at c2; omega)]; exact ⟨rfl, by show (11 : Int) ≠ 0; decide⟩
    rw [hsame.1] at d2
    exact .inl ⟨hsame.2, c1, S, pv', d, lf, ⟨d2, h1.n, h1.life, h1.byte, h1.good, by have := h1.pend; omega, o02, hlb, hsep, hlast, fun q hq => (h1.pg q hq).more⟩⟩
end Go.Proofs.Ytdcflnfdaijpdaa
