import Derived.Test.YtlcglapcmdpkfaaGreatD29
import Derived.Test.YtlcglapcmdpkfaaGreatP8
namespace Go.Proofs.YtlcglapcmdpkfaaGreat
open Go.RowKit
set_option linter.unusedSimpArgs false
set_option linter.unusedVariables false
def RWIs (w : World) (B r K : Nat) (rv : Value) (rs : List RW) (x : Int × DS) (e : Ending) (w' : World) : Prop :=
 e = .returned (.int .i64 x.1) ∧ ∃ rv' rs', RefAt w' B r K rv' x.2 rs' ∧ Only (refB r K rv rs) w w' ∧ (∀ b, refB r K rv' rs' b → refB r K rv rs b ∨ w.heap.size ≤ b)
theorem bytes_frameB {W W' : World} {g o n c : Nat} {zs : List Nat} {bs : Nat → Prop} (h : BytesAt W (.slice (some ⟨g, o, none⟩) n c) zs) (ho : Only bs W W') (hn : ¬ bs g) : BytesAt W' (.slice (some ⟨g, o, none⟩) n c) zs := by
 refine ⟨?_, h.2⟩
 rcases h.1 with h1 | ⟨ad, c', hv, hkc, hc⟩
 ·exact .inl h1
 ·refine .inr ⟨ad, c', hv, hkc, fun j hj => ?_⟩
  simp only [Value.slice.injEq, Option.some.injEq] at hv
  obtain ⟨rfl, _, rfl⟩ := hv
  have := hc j hj
  rw [Addr.add_mid] at this ⊢
  exact ho.cell this hn
set_option maxRecDepth 100000 in
set_option maxHeartbeats 2000000 in
theorem rwrite_in (r K B id : Nat) (P : Nat) (rv v : Value) (rs : List RW) (d : DS) (D : List Nat) (w : World) (h : RefAt w B r K rv d rs) (hB : B ≤ w.heap.size) (hv : BytesAt w v D) (hid : id < 4294967296) (hD : D.length ≤ 116) (hP : P < d.n / 4) (hp : d.pend.length ≤ 10000000000) (hb : ByteD d) (hg : Good d) :
  Calls Tryz.prog 91 #[.pointer (some ⟨r, 0, none⟩), .int .i64 P, .int .u32 id, v] w fun e w' => RWIs w B r K rv rs (d.wr4 P (page id D) 4) e w' := by
 have HR := rcount_any r d.n w h.n2 h.c0
 have HPK := rpack_ok id v D w hv hD hid
 have hpl := page_length id D hD
 have hfacts := wr4_facts d P (page id D) (page_lt id D hv.2.2) hb hg
 have HFA : Hid _ := hfacts
 have n2 := h.n2
 have hlt := h.lt
 obtain ⟨Z, hZ⟩ : ∃ Z, Z = page id D := ⟨_, rfl⟩
 have HLT : Hid _ := hlt
 rw [← hZ] at HPK hpl HFA
 rw [← hZ]
 have HD : Hid (RefAt w B r K rv d rs) := h
 have HPL : Hid (Z.length = 128) := hpl
 have p0 : ¬ (P : Int) < 0 := by omega
 have hP2 : P < 2048 := by omega
 have HPE : Hid (d.pend.length ≤ 10000000000) := hp
 obtain ⟨cn, hcn⟩ : ∃ c, c = d.n / 4 := ⟨_, rfl⟩
 rw [← hcn] at HR hP
 have p1 : ¬ (cn : Int) ≤ (P : Int) := by omega
 clear h hv hfacts hZ hb hg hlt hP hp hcn hpl
 go_enter Tryz.func91, Tryz.ntmps91
 go_wp2_with fail
 refine HR.mono ?_
 rintro e w1 ⟨rfl, rfl⟩
 clear HR
 go_wp2_with fail
 refine HPK.mono ?_
 rintro e w2 ⟨u, rfl, hf, ho2⟩
 clear HPK
 have hby := hf.bytes
 obtain ⟨a, c, rfl, hcap, hcl⟩ := hby.form
 rw [HPL.out] at hby hcap
 rw [HPL.out]
 obtain ⟨g, o, rfl, _⟩ := hcl 0 (by have := HPL.out; omega)
 have hgl := own_lt hf g rfl
 have HBY : Hid (BytesAt w2 (.slice (some ⟨g, o, none⟩) 128 c) Z) := hby
 have HGL : Hid (w1.heap.size ≤ g ∧ g < w2.heap.size) := hgl
 have HO2 : Hid (Only (fun _ => False) w1 w2) := ho2
 have HD2 : Hid (RefAt w2 B r K rv d rs) := HD.out.frame ho2 (fun _ _ e => e)
 clear hf ho2 hby hcl hgl
 go_wp2_with fail
 go_loopw [10, 11] (fun q t wr => ∃ (k j : Nat) (x : Int), k ≤ 4 ∧ j ≤ k ∧ t = .int .i64 k ∧ q = .int .i64 x ∧ (d.wr4 P Z k).1 = x ∧ (∃ rv' rs', RefAt wr B r K rv' (d.wr4 P Z k).2 rs' ∧ (∀ b, refB r K rv' rs' b → refB r K rv rs b ∨ g < b)) ∧ BytesAt wr (.slice (some ⟨g, o, none⟩) 128 c) Z ∧ Only (refB r K rv rs) w1 wr ∧ w2.heap.size ≤ wr.heap.size) (fun _ t _ => 4 - (intOf t).toNat)
 case atStart => exact ⟨0, 0, 0, by omega, by omega, rfl, rfl, rfl, ⟨rv, rs, HD2.out, fun b hb => .inl hb⟩, HBY.out, HO2.out.mono (fun _ _ e => e.elim), Nat.le_refl _⟩
 case round =>
  obtain ⟨k, j, x0, hk, hj, rfl, rfl, h0, ⟨rv', rs', hd, hown⟩, hbl, ho, hsz⟩ := hrel
  obtain ⟨w3, rfl⟩ : ∃ w3, w3 = wr := ⟨_, rfl⟩
  by_cases hlt : k < 4 ∧ x0 = 0
  ·obtain ⟨hlt, rfl⟩ := hlt
   have k1 : (k : Int) < 4 := by omega
   have m1 : IntKind.i64.wrap (4 * (P : Int)) = 4 * (P : Int) := by rw [IntKind.wrap_i64]; omega
   have m2 : IntKind.i64.wrap (4 * (P : Int) + (k : Int)) = 4 * (P : Int) + (k : Int) := by rw [IntKind.wrap_i64]; omega
   have m3 : IntKind.i64.wrap (32 * (k : Int)) = 32 * (k : Int) := by rw [IntKind.wrap_i64]; omega
   obtain ⟨oo, ho'⟩ : ∃ o, o = 32 * k := ⟨_, rfl⟩
   have m4 : 32 * (k : Int) = (oo : Int) := by omega
   rw [m4] at m3
   have m6 : IntKind.i64.wrap ((oo : Int) + 32) = (oo : Int) + 32 := by rw [IntKind.wrap_i64]; omega
   have m7 : (oo : Int) + 32 ≤ (c : Int) := by omega
   have m8 : (0 : Int) ≤ (oo : Int) := by omega
   have m9 : (oo : Int) ≤ (oo : Int) + 32 := by omega
   have m10 : ((oo : Int) + 32).toNat = oo + 32 := by omega
   have m11 : oo + 32 - oo = 32 := by omega
   have m12 : ¬ c = oo := by omega
   obtain ⟨q, hq⟩ : ∃ q, q = 4 * P + k := ⟨_, rfl⟩
   have m5 : 4 * (P : Int) + (k : Int) = (q : Int) := by omega
   rw [m5] at m2
   have hbs := hbl.cut oo 32 (c - oo) (by have := HPL.out; omega) (by omega)
   have e32 : ((Z.drop oo).take 32).length = 32 := by rw [List.length_take, List.length_drop, HPL.out]; omega
   have hrow := row_of_bytes hbs (secF Z k) (fun j hj => by rw [ho']; rfl)
   rw [e32] at hrow
   obtain ⟨f1, f2, f3, f4⟩ := HFA.out k
   have HW : Hid (Calls Tryz.prog 42 #[.pointer (some ⟨r, 0, none⟩), .int .i64 q, .slice (some ⟨g, o + oo, none⟩) 32 (c - oo)] w3 fun e w' => RWIs w3 B r K rv' rs' ((d.wr4 P Z k).2.write q (secF Z k) 32) e w') :=
    rput_all hd _ 32 _ q (secF Z k) hrow (by have := ho.size; omega) (by have := HPE.out; omega) (by omega)
   have HNE : Hid (d.wr4 P Z (k + 1) = (d.wr4 P Z k).2.write q (secF Z k) 32) := by
    show _ = _
    simp only [DS.wr4]
    rw [if_pos h0, hq]
   have hdl := hd.lt
   have HEND : Hid (∀ e w', RWIs w3 B r K rv' rs' ((d.wr4 P Z k).2.write q (secF Z k) 32) e w' → (∃ rv2 rs2, RefAt w' B r K rv2 (d.wr4 P Z (k + 1)).2 rs2 ∧ (∀ b, refB r K rv2 rs2 b → refB r K rv rs b ∨ g < b)) ∧ BytesAt w' (.slice (some ⟨g, o, none⟩) 128 c) Z ∧ Only (refB r K rv rs) w1 w' ∧ w2.heap.size ≤ w'.heap.size) := by
    rintro e w' ⟨he, rv2, rs2, d2, o2, hb2⟩
    have hgn : ¬ refB r K rv' rs' g := by
     intro e
     rcases hown g e with h1 | h1
     ·have := (HLT.out g h1).2; have := HGL.out; omega
     ·omega
    refine ⟨⟨rv2, rs2, by rw [HNE.out]; exact d2, fun b hb => ?_⟩, bytes_frameB hbl o2 hgn, ho.trans o2 (fun i hi e => ?_), Nat.le_trans hsz o2.size⟩
    ·rcases hb2 b hb with h1 | h1
     ·exact hown b h1
     ·have := HGL.out; exact .inr (by omega)
    ·rcases hown i e with h1 | h1
     ·exact h1
     ·have := HGL.out; omega
   obtain ⟨x, hx⟩ : ∃ x, x = ((d.wr4 P Z k).2.write q (secF Z k) 32).1 := ⟨_, rfl⟩
   have HX : Hid (x = ((d.wr4 P Z k).2.write q (secF Z k) 32).1) := hx
   clear h0 hd hown hbl ho hbs e32 hrow f1 f2 f3 f4 hdl ho' hq hx hsz
   go_wp2_with fail
   refine (show Calls Tryz.prog 42 _ _ _ from HW.out).mono ?_
   intro e w5 hWI
   have HE5 : Hid _ := HEND.out e w5 hWI
   obtain ⟨rfl, _⟩ := hWI
   rw [← HX.out]
   clear HW HEND
   go_wp2
   go_roundw
   case rel => exact ⟨k + 1, 0, x, by omega, by omega, by go_num, rfl, by rw [HNE.out, ← HX.out], HE5.out.1, HE5.out.2.1, HE5.out.2.2.1, HE5.out.2.2.2⟩
   case measure => simp [intOf]; omega
  ·have HH : Hid (RWIs w1 B r K rv rs (d.wr4 P Z 4) (.returned (.int .i64 x0)) w3) := by
    have e4 : d.wr4 P Z 4 = d.wr4 P Z k := by
     by_cases h4 : k = 4
     ·rw [h4]
     ·have hx0 : x0 ≠ 0 := fun e => hlt ⟨by omega, e⟩
      have stop : ∀ j, d.wr4 P Z (k + j) = d.wr4 P Z k := by
       intro j
       induction j with
       | zero => rfl
       | succ j ih =>
         show (if (d.wr4 P Z (k + j)).1 = 0 then _ else d.wr4 P Z (k + j)) = _
         rw [ih, if_neg (by rw [h0]; exact hx0)]
      have := stop (4 - k)
      rwa [show k + (4 - k) = 4 by omega] at this
    rw [e4]
    exact ⟨by rw [h0], rv', rs', hd, ho, fun b hb => (hown b hb).imp (fun h => h) (fun h => by have := HGL.out; omega)⟩
   clear h0 hd hown hbl ho hsz
   by_cases h4 : k < 4
   ·have k1 : (k : Int) < 4 := by omega
    have hx0 : (x0 == 0) = false := by simp; exact fun e => hlt ⟨h4, e⟩
    clear hlt h4
    go_wp2
    go_ret
    exact HH.out
   ·have k1 : ¬ (k : Int) < 4 := by omega
    clear hlt h4
    go_wp2
    go_ret
    exact HH.out
set_option maxHeartbeats 400000 in
theorem rwrite_out (r n : Nat) (P i : Int) (v : Value) (w : World) (hn : n ≤ 8192) (h0 : w.cell? ⟨r, 0, none⟩ = some (.int .i64 n)) (hP : P < 0 ∨ ((n / 4 : Nat) : Int) ≤ P) :
  Calls Tryz.prog 91 #[.pointer (some ⟨r, 0, none⟩), .int .i64 P, .int .u32 i, v] w fun e w' => e = .returned (.int .i64 4) ∧ w' = w := by
 have HR := rcount_any r n w hn h0
 obtain ⟨cn, hcn⟩ : ∃ c, c = n / 4 := ⟨_, rfl⟩
 rw [← hcn] at HR hP
 by_cases h : P < 0
 ·clear h0 hP hcn HR
  go_enter Tryz.func91, Tryz.ntmps91
  go_wp2
  go_ret
  exact ⟨rfl, rfl⟩
 ·have h2 : (cn : Int) ≤ P := by omega
  clear h0 hP hcn
  go_enter Tryz.func91, Tryz.ntmps91
  go_wp2_with fail
  refine HR.mono ?_
  rintro e w1 ⟨rfl, rfl⟩
  go_wp2
  go_ret
  exact ⟨rfl, rfl⟩
set_option maxHeartbeats 400000 in
theorem rwrite_large (r n m cc : Nat) (a : Option Addr) (P : Nat) (i : Int) (w : World) (hn : n ≤ 8192) (h0 : w.cell? ⟨r, 0, none⟩ = some (.int .i64 n)) (hP : P < n / 4) (hm : 116 < m) :
  Calls Tryz.prog 91 #[.pointer (some ⟨r, 0, none⟩), .int .i64 P, .int .u32 i, .slice a m cc] w fun e w' => e = .returned (.int .i64 11) ∧ w' = w := by
 have HR := rcount_any r n w hn h0
 have HP := rpack_large i a m cc w hm
 obtain ⟨cn, hcn⟩ : ∃ c, c = n / 4 := ⟨_, rfl⟩
 rw [← hcn] at HR hP
 have p0 : ¬ (P : Int) < 0 := by omega
 have p1 : ¬ (cn : Int) ≤ (P : Int) := by omega
 clear h0 hP hcn
 go_enter Tryz.func91, Tryz.ntmps91
 go_wp2_with fail
 refine HR.mono ?_
 rintro e w1 ⟨rfl, rfl⟩
 go_wp2_with fail
 refine HP.mono ?_
 rintro e w2 ⟨rfl, rfl⟩
 go_wp2
 refine wp_loop_rounds 1 ?_; rw [rounds_succ]
 go_wp2
 go_ret
 exact ⟨rfl, rfl⟩
theorem rwrite_all (r K B : Nat) (P : Int) (id : Nat) (rv v : Value) (rs : List RW) (d : DS) (D : List Nat) (w : World) (h : RefAt w B r K rv d rs) (hB : B ≤ w.heap.size) (hv : BytesAt w v D) (hid : id < 4294967296) (hp : d.pend.length ≤ 10000000000) (hb : ByteD d) (hg : Good d) :
  Calls Tryz.prog 91 #[.pointer (some ⟨r, 0, none⟩), .int .i64 P, .int .u32 id, v] w fun e w' => RWIs w B r K rv rs (d.wpage P id D) e w' := by
 by_cases h1 : P < 0 ∨ ((d.n / 4 : Nat) : Int) ≤ P
 ·have e : d.wpage P id D = (4, d) := by unfold DS.wpage; rw [if_pos h1]
  rw [e]
  refine (rwrite_out r d.n P id v w h.n2 h.c0 h1).mono ?_
  rintro e w' ⟨rfl, rfl⟩
  exact ⟨rfl, rv, rs, h, Only.refl _ _, fun b hb => .inl hb⟩
 ·obtain ⟨Q, rfl⟩ : ∃ Q : Nat, P = Q := ⟨P.toNat, by omega⟩
  by_cases h2 : 116 < D.length
  ·have e : d.wpage Q id D = (11, d) := by unfold DS.wpage; rw [if_neg h1, if_pos h2]
   rw [e]
   obtain ⟨a, c, rfl, _, _⟩ := hv.form
   refine (rwrite_large r d.n D.length c a Q id w h.n2 h.c0 (by omega) h2).mono ?_
   rintro e w' ⟨rfl, rfl⟩
   exact ⟨rfl, rv, rs, h, Only.refl _ _, fun b hb => .inl hb⟩
  ·have e : d.wpage Q id D = d.wr4 Q (page id D) 4 := by unfold DS.wpage; rw [if_neg h1, if_neg h2]; rfl
   rw [e]
   exact rwrite_in r K B id Q rv v rs d D w h hB hv hid (by omega) (by omega) hp hb hg
end Go.Proofs.YtlcglapcmdpkfaaGreat
