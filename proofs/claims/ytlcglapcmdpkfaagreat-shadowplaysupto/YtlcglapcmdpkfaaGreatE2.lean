import Derived.Test.YtlcglapcmdpkfaaGreatE1
import Derived.Test.YtlcglapcmdpkfaaGreatCn
namespace Go.Proofs.YtlcglapcmdpkfaaGreat
open Go.RowKit
set_option linter.unusedSimpArgs false
set_option linter.unusedVariables false
set_option maxHeartbeats 400000 in
theorem rcount_any (r n : Nat) (w : World) (hn : n ≤ 8192) (h0 : w.cell? ⟨r, 0, none⟩ = some (.int .i64 n)) :
  Calls Tryz.prog 71 #[.pointer (some ⟨r, 0, none⟩)] w fun e w' => e = .returned (.int .i64 ((n / 4 : Nat) : Int)) ∧ w' = w := by
 go_enter Tryz.func71, Tryz.ntmps71
 go_wp2
 go_ret
 exact ⟨by simp, rfl⟩
set_option maxHeartbeats 400000 in
theorem preach_out (p S n c : Nat) (P : Int) (w : World) (hn : n ≤ 8192) (h0 : w.cell? ⟨p, 0, none⟩ = some (.slice (some ⟨S, 0, none⟩) n c)) (hP : P < 0 ∨ ((n / 4 : Nat) : Int) ≤ P) :
  Calls Tryz.prog 107 #[.pointer (some ⟨p, 0, none⟩), .int .i64 P] w fun e w' => e = .returned (.int .i64 4) ∧ w' = w := by
 by_cases h : P < 0
 ·clear h0
  go_enter Tryz.func107, Tryz.ntmps107
  go_wp2
  go_ret
  exact ⟨rfl, rfl⟩
 ·have h2 : ((n / 4 : Nat) : Int) ≤ P := by omega
  have HC := count_any p S n c w hn h0
  obtain ⟨q, hq⟩ : ∃ q, q = n / 4 := ⟨_, rfl⟩
  rw [← hq] at h2 HC
  clear h0 hP hq
  go_enter Tryz.func107, Tryz.ntmps107
  go_wp2_with fail
  refine HC.mono ?_
  rintro e w1 ⟨rfl, rfl⟩
  go_wp2
  go_ret
  exact ⟨rfl, rfl⟩
set_option maxHeartbeats 400000 in
theorem preach_in (p S n c : Nat) (P : Nat) (w : World) (hn : n ≤ 8192) (h0 : w.cell? ⟨p, 0, none⟩ = some (.slice (some ⟨S, 0, none⟩) n c)) (hP : P < n / 4) :
  Calls Tryz.prog 107 #[.pointer (some ⟨p, 0, none⟩), .int .i64 P] w fun e w' => e = .returned (.int .i64 0) ∧ w' = w := by
 have h : ¬ (P : Int) < 0 := by omega
 have h2 : ¬ ((n / 4 : Nat) : Int) ≤ (P : Int) := by omega
 have HC := count_any p S n c w hn h0
 obtain ⟨q, hq⟩ : ∃ q, q = n / 4 := ⟨_, rfl⟩
 rw [← hq] at h2 HC
 clear h0 hP hq
 go_enter Tryz.func107, Tryz.ntmps107
 go_wp2_with fail
 refine HC.mono ?_
 rintro e w1 ⟨rfl, rfl⟩
 go_wp2
 go_ret
 exact ⟨rfl, rfl⟩
def WrIs (w : World) (B p S : Nat) (pv : Value) (r : Int × DS) (e : Ending) (w' : World) : Prop :=
 e = .returned (.int .i64 r.1) ∧ ∃ pv', DiskAt w' B p S pv' r.2 ∧ Only (diskB p S pv) w w' ∧ (∀ b, pv'.ownBlock = some b → pv.ownBlock = some b ∨ w.heap.size ≤ b)
theorem row_of_bytes {w : World} {v : Value} {zs : List Nat} (h : BytesAt w v zs) (f : Nat → Int) (hf : ∀ j, j < zs.length → f j = (zs.getD j 0 : Nat)) : RowAt w v zs.length 1 (fun j => .int .u8 (f j)) := by
 rcases h.1 with ⟨rfl, h0⟩ | ⟨ad, c, rfl, hkc, hc⟩
 ·exact .inl ⟨rfl, h0⟩
 ·refine .inr ⟨ad, c, rfl, hkc, fun j hj => ?_⟩
  rw [hc j hj]
  show some _ = some (Value.int IntKind.u8 (f j))
  rw [hf j (by omega)]
set_option maxRecDepth 100000 in
set_option maxHeartbeats 2000000 in
theorem pwrite_in (p S B id : Nat) (P : Nat) (pv v : Value) (d : DS) (D : List Nat) (w : World) (h : DiskAt w B p S pv d) (hB : B ≤ w.heap.size) (hv : BytesAt w v D) (hid : id < 4294967296) (hD : D.length ≤ 116) (hP : P < d.n / 4) (hp : d.pend.length ≤ 100000000000) (hb : ByteD d) (hg : Good d) :
  Calls Tryz.prog 82 #[.pointer (some ⟨p, 0, none⟩), .int .i64 P, .int .u32 id, v] w fun e w' => WrIs w B p S pv (d.wr4 P (page id D) 4) e w' := by
 obtain ⟨c0, hc0⟩ := h.c0
 have HR := preach_in p S d.n c0 P w h.n2 hc0 hP
 have HPK := pack_ok id v D w hv hD hid
 have hpl := page_length id D hD
 have hfacts := wr4_facts d P (page id D) (page_lt id D hv.2.2) hb hg
 have HFA : Hid _ := hfacts
 have n2 := h.n2
 have hlt := h.lt
 obtain ⟨Z, hZ⟩ : ∃ Z, Z = page id D := ⟨_, rfl⟩
 have HLT : Hid _ := hlt
 rw [← hZ] at HPK hpl HFA
 rw [← hZ]
 have HD : Hid (DiskAt w B p S pv d) := h
 have HPL : Hid (Z.length = 128) := hpl
 have hP2 : P < 2048 := by omega
 have HPN : Hid (P < d.n / 4) := hP
 have HPE : Hid (d.pend.length ≤ 100000000000) := hp
 clear h hc0 hv hfacts hZ hb hg hlt hP hp
 go_enter Tryz.func82, Tryz.ntmps82
 go_wp2_with fail
 refine HR.mono ?_
 rintro e w1 ⟨rfl, rfl⟩
 clear HR
 go_wp2_with fail
 refine HPK.mono ?_
 rintro e w2 ⟨rfl, hbk, ho2⟩
 clear HPK
 obtain ⟨g, hgg⟩ : ∃ g, g = w1.heap.size := ⟨_, rfl⟩
 have HGG : Hid (g = w1.heap.size) := hgg
 rw [← hgg] at hbk
 rw [← hgg]
 have HBK : Hid (Blk w2 g Z) := hbk
 have HO2 : Hid (Only (fun _ => False) w1 w2) := ho2
 have HD2 : Hid (DiskAt w2 B p S pv d) := HD.out.frame ho2 (fun _ _ e => e)
 clear hbk ho2 hgg
 go_wp2_with fail
 go_loopw [29] (fun t wr => ∃ k : Nat, k ≤ 4 ∧ t = .int .i64 k ∧ (d.wr4 P Z k).1 = 0 ∧ (∃ pv', DiskAt wr B p S pv' (d.wr4 P Z k).2 ∧ (∀ b, pv'.ownBlock = some b → pv.ownBlock = some b ∨ g < b)) ∧ Blk wr g Z ∧ Only (diskB p S pv) w1 wr) (fun t _ => 4 - (intOf t).toNat)
 case atStart => exact ⟨0, by omega, rfl, rfl, ⟨pv, HD2.out, fun b hb => .inl hb⟩, HBK.out, HO2.out.mono (fun _ _ e => e.elim)⟩
 case round =>
  obtain ⟨k, hk, rfl, h0, ⟨pv', hd, hown⟩, hbl, ho⟩ := hrel
  obtain ⟨w3, rfl⟩ : ∃ w3, w3 = wr := ⟨_, rfl⟩
  have HO3 : Hid (Only (diskB p S pv) w1 w3) := ho
  by_cases hlt : k < 4
  ·have k1 : (k : Int) < 4 := by omega
   have m1 : IntKind.i64.wrap ((P : Int) * 4) = (P : Int) * 4 := by rw [IntKind.wrap_i64]; omega
   have m2 : IntKind.i64.wrap ((P : Int) * 4 + (k : Int)) = (P : Int) * 4 + (k : Int) := by rw [IntKind.wrap_i64]; omega
   have m3 : IntKind.i64.wrap ((k : Int) * 32) = (k : Int) * 32 := by rw [IntKind.wrap_i64]; omega
   obtain ⟨o, ho'⟩ : ∃ o, o = k * 32 := ⟨_, rfl⟩
   have m4 : (k : Int) * 32 = (o : Int) := by omega
   rw [m4] at m3
   have HPC := piece_pos g 0 128 128 o 32 w3 (by omega) (by omega) (by omega)
   rw [Nat.zero_add] at HPC
   obtain ⟨q, hq⟩ : ∃ q, q = 4 * P + k := ⟨_, rfl⟩
   have m5 : (P : Int) * 4 + (k : Int) = (q : Int) := by omega
   rw [m5] at m2
   have hbs := hbl.bytes o 32 32 (by have := HPL.out; omega) (by omega)
   have e32 : ((Z.drop o).take 32).length = 32 := by rw [List.length_take, List.length_drop, HPL.out]; omega
   have hrow := row_of_bytes hbs (secF Z k) (fun j hj => by rw [show o = 32 * k by omega]; rfl)
   rw [e32] at hrow
   obtain ⟨f1, f2, f3, f4⟩ := HFA.out k
   have HW : Hid (Calls Tryz.prog 40 #[.pointer (some ⟨p, 0, none⟩), .int .i64 q, .slice (some ⟨g, o, none⟩) 32 32] w3 fun e w' => WrIs w3 B p S pv' ((d.wr4 P Z k).2.write q (secF Z k) 32) e w') :=
    write_all p S 32 32 B _ pv' (d.wr4 P Z k).2 q (secF Z k) w3 hd hrow (by have := ho.size; omega) (by have := HPE.out; omega) (by omega)
   have HNE : Hid (d.wr4 P Z (k + 1) = (d.wr4 P Z k).2.write q (secF Z k) 32) := by
    show _ = _
    simp only [DS.wr4]
    rw [if_pos h0, hq]
   have hdl := hd.lt
   have HEND : Hid (∀ e w', WrIs w3 B p S pv' ((d.wr4 P Z k).2.write q (secF Z k) 32) e w' → (∃ pv2, DiskAt w' B p S pv2 (d.wr4 P Z (k + 1)).2 ∧ (∀ b, pv2.ownBlock = some b → pv.ownBlock = some b ∨ g < b)) ∧ Blk w' g Z ∧ Only (diskB p S pv) w1 w') := by
    rintro e w' ⟨he, pv2, d2, o2, hb2⟩
    have hgn : ¬ diskB p S pv' g := by
     rintro (e | e | e)
     ·have := (HLT.out p (.inl rfl)).2; have := HGG.out; omega
     ·have := (HLT.out S (.inr (.inl rfl))).2; have := HGG.out; omega
     ·rcases hown g e with h1 | h1
      ·have := (HLT.out g (.inr (.inr h1))).2; have := HGG.out; omega
      ·omega
    refine ⟨⟨pv2, by rw [HNE.out]; exact d2, fun b hb => ?_⟩, hbl.frame o2 hgn, ho.trans o2 (fun i hi e => ?_)⟩
    ·rcases hb2 b hb with h1 | h1
     ·exact hown b h1
     ·have := hbl.lt; exact .inr (by omega)
    ·rcases e with e | e | e
     ·exact .inl e
     ·exact .inr (.inl e)
     ·rcases hown i e with h1 | h1
      ·exact .inr (.inr h1)
      ·have := HGG.out; omega
   have HR0 : Hid (((d.wr4 P Z k).2.write q (secF Z k) 32).1 = 0 ∨ (((d.wr4 P Z k).2.write q (secF Z k) 32).1 ≠ 0 ∧ d.wr4 P Z 4 = (d.wr4 P Z k).2.write q (secF Z k) 32)) := by
    by_cases e : ((d.wr4 P Z k).2.write q (secF Z k) 32).1 = 0
    ·exact .inl e
    ·refine .inr ⟨e, ?_⟩
     have stop : ∀ j, d.wr4 P Z (k + 1 + j) = d.wr4 P Z (k + 1) := by
      intro j
      induction j with
      | zero => rfl
      | succ j ih =>
        show (if (d.wr4 P Z (k + 1 + j)).1 = 0 then _ else d.wr4 P Z (k + 1 + j)) = _
        rw [ih, if_neg (by rw [HNE.out]; exact e)]
     have := stop (4 - (k + 1))
     rw [show k + 1 + (4 - (k + 1)) = 4 by omega, HNE.out] at this
     exact this
   obtain ⟨x, hx⟩ : ∃ x, x = ((d.wr4 P Z k).2.write q (secF Z k) 32).1 := ⟨_, rfl⟩
   have HX : Hid (x = ((d.wr4 P Z k).2.write q (secF Z k) 32).1) := hx
   clear h0 hd hown hbl ho hbs e32 hrow f1 f2 f3 f4 hdl ho' hq hx
   go_wp2_with fail
   refine HPC.mono ?_
   rintro e w4 ⟨rfl, rfl⟩
   clear HPC
   go_wp2_with fail
   refine (show Calls Tryz.prog 40 _ _ _ from HW.out).mono ?_
   intro e w5 hWI
   have HE5 : Hid _ := HEND.out e w5 hWI
   have HWI : Hid (WrIs w4 B p S pv' ((d.wr4 P Z k).2.write q (secF Z k) 32) e w5) := hWI
   obtain ⟨rfl, _⟩ := hWI
   rw [← HX.out]
   clear HW HEND
   by_cases hx0 : x = 0
   ·have he : (x != 0) = false := by simp [hx0]
    have HX0 : Hid (x = 0) := hx0
    clear hx0
    go_wp2
    go_roundw
    case rel => exact ⟨k + 1, by omega, by go_num, by rw [HNE.out, ← HX.out]; exact HX0.out, HE5.out.1, HE5.out.2.1, HE5.out.2.2⟩
    case measure => simp [intOf]; omega
   ·have he : (x != 0) = true := by simp [hx0]
    have HFI : Hid (d.wr4 P Z 4 = (d.wr4 P Z k).2.write q (secF Z k) 32) := by
     rcases HR0.out with h1 | h1
     ·exact absurd (HX.out.trans h1) hx0
     ·exact h1.2
    clear hx0
    go_wp2
    go_ret
    show WrIs w1 B p S pv (d.wr4 P Z 4) _ _
    refine ⟨by rw [HFI.out, ← HX.out]; rfl, ?_⟩
    obtain ⟨pv2, q1, q2⟩ := HE5.out.1
    rw [HNE.out, ← HFI.out] at q1
    exact ⟨pv2, q1, HE5.out.2.2, fun b hb => (q2 b hb).imp (fun h => h) (fun h => by have := HGG.out; omega)⟩
  ·obtain rfl : k = 4 := by omega
   have HH : Hid (WrIs w1 B p S pv (d.wr4 P Z 4) (.returned (.int .i64 0)) w3) := by
    refine ⟨by rw [h0], pv', hd, ho, fun b hb => (hown b hb).imp (fun h => h) (fun h => by have := HGG.out; omega)⟩
   clear h0 hd hown hbl ho
   go_wp2
   go_ret
   exact HH.out
set_option maxHeartbeats 400000 in
theorem pwrite_out (p S n c : Nat) (P i : Int) (v : Value) (w : World) (hn : n ≤ 8192) (h0 : w.cell? ⟨p, 0, none⟩ = some (.slice (some ⟨S, 0, none⟩) n c)) (hP : P < 0 ∨ ((n / 4 : Nat) : Int) ≤ P) :
  Calls Tryz.prog 82 #[.pointer (some ⟨p, 0, none⟩), .int .i64 P, .int .u32 i, v] w fun e w' => e = .returned (.int .i64 4) ∧ w' = w := by
 have HR := preach_out p S n c P w hn h0 hP
 clear h0 hP
 go_enter Tryz.func82, Tryz.ntmps82
 go_wp2_with fail
 refine HR.mono ?_
 rintro e w1 ⟨rfl, rfl⟩
 go_wp2
 go_ret
 exact ⟨rfl, rfl⟩
set_option maxHeartbeats 400000 in
theorem pwrite_large (p S n c m cc : Nat) (a : Option Addr) (P : Nat) (i : Int) (w : World) (hn : n ≤ 8192) (h0 : w.cell? ⟨p, 0, none⟩ = some (.slice (some ⟨S, 0, none⟩) n c)) (hP : P < n / 4) (hm : 116 < m) :
  Calls Tryz.prog 82 #[.pointer (some ⟨p, 0, none⟩), .int .i64 P, .int .u32 i, .slice a m cc] w fun e w' => e = .returned (.int .i64 11) ∧ w' = w := by
 have HR := preach_in p S n c P w hn h0 hP
 have HP := pack_large i a m cc w hm
 clear h0 hP
 go_enter Tryz.func82, Tryz.ntmps82
 go_wp2_with fail
 refine HR.mono ?_
 rintro e w1 ⟨rfl, rfl⟩
 go_wp2_with fail
 refine HP.mono ?_
 rintro e w2 ⟨rfl, rfl⟩
 go_wp2
 go_ret
 exact ⟨rfl, rfl⟩
theorem pwrite_all (p S B : Nat) (P : Int) (id : Nat) (pv v : Value) (d : DS) (D : List Nat) (w : World) (h : DiskAt w B p S pv d) (hB : B ≤ w.heap.size) (hv : BytesAt w v D) (hid : id < 4294967296) (hp : d.pend.length ≤ 100000000000) (hb : ByteD d) (hg : Good d) :
  Calls Tryz.prog 82 #[.pointer (some ⟨p, 0, none⟩), .int .i64 P, .int .u32 id, v] w fun e w' => WrIs w B p S pv (d.wpage P id D) e w' := by
 obtain ⟨c0, hc0⟩ := h.c0
 by_cases h1 : P < 0 ∨ ((d.n / 4 : Nat) : Int) ≤ P
 ·have e : d.wpage P id D = (4, d) := by unfold DS.wpage; rw [if_pos h1]
  rw [e]
  refine (pwrite_out p S d.n c0 P id v w h.n2 hc0 h1).mono ?_
  rintro e w' ⟨rfl, rfl⟩
  exact ⟨rfl, pv, h, Only.refl _ _, fun b hb => .inl hb⟩
 ·obtain ⟨Q, rfl⟩ : ∃ Q : Nat, P = Q := ⟨P.toNat, by omega⟩
  by_cases h2 : 116 < D.length
  ·have e : d.wpage Q id D = (11, d) := by unfold DS.wpage; rw [if_neg h1, if_pos h2]
   rw [e]
   obtain ⟨a, c, rfl, _, _⟩ := hv.form
   refine (pwrite_large p S d.n c0 D.length c a Q id w h.n2 hc0 (by omega) h2).mono ?_
   rintro e w' ⟨rfl, rfl⟩
   exact ⟨rfl, pv, h, Only.refl _ _, fun b hb => .inl hb⟩
  ·have e : d.wpage Q id D = d.wr4 Q (page id D) 4 := by unfold DS.wpage; rw [if_neg h1, if_neg h2]; rfl
   rw [e]
   exact pwrite_in p S B id Q pv v d D w h hB hv hid (by omega) (by omega) hp hb hg
end Go.Proofs.YtlcglapcmdpkfaaGreat
