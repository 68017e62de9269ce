import Derived.Test.YtenjollhlgjjdaaGreatDoorGaa
import Derived.Test.YtenjollhlgjjdaaGreatDoorGaw
import Derived.BigQuiet
import Derived.Deep.RegionHeld3
/-   -/
set_option linter.unusedSimpArgs false
set_option linter.unusedVariables false
set_option maxRecDepth 100000
set_option maxHeartbeats 40000000
namespace Go.Proofs.YtenjollhlgjjdaaGreatDoor
open Go.RowKit Go.Lib
def ApU (nm : ByteArray) (v : Value) (d : Nat) (R : Except Int (List Vt)) (w : World) : Prop := KqC nm 0 ∧ ∀ W, Oz w W → Cz 42 #[.string nm, v] W fun e w' => DcP R (d + 1) W e w'
def ApW (nm : ByteArray) (v : Value) (l : List Vt) (g o d : Nat) (R : Except Int (List Vt)) (w : World) : Prop :=
 ((nm.toList == [97, 112, 112, 101, 110, 100]) = false ∧ (WyM nm v d R w ∨ (WyN nm v w ∧ (ApU nm v d R w ∨ ∃ x8 k : Int, 0 < k ∧ 1 ≤ d ∧ w.cell? ⟨g, o, none⟩ = some (.int .i64 x8) ∧ 1 ≤ l.length ∧ KqC nm k ∧ R = .ok [boT (x8 == k)])))) ∨
 (nm = ⟨#[97, 112, 112, 101, 110, 100]⟩ ∧ 2 ≤ l.length ∧ ∃ x8 y8 : Int, w.cell? ⟨g, o, none⟩ = some (.int .i64 x8) ∧ w.cell? ⟨g, o + 4, none⟩ = some (.int .i64 y8) ∧ ((¬ x8 = y8 ∧ R = .error 17) ∨ (x8 = y8 ∧ WyN nm v w ∧ ApU nm v d R w)))
theorem rapply_any {nm : ByteArray} (g o c d : Nat) {l : List Vt} {w : World} {S : Nat → Prop} {D : Nat} {ls : List ByteArray} {dss : List (List Int)} {R : Except Int (List Vt)} (hl : VsAt w S (D + 1) l (.slice (some ⟨g, o, none⟩) l.length c)) (hK : KnC nm ls) (hlen : ls.length = dss.length) (hM : ∀ (j : Nat) (s : ByteArray) (ds : List Int), ls[j]? = some s → dss[j]? = some ds → MyC s ds) (hm : ls.length ≤ l.length) (hm3 : ls.length ≤ 3) (hl3 : l.length ≤ 3) (hRs : ∀ rs, R = .ok rs → rs.length ≤ 10003 ∧ ∀ x ∈ rs, ∃ e, SmT e x) (hW : mayB l dss = true → ApW nm (.slice (some ⟨g, o, none⟩) l.length c) l g o d R w) :
  Cz 20 #[.string nm, .slice (some ⟨g, o, none⟩) l.length c] w (fun e w' => DcP (apR (dsB d) (mayB l dss) R) (d + 1) w e w') := by
 obtain ⟨ao0, c00, he0, hcap, hel⟩ := id hl
 have HF0 : Hid (∀ n : Int, (n == 0) = false → ∀ w', Oz w w' → ∀ fit R0, apR (dsB d) fit R0 = .error n → DcP (apR (dsB d) fit R0) (d + 1) w (.returned (.tuple #[.slice none 0 0, .int .i64 n])) w') := fun n hn w' o fit R0 h => by rw [h]; exact ⟨rfl, hn, o⟩
 have HE : Hid (∀ (j : Nat) (x : Vt), l[j]? = some x → ∃ a2 n2 c2, (w.cell? ⟨g, o + j * 4, none⟩ = some (.int .i64 x.k) ∧ w.cell? ⟨g, o + j * 4 + 1, none⟩ = some (.int .i64 x.n) ∧ w.cell? ⟨g, o + j * 4 + 2, none⟩ = some (.string x.s) ∧ w.cell? ⟨g, o + j * 4 + 3, none⟩ = some (.slice a2 n2 c2))) := fun j x hx => by
  cases he0
  obtain ⟨gg, k, lx, e1, _, e2, e3⟩ := hel j x hx
  cases e1
  obtain ⟨a2, c2, rfl⟩ := e3.form
  exact ⟨a2, _, c2, e2⟩
 obtain ⟨m, hm0⟩ : ∃ m, m = ls.length := ⟨_, rfl⟩
 obtain ⟨N, hN0⟩ : ∃ N, N = l.length := ⟨_, rfl⟩
 have HL : Hid (m = ls.length ∧ N = l.length ∧ ls.length = dss.length ∧ ls.length ≤ l.length ∧ ls.length ≤ 3 ∧ l.length ≤ 3) := ⟨hm0, hN0, hlen, hm, hm3, hl3⟩
 have HKn : Hid (KnC nm ls) := hK
 have HMy : Hid (∀ (j : Nat) (s : ByteArray) (ds : List Int), ls[j]? = some s → dss[j]? = some ds → MyC s ds) := hM
 have HRs : Hid (∀ rs, R = .ok rs → rs.length ≤ 10003 ∧ ∀ x ∈ rs, ∃ e, SmT e x) := hRs
 have HW : Hid _ := hW
 have O0 : Hid (Oz w w) := Only.refl _ _
 obtain ⟨fit, hfit⟩ : ∃ fit, fit = mayB l dss := ⟨_, rfl⟩
 have HFit : Hid (fit = mayB l dss) := hfit
 rw [← hfit] at HW
 obtain ⟨Q, hQ⟩ : ∃ Q, Q = apR (dsB d) fit R := ⟨_, rfl⟩
 have HQ : Hid (Q = apR (dsB d) fit R) := hQ
 rw [← hfit, ← hQ]
 rw [← hN0] at HW ⊢
 clear hK hM hRs hW hm3 hl3 hlen hcap hel he0 hfit hQ hl
 have hm3 : m ≤ 3 := by have := HL.out; omega
 have hmN : m ≤ N := by have := HL.out; omega
 clear hm0 hN0 hm
 have hw1 : IntKind.i64.wrap ((m : Int) - 1) = (m : Int) - 1 := by rw [IntKind.wrap_i64]; omega
 go_enter Tryz.func20, Tryz.ntmps20
 go_wp2_with fail
 refine (show Cz 37 _ _ _ from HKn.out _).mono ?_
 rintro e w1 ⟨ak, rfl, G1⟩
 have hmm : ls.length = m := HL.out.1.symm
 rw [hmm]
 have O1 : Hid (Oz w w1) := G1.out.2
 have HK1 : Hid (∀ (j : Nat) (s : ByteArray), ls[j]? = some s → ∃ g, ak = some ⟨g, 0, none⟩ ∧ w1.cell? ⟨g, j, none⟩ = some (.string s)) := G1.out.1
 clear G1 HKn hmm O0
 go_wp2
 go_loopw [7] (fun r wr => ∃ i : Nat, r = .int .i64 ((i : Int) - 1) ∧ i ≤ m ∧ Hid ((∀ (j : Nat) (x : Vt) (ds : List Int), i ≤ j → l[j]? = some x → dss[j]? = some ds → ds.any (· == x.k) = true) ∧ Oz w1 wr)) (fun r _ => (RowKit.intOf r + 1).toNat)
 case atStart => exact ⟨m, rfl, by omega, fun j x ds hj hx hd => by have := HL.out; have := (List.getElem?_eq_some_iff.1 hd).1; omega, Only.refl _ _⟩
 case round =>
  obtain ⟨i, rfl, hi, HI⟩ := hrel
  obtain ⟨w2, hw2⟩ : ∃ w2, w2 = wr := ⟨_, rfl⟩
  rw [← hw2] at HI ⊢
  clear hw2
  by_cases hi0 : i = 0
  ·subst hi0
   have i1 : ¬ (0 : Int) ≤ ((0 : Nat) : Int) - 1 := by omega
   have i2 : ¬ (((0 : Nat) : Int) - 1 ≥ 0) := by omega
   have HF : Hid (fit = true) := HFit.out.trans (mayB_yes l dss (fun j x ds hx hd => HI.out.1 j x ds (Nat.zero_le _) hx hd))
   have O2 : Hid (Oz w w2) := O1.out.trans HI.out.2 (fun _ _ g => g)
   clear HI O1 HK1 HMy HE HFit
   have hN9 := HL.out.2.1
   have HWW := HW.out HF.out
   skip
   clear HW hN9
   rcases HWW with ⟨hna, hw⟩ | ⟨rfl, hl8, x8, y8, hx8, hy8, hw⟩
   ·rcases hw with ⟨rs, rfl, hw⟩ | ⟨hN, hw⟩
    ·have HM : Hid _ := hw
     clear hw
     have na1 : (nm.toList == [97, 112, 112, 101, 110, 100]) = false := hna
     go_wp2
     go_quiet (fail)
     clear na1 hna
     go_wp2_with fail
     refine (show Cz 39 _ _ _ from HM.out _ (by first | exact O2.out | exact O2.out.drew | exact O2.out.drewN _)).mono ?_
     rintro e w3 ⟨a3, c3, rfl, G3⟩
     obtain ⟨n3, hn3⟩ : ∃ n3, n3 = rs.length := ⟨_, rfl⟩
     rw [← hn3] at G3 ⊢
     have HN3 : Hid (n3 = rs.length) := hn3
     have HV3 : Hid (∃ S3, VsAt w3 S3 (d + 1) rs (.slice a3 n3 c3)) := G3.out.1
     have O3 : Hid (Oz w w3) := (by first | exact O2.out.trans G3.out.2 (fun _ _ g => g) | exact O2.out.drew.trans G3.out.2 (fun _ _ g => g) | exact (O2.out.drewN _).trans G3.out.2 (fun _ _ g => g))
     have HRb : Hid (rs.length ≤ 10003 ∧ ∀ x ∈ rs, ∃ e, SmT e x) := HRs.out rs rfl
     have HQr : Hid (Q = apR (dsB d) fit (.ok rs)) := HQ.out
     clear G3 hn3 HM O2 HRs HQ HL
     have HSx : Hid (∀ (j : Nat) (x : Vt), rs[j]? = some x → ∃ gg k lx, a3 = some ⟨gg, k, none⟩ ∧ (w3.cell? ⟨gg, k + j * 4, none⟩ = some (.int .i64 x.k) ∧ w3.cell? ⟨gg, k + j * 4 + 1, none⟩ = some (.int .i64 x.n) ∧ w3.cell? ⟨gg, k + j * 4 + 2, none⟩ = some (.string x.s) ∧ w3.cell? ⟨gg, k + j * 4 + 3, none⟩ = some lx) ∧ ∀ W, Oz w3 W → Cz 18 #[.agg #[.int .i64 x.k, .int .i64 x.n, .string x.s, lx]] W fun e w' => e = .returned (.bool (dsB d x)) ∧ Oz W w') := fun j x hx => by
      obtain ⟨S3, h3⟩ := HV3.out
      obtain ⟨ao0, c00, he0, hcap, hel⟩ := h3
      cases he0
      obtain ⟨gg, k, lx, e1, _, e2, e3⟩ := hel j x hx
      exact ⟨gg, k, lx, e1, e2, fun W q => dsound_any (e3.only q) (HRb.out.2 x (List.mem_of_getElem? hx))⟩
     have HCp : Hid (∀ W, Oz w3 W → Cz 21 #[.slice a3 n3 c3] W fun e w' => ∃ a5 c5, e = .returned (.slice a5 n3 c5) ∧ Hid ((∃ S', VsAt w' S' (d + 1) rs (.slice a5 n3 c5)) ∧ Oz W w')) := fun W q => by
      obtain ⟨S3, h3⟩ := HV3.out
      have hn := HN3.out
      rw [hn] at h3 ⊢
      refine (rcopyall_all d _ rs W S3 (h3.only q) (by have := HRb.out.1; omega) HRb.out.2).mono fun e w' g => ?_
      obtain ⟨a5, c5, he, g⟩ := g
      obtain ⟨S', r1, r2⟩ := g.out.1.rw
      exact ⟨a5, c5, he, ⟨_, r1.vs⟩, g.out.2⟩
     have HB3 : Hid (n3 = rs.length ∧ rs.length ≤ 10003) := ⟨HN3.out, HRb.out.1⟩
     have hb3 : n3 ≤ 10003 := by have := HB3.out; omega
     clear HV3 HN3 HRb
     go_wp2
     go_loopw [11] (fun r wr => ∃ i : Nat, r = .int .i64 (i : Int) ∧ i ≤ n3 ∧ Hid ((∀ (j : Nat) (x : Vt), j < i → rs[j]? = some x → dsB d x = true) ∧ Oz w3 wr)) (fun r _ => n3 - uOf r)
     case atStart => exact ⟨0, rfl, Nat.zero_le _, fun j x hj hx => by omega, Only.refl _ _⟩
     case round =>
      obtain ⟨i, rfl, hi, HI⟩ := hrel
      obtain ⟨w5, hw5⟩ : ∃ w5, w5 = wr := ⟨_, rfl⟩
      rw [← hw5] at HI ⊢
      clear hw5
      by_cases hin : i < n3
      ·have hn3 := HB3.out
       obtain ⟨x, hx⟩ : ∃ x, rs[i]? = some x := ⟨rs[i]'(by omega), List.getElem?_eq_getElem (by omega)⟩
       obtain ⟨gg, k, lx, rfl, ⟨h0, h1, h2, h3⟩, hcall⟩ := HSx.out i x hx
       obtain ⟨Z, hZ⟩ : ∃ Z, Z = dsB d x := ⟨_, rfl⟩
       rw [← hZ] at hcall
       have o5 := HI.out.2
       have HCC : Hid _ := hcall w5 o5
       have HZ : Hid (Z = dsB d x ∧ rs[i]? = some x) := ⟨hZ, hx⟩
       obtain ⟨x0, hx0⟩ : ∃ x0, x0 = x.k := ⟨_, rfl⟩
       obtain ⟨x1, hx1⟩ : ∃ x1, x1 = x.n := ⟨_, rfl⟩
       obtain ⟨x2, hx2⟩ : ∃ x2, x2 = x.s := ⟨_, rfl⟩
       rw [← hx0, ← hx1, ← hx2] at HCC
       have c0 : w5.cell? ⟨gg, k + i * 4, none⟩ = some (.int .i64 x0) := hx0 ▸ o5.cell h0 (fun g => g)
       have c1 : w5.cell? ⟨gg, k + i * 4 + 1, none⟩ = some (.int .i64 x1) := hx1 ▸ o5.cell h1 (fun g => g)
       have c2 : w5.cell? ⟨gg, k + i * 4 + 2, none⟩ = some (.string x2) := hx2 ▸ o5.cell h2 (fun g => g)
       have c3' : w5.cell? ⟨gg, k + i * 4 + 3, none⟩ = some lx := o5.cell h3 (fun g => g)
       have i1 : (i : Int) < (n3 : Int) := by omega
       have i0 : (0 : Int) ≤ (i : Int) := by omega
       have hi4 : i ≤ 10003 := by omega
       clear hn3 hx h0 h1 h2 h3 hcall hZ o5 hx0 hx1 hx2 HSx HCp hi
       go_wp2_with fail
       refine (show Cz 18 _ _ _ from HCC.out).mono ?_
       rintro e w6 ⟨rfl, o6⟩
       have O6 : Hid (Oz w3 w6) := HI.out.2.trans o6 (fun _ _ g => g)
       clear HCC o6 c0 c1 c2 c3'
       cases Z with
       | false =>
         have HP : Hid (DcP Q (d + 1) w (.returned (.tuple #[.slice none 0 0, .int .i64 11])) w6) := by
          have := HF0.out 11 (by decide) w6 (O3.out.trans O6.out (fun _ _ g => g)) fit (.ok rs) (ap_11 HF.out HZ.out.2 HZ.out.1.symm)
          rw [← HQr.out] at this
          exact this
         go_wp2
         go_ret2
         exact HP.out
       | true =>
         go_wp2
         go_roundw
         case rel => exact ⟨i + 1, by go_num, by omega, fun jj y hj hy => by
           by_cases e : jj = i
           ·subst e
            rw [HZ.out.2] at hy
            cases hy
            exact HZ.out.1.symm
           ·exact HI.out.1 jj y (by omega) hy, O6.out⟩
         case measure => simp only [uOf]; omega
      ·obtain rfl : i = n3 := by omega
       have i1 : ¬ (i : Int) < (i : Int) := by omega
       have HP : Hid (Q = .ok rs) := HQr.out.trans (ap_ok HF.out (fun j x hj hx => HI.out.1 j x (by have := HB3.out; omega) hx))
       have HC5 : Hid _ := HCp.out w5 HI.out.2
       clear hin hi HSx HCp HF0
       go_wp2_with fail
       refine (show Cz 21 _ _ _ from HC5.out).mono ?_
       rintro e w6 ⟨a5, c5, rfl, G5⟩
       have HE5 : Hid (DcP Q (d + 1) w (.returned (.tuple #[.slice a5 i c5, .int .i64 0])) w6) := by
        rw [HP.out]
        have hb := HB3.out.1
        subst hb
        exact ⟨a5, c5, rfl, ⟨G5.out.1, (O3.out.trans HI.out.2 (fun _ _ g => g)).trans G5.out.2 (fun _ _ g => g)⟩⟩
       clear G5 HC5 HI
       go_wp2
       go_ret2
       exact HE5.out
    ·have HNo : Hid _ := hN
     clear hN
     rcases hw with ⟨hq, hw⟩ | ⟨x8, k, hk0, hd1, hx8, hl8, hq, rfl⟩
     ·have HKq : Hid (KqC nm 0) := hq
      have HWr : Hid _ := hw
      clear hq hw
      have na1 : (nm.toList == [97, 112, 112, 101, 110, 100]) = false := hna
      go_wp2
      go_quiet (fail)
      clear na1 hna
      go_wp2_with fail
      refine (show Cz 39 _ _ _ from HNo.out _ (by first | exact O2.out | exact O2.out.drew | exact O2.out.drewN _)).mono ?_
      rintro e w9 ⟨rfl, hw9⟩
      have O9 : Hid (Oz w w9) := by rw [hw9]; first | exact O2.out | exact O2.out.drew | exact O2.out.drewN _
      clear hw9 HNo O2
      go_wp2_with fail
      refine (show Cz 40 _ _ _ from HKq.out _).mono ?_
      rintro e w8 ⟨rfl, o8⟩
      have O8 : Hid (Oz w w8) := O9.out.trans o8 (fun _ _ g => g)
      clear o8 O9
      cases R with
      | error n =>
        clear HKq
        go_wp2_with fail
        refine (show Cz 42 _ _ _ from HWr.out _ (by first | exact O8.out | exact O8.out.drew)).mono ?_
        rintro e w3 ⟨rfl, hn, o3⟩
        have HP : Hid (DcP Q (d + 1) w (.returned (.tuple #[.slice none 0 0, .int .i64 n])) w3) := by
         have := HF0.out n hn w3 (O8.out.trans o3 (fun _ _ g => g)) fit (.error n) (ap_er HF.out)
         rw [← HQ.out] at this
         exact this
        have hn1 : (n != 0) = true := by simpa using hn
        have hn2 : ¬ n = 0 := by simpa using hn
        clear HWr O8 HRs HQ HL HF0 hn o3
        go_wp2
        go_ret2
        exact HP.out
      | ok rs =>
        clear HKq
        go_wp2_with fail
        refine (show Cz 42 _ _ _ from HWr.out _ (by first | exact O8.out | exact O8.out.drew)).mono ?_
        rintro e w3 ⟨a3, c3, rfl, G3⟩
        obtain ⟨n3, hn3⟩ : ∃ n3, n3 = rs.length := ⟨_, rfl⟩
        rw [← hn3] at G3 ⊢
        have HN3 : Hid (n3 = rs.length) := hn3
        have HV3 : Hid (∃ S3, VsAt w3 S3 (d + 1) rs (.slice a3 n3 c3)) := G3.out.1
        have O3 : Hid (Oz w w3) := O8.out.trans G3.out.2 (fun _ _ g => g)
        have HRb : Hid (rs.length ≤ 10003 ∧ ∀ x ∈ rs, ∃ e, SmT e x) := HRs.out rs rfl
        have HQr : Hid (Q = apR (dsB d) fit (.ok rs)) := HQ.out
        clear G3 hn3 HWr O8 HRs HQ HL
        have HSx : Hid (∀ (j : Nat) (x : Vt), rs[j]? = some x → ∃ gg k lx, a3 = some ⟨gg, k, none⟩ ∧ (w3.cell? ⟨gg, k + j * 4, none⟩ = some (.int .i64 x.k) ∧ w3.cell? ⟨gg, k + j * 4 + 1, none⟩ = some (.int .i64 x.n) ∧ w3.cell? ⟨gg, k + j * 4 + 2, none⟩ = some (.string x.s) ∧ w3.cell? ⟨gg, k + j * 4 + 3, none⟩ = some lx) ∧ ∀ W, Oz w3 W → Cz 18 #[.agg #[.int .i64 x.k, .int .i64 x.n, .string x.s, lx]] W fun e w' => e = .returned (.bool (dsB d x)) ∧ Oz W w') := fun j x hx => by
         obtain ⟨S3, h3⟩ := HV3.out
         obtain ⟨ao0, c00, he0, hcap, hel⟩ := h3
         cases he0
         obtain ⟨gg, k, lx, e1, _, e2, e3⟩ := hel j x hx
         exact ⟨gg, k, lx, e1, e2, fun W q => dsound_any (e3.only q) (HRb.out.2 x (List.mem_of_getElem? hx))⟩
        have HCp : Hid (∀ W, Oz w3 W → Cz 21 #[.slice a3 n3 c3] W fun e w' => ∃ a5 c5, e = .returned (.slice a5 n3 c5) ∧ Hid ((∃ S', VsAt w' S' (d + 1) rs (.slice a5 n3 c5)) ∧ Oz W w')) := fun W q => by
         obtain ⟨S3, h3⟩ := HV3.out
         have hn := HN3.out
         rw [hn] at h3 ⊢
         refine (rcopyall_all d _ rs W S3 (h3.only q) (by have := HRb.out.1; omega) HRb.out.2).mono fun e w' g => ?_
         obtain ⟨a5, c5, he, g⟩ := g
         obtain ⟨S', r1, r2⟩ := g.out.1.rw
         exact ⟨a5, c5, he, ⟨_, r1.vs⟩, g.out.2⟩
        have HB3 : Hid (n3 = rs.length ∧ rs.length ≤ 10003) := ⟨HN3.out, HRb.out.1⟩
        have hb3 : n3 ≤ 10003 := by have := HB3.out; omega
        clear HV3 HN3 HRb
        go_wp2
        go_loopw [11] (fun r wr => ∃ i : Nat, r = .int .i64 (i : Int) ∧ i ≤ n3 ∧ Hid ((∀ (j : Nat) (x : Vt), j < i → rs[j]? = some x → dsB d x = true) ∧ Oz w3 wr)) (fun r _ => n3 - uOf r)
        case atStart => exact ⟨0, rfl, Nat.zero_le _, fun j x hj hx => by omega, Only.refl _ _⟩
        case round =>
         obtain ⟨i, rfl, hi, HI⟩ := hrel
         obtain ⟨w5, hw5⟩ : ∃ w5, w5 = wr := ⟨_, rfl⟩
         rw [← hw5] at HI ⊢
         clear hw5
         by_cases hin : i < n3
         ·have hn3 := HB3.out
          obtain ⟨x, hx⟩ : ∃ x, rs[i]? = some x := ⟨rs[i]'(by omega), List.getElem?_eq_getElem (by omega)⟩
          obtain ⟨gg, k, lx, rfl, ⟨h0, h1, h2, h3⟩, hcall⟩ := HSx.out i x hx
          obtain ⟨Z, hZ⟩ : ∃ Z, Z = dsB d x := ⟨_, rfl⟩
          rw [← hZ] at hcall
          have o5 := HI.out.2
          have HCC : Hid _ := hcall w5 o5
          have HZ : Hid (Z = dsB d x ∧ rs[i]? = some x) := ⟨hZ, hx⟩
          obtain ⟨x0, hx0⟩ : ∃ x0, x0 = x.k := ⟨_, rfl⟩
          obtain ⟨x1, hx1⟩ : ∃ x1, x1 = x.n := ⟨_, rfl⟩
          obtain ⟨x2, hx2⟩ : ∃ x2, x2 = x.s := ⟨_, rfl⟩
          rw [← hx0, ← hx1, ← hx2] at HCC
          have c0 : w5.cell? ⟨gg, k + i * 4, none⟩ = some (.int .i64 x0) := hx0 ▸ o5.cell h0 (fun g => g)
          have c1 : w5.cell? ⟨gg, k + i * 4 + 1, none⟩ = some (.int .i64 x1) := hx1 ▸ o5.cell h1 (fun g => g)
          have c2 : w5.cell? ⟨gg, k + i * 4 + 2, none⟩ = some (.string x2) := hx2 ▸ o5.cell h2 (fun g => g)
          have c3' : w5.cell? ⟨gg, k + i * 4 + 3, none⟩ = some lx := o5.cell h3 (fun g => g)
          have i1 : (i : Int) < (n3 : Int) := by omega
          have i0 : (0 : Int) ≤ (i : Int) := by omega
          have hi4 : i ≤ 10003 := by omega
          clear hn3 hx h0 h1 h2 h3 hcall hZ o5 hx0 hx1 hx2 HSx HCp hi
          go_wp2_with fail
          refine (show Cz 18 _ _ _ from HCC.out).mono ?_
          rintro e w6 ⟨rfl, o6⟩
          have O6 : Hid (Oz w3 w6) := HI.out.2.trans o6 (fun _ _ g => g)
          clear HCC o6 c0 c1 c2 c3'
          cases Z with
          | false =>
            have HP : Hid (DcP Q (d + 1) w (.returned (.tuple #[.slice none 0 0, .int .i64 11])) w6) := by
             have := HF0.out 11 (by decide) w6 (O3.out.trans O6.out (fun _ _ g => g)) fit (.ok rs) (ap_11 HF.out HZ.out.2 HZ.out.1.symm)
             rw [← HQr.out] at this
             exact this
            go_wp2
            go_ret2
            exact HP.out
          | true =>
            go_wp2
            go_roundw
            case rel => exact ⟨i + 1, by go_num, by omega, fun jj y hj hy => by
              by_cases e : jj = i
              ·subst e
               rw [HZ.out.2] at hy
               cases hy
               exact HZ.out.1.symm
              ·exact HI.out.1 jj y (by omega) hy, O6.out⟩
            case measure => simp only [uOf]; omega
         ·obtain rfl : i = n3 := by omega
          have i1 : ¬ (i : Int) < (i : Int) := by omega
          have HP : Hid (Q = .ok rs) := HQr.out.trans (ap_ok HF.out (fun j x hj hx => HI.out.1 j x (by have := HB3.out; omega) hx))
          have HC5 : Hid _ := HCp.out w5 HI.out.2
          clear hin hi HSx HCp HF0
          go_wp2_with fail
          refine (show Cz 21 _ _ _ from HC5.out).mono ?_
          rintro e w6 ⟨a5, c5, rfl, G5⟩
          have HE5 : Hid (DcP Q (d + 1) w (.returned (.tuple #[.slice a5 i c5, .int .i64 0])) w6) := by
           rw [HP.out]
           have hb := HB3.out.1
           subst hb
           exact ⟨a5, c5, rfl, ⟨G5.out.1, (O3.out.trans HI.out.2 (fun _ _ g => g)).trans G5.out.2 (fun _ _ g => g)⟩⟩
          clear G5 HC5 HI
          go_wp2
          go_ret2
          exact HE5.out
     ·have HKq : Hid (KqC nm k) := hq
      have HX0 : Hid (w.cell? ⟨g, o, none⟩ = some (.int .i64 x8)) := hx8
      clear hq hx8
      have na1 : (nm.toList == [97, 112, 112, 101, 110, 100]) = false := hna
      go_wp2
      go_quiet (fail)
      clear na1 hna
      go_wp2_with fail
      refine (show Cz 39 _ _ _ from HNo.out _ (by first | exact O2.out | exact O2.out.drew | exact O2.out.drewN _)).mono ?_
      rintro e w9 ⟨rfl, hw9⟩
      have O9 : Hid (Oz w w9) := by rw [hw9]; first | exact O2.out | exact O2.out.drew | exact O2.out.drewN _
      clear hw9 HNo O2
      go_wp2_with fail
      refine (show Cz 40 _ _ _ from HKq.out _).mono ?_
      rintro e w8 ⟨rfl, o8⟩
      have O8 : Hid (Oz w w8) := O9.out.trans o8 (fun _ _ g => g)
      clear o8 O9
      have HFl : Hid (∀ b w, Cz 41 #[.bool b] w fun e w' => R1P (boT b) w e w') := flag_any
      have hk1 : (0 : Int) < k := hk0
      have hk2 : decide (k > 0) = true := by simpa using hk1
      have hN8 : 0 < N := by have := HL.out; have := hl8; omega
      have hN9 : (0 : Int) < (N : Int) := by omega
      go_wp2_with fail
      have HX8 : Hid (∀ W, Oz w W → W.cell? ⟨g, o, none⟩ = some (.int .i64 x8)) := fun W q => q.cell HX0.out (fun g => g)
      have y8 := HX8.out w8 O8.out
      have y8d : w8.drew.cell? ⟨g, o, none⟩ = some (.int .i64 x8) := y8
      go_region_held3 (fun W => W.cell? ⟨g, o, none⟩ = some (.int .i64 x8))
       (first | with_reducible exact HX8.out _ O8.out | with_reducible exact HX8.out _ O8.out.drew | with_reducible exact HX8.out _ O7.out | with_reducible exact HX8.out _ O7.out.drew | with_reducible exact HX8.out _ O6.out)
       (first
        | (have h := O7; clear h; go_at_call 41; refine (show Cz 41 _ _ _ from HFl.out _ _).mono ?_; rintro ex w3 ⟨a3, c3, rfl, G3⟩; have O6 : Hid (Oz w w3) := (by first | exact O7.out.trans G3.out.2 (fun _ _ g => g) | exact O7.out.drew.trans G3.out.2 (fun _ _ g => g)))
        | (go_at_call 40; refine (show Cz 40 _ _ _ from HKq.out _).mono ?_; rintro ex w7 ⟨rfl, o7⟩; have O7 : Hid (Oz w w7) := (by first | exact O8.out.trans o7 (fun _ _ g => g) | exact O8.out.drew.trans o7 (fun _ _ g => g)); clear o7))
      all_goals
       obtain ⟨rs, hrs⟩ : ∃ rs, rs = [boT (x8 == k)] := ⟨_, rfl⟩
       obtain ⟨n3, hn3⟩ : ∃ n3, n3 = 1 := ⟨_, rfl⟩
       have HN3 : Hid (n3 = rs.length) := by rw [hrs]; exact hn3
       have HV3 : Hid (∃ S3, VsAt w3 S3 (d + 1) rs (.slice a3 n3 c3)) := by
        obtain ⟨S3, h3⟩ := G3.out.1
        rw [hrs, hn3]
        exact ⟨S3, h3.step (fun _ g => g) (fun _ _ _ g => g) (by have := hd1; omega)⟩
       have O3 : Hid (Oz w w3) := O6.out
       have HRb : Hid (rs.length ≤ 10003 ∧ ∀ x ∈ rs, ∃ e, SmT e x) := by rw [hrs]; exact HRs.out _ rfl
       have HQr : Hid (Q = apR (dsB d) fit (.ok rs)) := by rw [hrs]; exact HQ.out
       rw [← hn3]
       clear hN8 hN9 G3 hn3 hrs HKq HFl HX8 y8 y8d O6 O7 O8 hk1 hk2 HRs HQ HL
       have HSx : Hid (∀ (j : Nat) (x : Vt), rs[j]? = some x → ∃ gg k lx, a3 = some ⟨gg, k, none⟩ ∧ (w3.cell? ⟨gg, k + j * 4, none⟩ = some (.int .i64 x.k) ∧ w3.cell? ⟨gg, k + j * 4 + 1, none⟩ = some (.int .i64 x.n) ∧ w3.cell? ⟨gg, k + j * 4 + 2, none⟩ = some (.string x.s) ∧ w3.cell? ⟨gg, k + j * 4 + 3, none⟩ = some lx) ∧ ∀ W, Oz w3 W → Cz 18 #[.agg #[.int .i64 x.k, .int .i64 x.n, .string x.s, lx]] W fun e w' => e = .returned (.bool (dsB d x)) ∧ Oz W w') := fun j x hx => by
        obtain ⟨S3, h3⟩ := HV3.out
        obtain ⟨ao0, c00, he0, hcap, hel⟩ := h3
        cases he0
        obtain ⟨gg, k, lx, e1, _, e2, e3⟩ := hel j x hx
        exact ⟨gg, k, lx, e1, e2, fun W q => dsound_any (e3.only q) (HRb.out.2 x (List.mem_of_getElem? hx))⟩
       have HCp : Hid (∀ W, Oz w3 W → Cz 21 #[.slice a3 n3 c3] W fun e w' => ∃ a5 c5, e = .returned (.slice a5 n3 c5) ∧ Hid ((∃ S', VsAt w' S' (d + 1) rs (.slice a5 n3 c5)) ∧ Oz W w')) := fun W q => by
        obtain ⟨S3, h3⟩ := HV3.out
        have hn := HN3.out
        rw [hn] at h3 ⊢
        refine (rcopyall_all d _ rs W S3 (h3.only q) (by have := HRb.out.1; omega) HRb.out.2).mono fun e w' g => ?_
        obtain ⟨a5, c5, he, g⟩ := g
        obtain ⟨S', r1, r2⟩ := g.out.1.rw
        exact ⟨a5, c5, he, ⟨_, r1.vs⟩, g.out.2⟩
       have HB3 : Hid (n3 = rs.length ∧ rs.length ≤ 10003) := ⟨HN3.out, HRb.out.1⟩
       have hb3 : n3 ≤ 10003 := by have := HB3.out; omega
       clear HV3 HN3 HRb
       go_wp2
       go_loopw [11] (fun r wr => ∃ i : Nat, r = .int .i64 (i : Int) ∧ i ≤ n3 ∧ Hid ((∀ (j : Nat) (x : Vt), j < i → rs[j]? = some x → dsB d x = true) ∧ Oz w3 wr)) (fun r _ => n3 - uOf r)
       case atStart => exact ⟨0, rfl, Nat.zero_le _, fun j x hj hx => by omega, Only.refl _ _⟩
       case round =>
        obtain ⟨i, rfl, hi, HI⟩ := hrel
        obtain ⟨w5, hw5⟩ : ∃ w5, w5 = wr := ⟨_, rfl⟩
        rw [← hw5] at HI ⊢
        clear hw5
        by_cases hin : i < n3
        ·have hn3 := HB3.out
         obtain ⟨x, hx⟩ : ∃ x, rs[i]? = some x := ⟨rs[i]'(by omega), List.getElem?_eq_getElem (by omega)⟩
         obtain ⟨gg, k, lx, rfl, ⟨h0, h1, h2, h3⟩, hcall⟩ := HSx.out i x hx
         obtain ⟨Z, hZ⟩ : ∃ Z, Z = dsB d x := ⟨_, rfl⟩
         rw [← hZ] at hcall
         have o5 := HI.out.2
         have HCC : Hid _ := hcall w5 o5
         have HZ : Hid (Z = dsB d x ∧ rs[i]? = some x) := ⟨hZ, hx⟩
         obtain ⟨x0, hx0⟩ : ∃ x0, x0 = x.k := ⟨_, rfl⟩
         obtain ⟨x1, hx1⟩ : ∃ x1, x1 = x.n := ⟨_, rfl⟩
         obtain ⟨x2, hx2⟩ : ∃ x2, x2 = x.s := ⟨_, rfl⟩
         rw [← hx0, ← hx1, ← hx2] at HCC
         have c0 : w5.cell? ⟨gg, k + i * 4, none⟩ = some (.int .i64 x0) := hx0 ▸ o5.cell h0 (fun g => g)
         have c1 : w5.cell? ⟨gg, k + i * 4 + 1, none⟩ = some (.int .i64 x1) := hx1 ▸ o5.cell h1 (fun g => g)
         have c2 : w5.cell? ⟨gg, k + i * 4 + 2, none⟩ = some (.string x2) := hx2 ▸ o5.cell h2 (fun g => g)
         have c3' : w5.cell? ⟨gg, k + i * 4 + 3, none⟩ = some lx := o5.cell h3 (fun g => g)
         have i1 : (i : Int) < (n3 : Int) := by omega
         have i0 : (0 : Int) ≤ (i : Int) := by omega
         have hi4 : i ≤ 10003 := by omega
         clear hn3 hx h0 h1 h2 h3 hcall hZ o5 hx0 hx1 hx2 HSx HCp hi
         go_wp2_with fail
         refine (show Cz 18 _ _ _ from HCC.out).mono ?_
         rintro e w6 ⟨rfl, o6⟩
         have O6 : Hid (Oz w3 w6) := HI.out.2.trans o6 (fun _ _ g => g)
         clear HCC o6 c0 c1 c2 c3'
         cases Z with
         | false =>
           have HP : Hid (DcP Q (d + 1) w (.returned (.tuple #[.slice none 0 0, .int .i64 11])) w6) := by
            have := HF0.out 11 (by decide) w6 (O3.out.trans O6.out (fun _ _ g => g)) fit (.ok rs) (ap_11 HF.out HZ.out.2 HZ.out.1.symm)
            rw [← HQr.out] at this
            exact this
           go_wp2
           go_ret2
           exact HP.out
         | true =>
           go_wp2
           go_roundw
           case rel => exact ⟨i + 1, by go_num, by omega, fun jj y hj hy => by
             by_cases e : jj = i
             ·subst e
              rw [HZ.out.2] at hy
              cases hy
              exact HZ.out.1.symm
             ·exact HI.out.1 jj y (by omega) hy, O6.out⟩
           case measure => simp only [uOf]; omega
        ·obtain rfl : i = n3 := by omega
         have i1 : ¬ (i : Int) < (i : Int) := by omega
         have HP : Hid (Q = .ok rs) := HQr.out.trans (ap_ok HF.out (fun j x hj hx => HI.out.1 j x (by have := HB3.out; omega) hx))
         have HC5 : Hid _ := HCp.out w5 HI.out.2
         clear hin hi HSx HCp HF0
         go_wp2_with fail
         refine (show Cz 21 _ _ _ from HC5.out).mono ?_
         rintro e w6 ⟨a5, c5, rfl, G5⟩
         have HE5 : Hid (DcP Q (d + 1) w (.returned (.tuple #[.slice a5 i c5, .int .i64 0])) w6) := by
          rw [HP.out]
          have hb := HB3.out.1
          subst hb
          exact ⟨a5, c5, rfl, ⟨G5.out.1, (O3.out.trans HI.out.2 (fun _ _ g => g)).trans G5.out.2 (fun _ _ g => g)⟩⟩
         clear G5 HC5 HI
         go_wp2
         go_ret2
         exact HE5.out
   ·have q0 : w2.cell? ⟨g, o, none⟩ = some (.int .i64 x8) := O2.out.cell hx8 (fun g => g)
    have q1 : w2.cell? ⟨g, o + 4, none⟩ = some (.int .i64 y8) := O2.out.cell hy8 (fun g => g)
    have hN7 : 0 < N := by have := HL.out; omega
    have hN8 : 1 < N := by have := HL.out; omega
    have hN9 : (0 : Int) < (N : Int) := by omega
    have hN6 : (1 : Int) < (N : Int) := by omega
    clear hx8 hy8 hl8
    rcases hw with ⟨hne, rfl⟩ | ⟨rfl, hN, hq, hw⟩
    ·have na1 : (x8 != y8) = true := by simpa using hne
     have HP : Hid (∀ W, Oz w W → DcP Q (d + 1) w (.returned (.tuple #[.slice none 0 0, .int .i64 17])) W) := fun W q => by
      have := HF0.out 17 (by decide) W q fit (.error 17) (ap_er HF.out)
      rw [← HQ.out] at this
      exact this
     go_wp2
     go_quiet (fail)
     go_wp2
     go_ret2
     exact HP.out _ (O2.out.drewN _)
    ·have na1 : (x8 != x8) = false := by simp
     have HNo : Hid _ := hN
     have HKq : Hid (KqC _ 0) := hq
     have HWr : Hid _ := hw
     clear hN hq hw
     go_wp2
     go_quiet (fail)
     clear na1 q0 q1 hN6 hN7 hN8 hN9
     go_wp2_with fail
     refine (show Cz 39 _ _ _ from HNo.out _ (by first | exact O2.out | exact O2.out.drew | exact O2.out.drewN _)).mono ?_
     rintro e w9 ⟨rfl, hw9⟩
     have O9 : Hid (Oz w w9) := by rw [hw9]; first | exact O2.out | exact O2.out.drew | exact O2.out.drewN _
     clear hw9 HNo O2
     go_wp2_with fail
     refine (show Cz 40 _ _ _ from HKq.out _).mono ?_
     rintro e w8 ⟨rfl, o8⟩
     have O8 : Hid (Oz w w8) := O9.out.trans o8 (fun _ _ g => g)
     clear o8 O9
     cases R with
     | error n =>
       clear HKq
       go_wp2_with fail
       refine (show Cz 42 _ _ _ from HWr.out _ (by first | exact O8.out | exact O8.out.drew)).mono ?_
       rintro e w3 ⟨rfl, hn, o3⟩
       have HP : Hid (DcP Q (d + 1) w (.returned (.tuple #[.slice none 0 0, .int .i64 n])) w3) := by
        have := HF0.out n hn w3 (O8.out.trans o3 (fun _ _ g => g)) fit (.error n) (ap_er HF.out)
        rw [← HQ.out] at this
        exact this
       have hn1 : (n != 0) = true := by simpa using hn
       have hn2 : ¬ n = 0 := by simpa using hn
       clear HWr O8 HRs HQ HL HF0 hn o3
       go_wp2
       go_ret2
       exact HP.out
     | ok rs =>
       clear HKq
       go_wp2_with fail
       refine (show Cz 42 _ _ _ from HWr.out _ (by first | exact O8.out | exact O8.out.drew)).mono ?_
       rintro e w3 ⟨a3, c3, rfl, G3⟩
       obtain ⟨n3, hn3⟩ : ∃ n3, n3 = rs.length := ⟨_, rfl⟩
       rw [← hn3] at G3 ⊢
       have HN3 : Hid (n3 = rs.length) := hn3
       have HV3 : Hid (∃ S3, VsAt w3 S3 (d + 1) rs (.slice a3 n3 c3)) := G3.out.1
       have O3 : Hid (Oz w w3) := O8.out.trans G3.out.2 (fun _ _ g => g)
       have HRb : Hid (rs.length ≤ 10003 ∧ ∀ x ∈ rs, ∃ e, SmT e x) := HRs.out rs rfl
       have HQr : Hid (Q = apR (dsB d) fit (.ok rs)) := HQ.out
       clear G3 hn3 HWr O8 HRs HQ HL
       have HSx : Hid (∀ (j : Nat) (x : Vt), rs[j]? = some x → ∃ gg k lx, a3 = some ⟨gg, k, none⟩ ∧ (w3.cell? ⟨gg, k + j * 4, none⟩ = some (.int .i64 x.k) ∧ w3.cell? ⟨gg, k + j * 4 + 1, none⟩ = some (.int .i64 x.n) ∧ w3.cell? ⟨gg, k + j * 4 + 2, none⟩ = some (.string x.s) ∧ w3.cell? ⟨gg, k + j * 4 + 3, none⟩ = some lx) ∧ ∀ W, Oz w3 W → Cz 18 #[.agg #[.int .i64 x.k, .int .i64 x.n, .string x.s, lx]] W fun e w' => e = .returned (.bool (dsB d x)) ∧ Oz W w') := fun j x hx => by
        obtain ⟨S3, h3⟩ := HV3.out
        obtain ⟨ao0, c00, he0, hcap, hel⟩ := h3
        cases he0
        obtain ⟨gg, k, lx, e1, _, e2, e3⟩ := hel j x hx
        exact ⟨gg, k, lx, e1, e2, fun W q => dsound_any (e3.only q) (HRb.out.2 x (List.mem_of_getElem? hx))⟩
       have HCp : Hid (∀ W, Oz w3 W → Cz 21 #[.slice a3 n3 c3] W fun e w' => ∃ a5 c5, e = .returned (.slice a5 n3 c5) ∧ Hid ((∃ S', VsAt w' S' (d + 1) rs (.slice a5 n3 c5)) ∧ Oz W w')) := fun W q => by
        obtain ⟨S3, h3⟩ := HV3.out
        have hn := HN3.out
        rw [hn] at h3 ⊢
        refine (rcopyall_all d _ rs W S3 (h3.only q) (by have := HRb.out.1; omega) HRb.out.2).mono fun e w' g => ?_
        obtain ⟨a5, c5, he, g⟩ := g
        obtain ⟨S', r1, r2⟩ := g.out.1.rw
        exact ⟨a5, c5, he, ⟨_, r1.vs⟩, g.out.2⟩
       have HB3 : Hid (n3 = rs.length ∧ rs.length ≤ 10003) := ⟨HN3.out, HRb.out.1⟩
       have hb3 : n3 ≤ 10003 := by have := HB3.out; omega
       clear HV3 HN3 HRb
       go_wp2
       go_loopw [11] (fun r wr => ∃ i : Nat, r = .int .i64 (i : Int) ∧ i ≤ n3 ∧ Hid ((∀ (j : Nat) (x : Vt), j < i → rs[j]? = some x → dsB d x = true) ∧ Oz w3 wr)) (fun r _ => n3 - uOf r)
       case atStart => exact ⟨0, rfl, Nat.zero_le _, fun j x hj hx => by omega, Only.refl _ _⟩
       case round =>
        obtain ⟨i, rfl, hi, HI⟩ := hrel
        obtain ⟨w5, hw5⟩ : ∃ w5, w5 = wr := ⟨_, rfl⟩
        rw [← hw5] at HI ⊢
        clear hw5
        by_cases hin : i < n3
        ·have hn3 := HB3.out
         obtain ⟨x, hx⟩ : ∃ x, rs[i]? = some x := ⟨rs[i]'(by omega), List.getElem?_eq_getElem (by omega)⟩
         obtain ⟨gg, k, lx, rfl, ⟨h0, h1, h2, h3⟩, hcall⟩ := HSx.out i x hx
         obtain ⟨Z, hZ⟩ : ∃ Z, Z = dsB d x := ⟨_, rfl⟩
         rw [← hZ] at hcall
         have o5 := HI.out.2
         have HCC : Hid _ := hcall w5 o5
         have HZ : Hid (Z = dsB d x ∧ rs[i]? = some x) := ⟨hZ, hx⟩
         obtain ⟨x0, hx0⟩ : ∃ x0, x0 = x.k := ⟨_, rfl⟩
         obtain ⟨x1, hx1⟩ : ∃ x1, x1 = x.n := ⟨_, rfl⟩
         obtain ⟨x2, hx2⟩ : ∃ x2, x2 = x.s := ⟨_, rfl⟩
         rw [← hx0, ← hx1, ← hx2] at HCC
         have c0 : w5.cell? ⟨gg, k + i * 4, none⟩ = some (.int .i64 x0) := hx0 ▸ o5.cell h0 (fun g => g)
         have c1 : w5.cell? ⟨gg, k + i * 4 + 1, none⟩ = some (.int .i64 x1) := hx1 ▸ o5.cell h1 (fun g => g)
         have c2 : w5.cell? ⟨gg, k + i * 4 + 2, none⟩ = some (.string x2) := hx2 ▸ o5.cell h2 (fun g => g)
         have c3' : w5.cell? ⟨gg, k + i * 4 + 3, none⟩ = some lx := o5.cell h3 (fun g => g)
         have i1 : (i : Int) < (n3 : Int) := by omega
         have i0 : (0 : Int) ≤ (i : Int) := by omega
         have hi4 : i ≤ 10003 := by omega
         clear hn3 hx h0 h1 h2 h3 hcall hZ o5 hx0 hx1 hx2 HSx HCp hi
         go_wp2_with fail
         refine (show Cz 18 _ _ _ from HCC.out).mono ?_
         rintro e w6 ⟨rfl, o6⟩
         have O6 : Hid (Oz w3 w6) := HI.out.2.trans o6 (fun _ _ g => g)
         clear HCC o6 c0 c1 c2 c3'
         cases Z with
         | false =>
           have HP : Hid (DcP Q (d + 1) w (.returned (.tuple #[.slice none 0 0, .int .i64 11])) w6) := by
            have := HF0.out 11 (by decide) w6 (O3.out.trans O6.out (fun _ _ g => g)) fit (.ok rs) (ap_11 HF.out HZ.out.2 HZ.out.1.symm)
            rw [← HQr.out] at this
            exact this
           go_wp2
           go_ret2
           exact HP.out
         | true =>
           go_wp2
           go_roundw
           case rel => exact ⟨i + 1, by go_num, by omega, fun jj y hj hy => by
             by_cases e : jj = i
             ·subst e
              rw [HZ.out.2] at hy
              cases hy
              exact HZ.out.1.symm
             ·exact HI.out.1 jj y (by omega) hy, O6.out⟩
           case measure => simp only [uOf]; omega
        ·obtain rfl : i = n3 := by omega
         have i1 : ¬ (i : Int) < (i : Int) := by omega
         have HP : Hid (Q = .ok rs) := HQr.out.trans (ap_ok HF.out (fun j x hj hx => HI.out.1 j x (by have := HB3.out; omega) hx))
         have HC5 : Hid _ := HCp.out w5 HI.out.2
         clear hin hi HSx HCp HF0
         go_wp2_with fail
         refine (show Cz 21 _ _ _ from HC5.out).mono ?_
         rintro e w6 ⟨a5, c5, rfl, G5⟩
         have HE5 : Hid (DcP Q (d + 1) w (.returned (.tuple #[.slice a5 i c5, .int .i64 0])) w6) := by
          rw [HP.out]
          have hb := HB3.out.1
          subst hb
          exact ⟨a5, c5, rfl, ⟨G5.out.1, (O3.out.trans HI.out.2 (fun _ _ g => g)).trans G5.out.2 (fun _ _ g => g)⟩⟩
         clear G5 HC5 HI
         go_wp2
         go_ret2
         exact HE5.out
  ·obtain ⟨j, rfl⟩ : ∃ j, i = j + 1 := ⟨i - 1, by omega⟩
   have hL := HL.out
   obtain ⟨s, hs⟩ : ∃ s, ls[j]? = some s := ⟨ls[j]'(by omega), List.getElem?_eq_getElem (by omega)⟩
   obtain ⟨ds, hds⟩ : ∃ ds, dss[j]? = some ds := ⟨dss[j]'(by omega), List.getElem?_eq_getElem (by omega)⟩
   obtain ⟨x, hx⟩ : ∃ x, l[j]? = some x := ⟨l[j]'(by omega), List.getElem?_eq_getElem (by omega)⟩
   obtain ⟨gk, rfl, hck⟩ := HK1.out j s hs
   obtain ⟨a2, n2, c2, hx0, hx1, hx2, hx3⟩ := HE.out j x hx
   have HC : Hid (∀ W, Oz w2 W → W.cell? ⟨gk, j, none⟩ = some (.string s) ∧ W.cell? ⟨g, o + j * 4, none⟩ = some (.int .i64 x.k) ∧ W.cell? ⟨g, o + j * 4 + 1, none⟩ = some (.int .i64 x.n) ∧ W.cell? ⟨g, o + j * 4 + 2, none⟩ = some (.string x.s) ∧ W.cell? ⟨g, o + j * 4 + 3, none⟩ = some (.slice a2 n2 c2)) := fun W q => by
    have o1 := HI.out.2.trans q (fun _ _ g => g)
    have o2 := O1.out.trans o1 (fun _ _ g => g)
    exact ⟨o1.cell hck (fun g => g), o2.cell hx0 (fun g => g), o2.cell hx1 (fun g => g), o2.cell hx2 (fun g => g), o2.cell hx3 (fun g => g)⟩
   obtain ⟨Z, hZ⟩ : ∃ Z, Z = ds.any (· == x.k) := ⟨_, rfl⟩
   have HMs : Hid (∀ W, Cz 38 #[.string s, .agg #[.int .i64 x.k, .int .i64 x.n, .string x.s, .slice a2 n2 c2]] W fun e w' => e = .returned (.bool Z) ∧ Oz W w') := fun W => by rw [hZ]; exact HMy.out j s ds hs hds x.k x.n x.s a2 n2 c2 W
   have HZ : Hid (Z = ds.any (· == x.k) ∧ l[j]? = some x ∧ dss[j]? = some ds) := ⟨hZ, hx, hds⟩
   obtain ⟨xk, hxk⟩ : ∃ k, k = x.k := ⟨_, rfl⟩
   obtain ⟨xn, hxn⟩ : ∃ k, k = x.n := ⟨_, rfl⟩
   obtain ⟨xs, hxs⟩ : ∃ k, k = x.s := ⟨_, rfl⟩
   rw [← hxk, ← hxn, ← hxs] at HC HMs
   have i1 : ((j + 1 : Nat) : Int) - 1 = (j : Int) := by omega
   rw [i1]
   have i2 : (0 : Int) ≤ (j : Int) := by omega
   have i3 : j < m := by omega
   have i4 : j < N := by omega
   have i5 : (j : Int) < (m : Int) := by omega
   have i6 : (j : Int) < (N : Int) := by omega
   have i7 : j ≤ 3 := by omega
   have iw : IntKind.i64.wrap ((j : Int) - 1) = (j : Int) - 1 := by rw [IntKind.wrap_i64]; omega
   obtain ⟨c0, c1, c2', c3, c4⟩ := HC.out w2 (Only.refl _ _)
   have OR : Hid (Oz w2 w2) := Only.refl _ _
   have HO2 : Hid (Oz w w2) := O1.out.trans HI.out.2 (fun _ _ g => g)
   clear hL hs hds hx hck hx0 hx1 hx2 hx3 hZ hxk hxn hxs HMy HE HK1 hi0
   go_wp2_with fail
   go_region_held3 (fun W => W.cell? ⟨gk, j, none⟩ = some (.string s) ∧ W.cell? ⟨g, o + j * 4, none⟩ = some (.int .i64 xk) ∧ W.cell? ⟨g, o + j * 4 + 1, none⟩ = some (.int .i64 xn) ∧ W.cell? ⟨g, o + j * 4 + 2, none⟩ = some (.string xs) ∧ W.cell? ⟨g, o + j * 4 + 3, none⟩ = some (.slice a2 n2 c2))
    (first | with_reducible exact HC.out _ OR.out | with_reducible exact HC.out _ OR.out.drew | with_reducible exact HC.out _ O4.out | with_reducible exact HC.out _ O4.out.drew)
    (first | (have h := O4; clear h; fail) | (go_at_call 38; refine (show Cz 38 _ _ _ from HMs.out _).mono ?_; rintro ex w4 ⟨rfl, o4⟩; have O4 : Hid (Oz w2 w4) := (by first | exact OR.out.drew.trans o4 (fun _ _ g => g) | exact OR.out.trans o4 (fun _ _ g => g)); clear o4))
   all_goals
    clear HC HMs OR c0 c1 c2' c3 c4
    cases Z with
    | false =>
      have HP : Hid (DcP Q (d + 1) w (.returned (.tuple #[.slice none 0 0, .int .i64 17])) w4) := by
       have hf : fit = false := HFit.out.trans (mayB_no l dss j x ds HZ.out.2.1 HZ.out.2.2 HZ.out.1.symm)
       have := HF0.out 17 (by decide) w4 (HO2.out.trans O4.out (fun _ _ g => g)) fit R (ap_17 hf)
       rw [← HQ.out] at this
       exact this
      go_wp2
      go_ret2
      exact HP.out
    | true =>
      go_wp2
      go_roundw
      case rel => exact ⟨j, by go_num, by omega, fun jj y es hj hy he => by
        by_cases e : jj = j
        ·subst e
         rw [HZ.out.2.1] at hy
         rw [HZ.out.2.2] at he
         cases hy
         cases he
         exact HZ.out.1.symm
        ·exact HI.out.1 jj y es (by omega) hy he, HI.out.2.trans O4.out (fun _ _ g => g)⟩
      case measure => simp only [RowKit.intOf]; omega
def sdQ (sd : Vt → Bool) (st : List Vt) (X : Except Int (List Vt)) : Except Int (List Vt) := if st.all sd = false then .error 1 else X
theorem sq_1 {sd : Vt → Bool} {st : List Vt} {X : Except Int (List Vt)} {i : Nat} {x : Vt} (hx : st[i]? = some x) (hs : sd x = false) : sdQ sd st X = .error 1 := by
 unfold sdQ
 have : st.all sd = false := List.all_eq_false.2 ⟨x, List.mem_of_getElem? hx, by rw [hs]; decide⟩
 rw [if_pos this]
theorem sq_ok {sd : Vt → Bool} {st : List Vt} {X : Except Int (List Vt)} (hs : ∀ (j : Nat) (x : Vt), j < st.length → st[j]? = some x → sd x = true) : st.all sd = true ∧ sdQ sd st X = X := by
 have h : st.all sd = true := List.all_eq_true.2 fun x hx => by
  obtain ⟨j, hj⟩ := List.getElem?_of_mem hx
  exact hs j x (List.getElem?_eq_some_iff.1 hj).1 hj
 exact ⟨h, by unfold sdQ; rw [if_neg (by rw [h]; decide)]⟩
def addR (pre : List Vt) : Except Int (List Vt) → Except Int (List Vt)
 | .error n => .error n
 | .ok rs => .ok (pre ++ rs)
theorem VsAt.inb0 {w : World} {S : Nat → Prop} : ∀ {d : Nat} {l : List Vt} {v : Value}, VsAt w S d l v → VsAt w (fun b => b < w.heap.size) d l v := by
 intro d
 induction d with
 | zero => intro l v h; exact h.elim
 | succ d ih =>
   intro l v h
   obtain ⟨ao, cap, hv, hc, hl⟩ := h
   refine ⟨ao, cap, hv, hc, fun i x hx => ?_⟩
   obtain ⟨g, k, lx, ha, hg, ⟨c0, c1, c2, c3⟩, ht⟩ := hl i x hx
   exact ⟨g, k, lx, ha, World.block_lt_of_cell? w _ c0, ⟨c0, c1, c2, c3⟩, ih ht⟩
theorem VsAt.inb4 {w w' : World} {S S' : Nat → Prop} {n : Nat} : ∀ {d : Nat} {l : List Vt} {v : Value}, VsAt w' S d l v → VsAt w S' d l v → Oz w w' → n = w.heap.size → VsAt w' (fun b => b < n) d l v
 | 0, _, _, h, _, _, _ => h.elim
 | d + 1, l, v, h, h', o, e => by
   have h2 := VsAt.inb0 h'
   subst e
   exact h2.only o
def DoW (nm : ByteArray) (st : List Vt) (D E : Nat) (S : Nat → Prop) (w : World) (X : Except Int (List Vt)) : Prop :=
 (X = .error 10 ∧ ∀ w, Cz 19 #[.string nm] w fun e w' => ∃ n, e = .returned (.tuple #[.int .i64 n, .bool false]) ∧ Oz w w') ∨
 ∃ nk : Nat, nk ≤ 3 ∧ (∀ w, Cz 19 #[.string nm] w fun e w' => e = .returned (.tuple #[.int .i64 (nk : Int), .bool true]) ∧ Oz w w') ∧
   ((st.length < nk ∧ X = .error 16) ∨ ∃ (b : Nat) (A : Except Int (List Vt)), st.length = b + nk ∧ 1 ≤ nk ∧ D ≤ E ∧ (∀ b, S b → b < w.heap.size) ∧ X = addR (st.take b) A ∧ (∀ rs, A = .ok rs → rs.length ≤ 10003) ∧ ∀ (g o c : Nat) (W : World), Oz w W → VsAt W S (D + 1) (st.drop b) (.slice (some ⟨g, o, none⟩) nk c) → Cz 20 #[.string nm, .slice (some ⟨g, o, none⟩) nk c] W fun e w' => DcP A (E + 1) W e w')
theorem rdo_any {nm : ByteArray} {sa : Option Addr} {c D E : Nat} {st : List Vt} {w : World} {S : Nat → Prop} (hl : VsAt w S (D + 1) st (.slice sa st.length c)) (hst : st.length ≤ 1048576) (hsm : ∀ x ∈ st, ∃ e, SmT e x) (X : Except Int (List Vt)) (hDW : st.all (dsB D) = true → DoW nm st D E S w X) :
  Cz 8 #[.string nm, .slice sa st.length c] w (fun e w' => DcP (sdQ (dsB D) st (X)) (E + 1) w e w') := by
 have HVS : Hid (VsAt w S (D + 1) st (.slice sa st.length c) ∧ ∀ x ∈ st, ∃ e, SmT e x) := ⟨hl, hsm⟩
 have HSx : Hid (∀ (j : Nat) (x : Vt), st[j]? = some x → ∃ gg k lx, sa = some ⟨gg, k, none⟩ ∧ (w.cell? ⟨gg, k + j * 4, none⟩ = some (.int .i64 x.k) ∧ w.cell? ⟨gg, k + j * 4 + 1, none⟩ = some (.int .i64 x.n) ∧ w.cell? ⟨gg, k + j * 4 + 2, none⟩ = some (.string x.s) ∧ w.cell? ⟨gg, k + j * 4 + 3, none⟩ = some lx) ∧ ∀ W, Oz w W → Cz 18 #[.agg #[.int .i64 x.k, .int .i64 x.n, .string x.s, lx]] W fun e w' => e = .returned (.bool (dsB D x)) ∧ Oz W w') := fun j x hx => by
  obtain ⟨ao0, c00, he0, hcap, hel⟩ := hl
  cases he0
  obtain ⟨gg, k, lx, e1, _, e2, e3⟩ := hel j x hx
  exact ⟨gg, k, lx, e1, e2, fun W q => dsound_any (e3.only q) (hsm x (List.mem_of_getElem? hx))⟩
 obtain ⟨Q, hQ⟩ : ∃ Q, Q = sdQ (dsB D) st (X) := ⟨_, rfl⟩
 have HQ : Hid (Q = sdQ (dsB D) st (X)) := hQ
 rw [← hQ]
 obtain ⟨L, hL⟩ : ∃ L, L = st.length := ⟨_, rfl⟩
 have HL : Hid (L = st.length ∧ st.length ≤ 1048576) := ⟨hL, hst⟩
 rw [← hL]
 have hLb : L ≤ 1048576 := by omega
 have O0 : Hid (Oz w w) := Only.refl _ _
 have HDW : Hid _ := hDW
 clear hDW hl hst hsm hQ hL
 go_enter Tryz.func8, Tryz.ntmps8
 go_wp2
 go_loopw [6] (fun r wr => ∃ i : Nat, r = .int .i64 (i : Int) ∧ i ≤ L ∧ Hid ((∀ (j : Nat) (x : Vt), j < i → st[j]? = some x → dsB D x = true) ∧ Oz w wr)) (fun r _ => L - uOf r)
 case atStart => exact ⟨0, rfl, Nat.zero_le _, fun j x hj hx => by omega, O0.out⟩
 case round =>
  obtain ⟨i, rfl, hi, HI⟩ := hrel
  obtain ⟨w2, hw2⟩ : ∃ w2, w2 = wr := ⟨_, rfl⟩
  rw [← hw2] at HI ⊢
  clear hw2
  by_cases hiL : i < L
  ·have hL4 := HL.out
   obtain ⟨x, hx⟩ : ∃ x, st[i]? = some x := ⟨st[i]'(by omega), List.getElem?_eq_getElem (by omega)⟩
   obtain ⟨gg, k, lx, hsa, ⟨h0, h1, h2, h3⟩, hcall⟩ := HSx.out i x hx
   cases hsa
   obtain ⟨Z, hZ⟩ : ∃ Z, Z = dsB D x := ⟨_, rfl⟩
   rw [← hZ] at hcall
   have o2 := HI.out.2
   have HCC : Hid _ := hcall w2 o2
   have HZ : Hid (Z = dsB D x ∧ st[i]? = some x) := ⟨hZ, hx⟩
   obtain ⟨x0, hx0⟩ : ∃ x0, x0 = x.k := ⟨_, rfl⟩
   obtain ⟨x1, hx1⟩ : ∃ x1, x1 = x.n := ⟨_, rfl⟩
   obtain ⟨x2, hx2⟩ : ∃ x2, x2 = x.s := ⟨_, rfl⟩
   rw [← hx0, ← hx1, ← hx2] at HCC
   have c0 : w2.cell? ⟨gg, k + i * 4, none⟩ = some (.int .i64 x0) := hx0 ▸ o2.cell h0 (fun g => g)
   have c1 : w2.cell? ⟨gg, k + i * 4 + 1, none⟩ = some (.int .i64 x1) := hx1 ▸ o2.cell h1 (fun g => g)
   have c2 : w2.cell? ⟨gg, k + i * 4 + 2, none⟩ = some (.string x2) := hx2 ▸ o2.cell h2 (fun g => g)
   have c3' : w2.cell? ⟨gg, k + i * 4 + 3, none⟩ = some lx := o2.cell h3 (fun g => g)
   have i1 : (i : Int) < (L : Int) := by omega
   have i0 : (0 : Int) ≤ (i : Int) := by omega
   have hi4 : i ≤ 1048576 := by omega
   clear hL4 hx h0 h1 h2 h3 hcall hZ o2 hx0 hx1 hx2 HSx hi HDW
   go_wp2_with fail
   refine (show Cz 18 _ _ _ from HCC.out).mono ?_
   rintro e w6 ⟨rfl, o6⟩
   have O6 : Hid (Oz w w6) := HI.out.2.trans o6 (fun _ _ g => g)
   clear HCC o6 c0 c1 c2 c3'
   cases Z with
   | false =>
     have HP : Hid (DcP Q (E + 1) w (.returned (.tuple #[.slice none 0 0, .int .i64 1])) w6) := by
      rw [HQ.out, sq_1 HZ.out.2 HZ.out.1.symm]
      exact ⟨rfl, by decide, O6.out⟩
     go_wp2
     go_ret2
     exact HP.out
   | true =>
     go_wp2
     go_roundw
     case rel => exact ⟨i + 1, by go_num, by omega, fun jj y hj hy => by
       by_cases e : jj = i
       ·subst e
        rw [HZ.out.2] at hy
        cases hy
        exact HZ.out.1.symm
       ·exact HI.out.1 jj y (by omega) hy, O6.out⟩
     case measure => simp only [uOf]; omega
  ·obtain rfl : i = L := by omega
   have i1 : ¬ (i : Int) < (i : Int) := by omega
   obtain ⟨hal, hq⟩ := sq_ok (sd := dsB D) (st := st) (X := X) (fun j x hj hx => HI.out.1 j x (by have := HL.out; omega) hx)
   have HP : Hid (st.all (dsB D) = true ∧ Q = (X)) := ⟨hal, HQ.out.trans hq⟩
   have O2 : Hid (Oz w w2) := HI.out.2
   clear HI HQ hq hal hi hiL O0
   rcases HDW.out HP.out.1 with ⟨hX, hT⟩ | ⟨nk, hnk, hT, ⟨hlt, hX⟩ | ⟨b, A, hb, hnk1, hDE, hS, hX, hrs, hA⟩⟩
   ·have HT : Hid _ := hT
    clear hT HDW HSx
    go_wp2_with fail
    refine (show Cz 19 _ _ _ from HT.out _).mono ?_
    rintro e w3 ⟨n, rfl, o3⟩
    have HPP : Hid (DcP Q (E + 1) w (.returned (.tuple #[.slice none 0 0, .int .i64 10])) w3) := by
     rw [HP.out.2, hX]
     exact ⟨rfl, by decide, O2.out.trans o3 (fun _ _ g => g)⟩
    clear o3 HT hX
    go_wp2
    go_ret2
    exact HPP.out
   ·have HT : Hid _ := hT
    clear hT HDW HSx
    go_wp2_with fail
    refine (show Cz 19 _ _ _ from HT.out _).mono ?_
    rintro e w3 ⟨rfl, o3⟩
    have HPP : Hid (DcP Q (E + 1) w (.returned (.tuple #[.slice none 0 0, .int .i64 16])) w3) := by
     rw [HP.out.2, hX]
     exact ⟨rfl, by decide, O2.out.trans o3 (fun _ _ g => g)⟩
    have i9 : (i : Int) < (nk : Int) := by have := HL.out; omega
    clear o3 HT hX hlt
    go_wp2
    go_ret2
    exact HPP.out
   ·have HT : Hid _ := hT
    clear hT HDW hS
    obtain ⟨x9, hx9⟩ : ∃ x9, st[b]? = some x9 := ⟨st[b]'(by omega), List.getElem?_eq_getElem (by omega)⟩
    obtain ⟨g9, k9, lx9, rfl, u9, v9⟩ := HSx.out b x9 hx9
    have hcap : st.length ≤ c := by obtain ⟨_, _, e, h, _⟩ := HVS.out.1; cases e; exact h
    have HD : Hid (∀ W, Oz w W → VsAt W S (D + 1) (st.drop b) (.slice (some ⟨g9, k9 + b * 4, none⟩) nk (c - b)) ∧ VsAt W S (D + 1) (st.take b) (.slice (some ⟨g9, k9, none⟩) b c)) := fun W q => by
     obtain ⟨ao0, c00, he0, _, hel⟩ := HVS.out.1.only q
     cases he0
     refine ⟨⟨_, _, by rw [List.length_drop, show st.length - b = nk by omega], by rw [List.length_drop]; omega, fun i y hy => ?_⟩, ⟨_, _, by rw [List.length_take, show min b st.length = b by omega], by rw [List.length_take]; omega, fun i y hy => ?_⟩⟩
     ·rw [List.getElem?_drop] at hy
      obtain ⟨g, k, lx, e1, e2, e3, e4⟩ := hel _ y hy
      cases e1
      refine ⟨_, _, lx, rfl, e2, ?_, e4⟩
      rw [show k9 + b * 4 + i * 4 = k9 + (b + i) * 4 by omega]
      exact e3
     ·rw [List.getElem?_take] at hy
      by_cases hib : i < b
      ·rw [if_pos hib] at hy
       exact hel i y hy
      ·rw [if_neg hib] at hy
       cases hy
    have hLi := HL.out
    have i9 : ¬ (i : Int) < (nk : Int) := by omega
    have e1 : IntKind.i64.wrap ((i : Int) - (nk : Int)) = (b : Int) := by rw [IntKind.wrap_i64]; omega
    have e2 : wrap64 ((i : Int) - (nk : Int)) = (b : Int) := by unfold wrap64; omega
    have e3 : i - b = nk := by omega
    have e4 : ¬ c = b := by omega
    have e5 : (b : Int) ≤ (i : Int) := by omega
    have e6 : (0 : Int) ≤ (b : Int) := by omega
    have e7 : (i : Int) ≤ (c : Int) := by omega
    have e8 : (b : Int) ≤ (c : Int) := by omega
    have e9 : ¬ c = 0 := by omega
    have hbL : b ≤ 1048576 := by omega
    have HX : Hid (D ≤ E ∧ st.length = b + nk ∧ X = addR (st.take b) A ∧ ∀ rs, A = .ok rs → rs.length ≤ 10003) := ⟨hDE, hb, hX, hrs⟩
    have HA : Hid _ := hA
    clear u9 v9 hb hcap hx9 x9 hLi hDE hX hrs hA HSx
    go_wp2_with fail
    refine (show Cz 19 _ _ _ from HT.out _).mono ?_
    rintro e w3 ⟨rfl, o3⟩
    have O3 : Hid (Oz w w3) := O2.out.trans o3 (fun _ _ g => g)
    clear o3 HT O2
    have HAA : Hid _ := HA.out g9 (k9 + b * 4) (c - b) w3 O3.out (HD.out w3 O3.out).1
    clear HA
    go_wp2_with fail
    refine (show Cz 20 _ _ _ from HAA.out).mono ?_
    cases A with
    | error n =>
      rintro e w4 ⟨rfl, hn, o4⟩
      have HPP : Hid (DcP Q (E + 1) w (.returned (.tuple #[.slice none 0 0, .int .i64 n])) w4) := by
       rw [HP.out.2, HX.out.2.2.1]
       exact ⟨rfl, hn, O3.out.trans o4 (fun _ _ g => g)⟩
      have hn1 : (n != 0) = true := by simpa using hn
      have hn2 : ¬ n = 0 := by simpa using hn
      clear o4 HAA HD hn
      go_wp2
      go_ret2
      exact HPP.out
    | ok rs =>
      rintro e w4 ⟨a4, c4, rfl, G4⟩
      obtain ⟨n4, hn4⟩ : ∃ n4, n4 = rs.length := ⟨_, rfl⟩
      rw [← hn4] at G4 ⊢
      have O4 : Hid (Oz w w4) := O3.out.trans G4.out.2 (fun _ _ g => g)
      have HV4 : Hid (n4 = rs.length ∧ ∃ S4, VsAt w4 S4 (E + 1) rs (.slice a4 n4 c4)) := ⟨hn4, G4.out.1⟩
      have HC : Hid (Cz 21 #[.slice (some ⟨g9, k9, none⟩) b c] w4 fun e w' => ∃ a5 c5, e = .returned (.slice a5 b c5) ∧ Hid ((∃ S', RwAt w' w4.heap.size S' E (.slice a5 b c5) (st.take b)) ∧ Oz w4 w')) := by
       have h := (HD.out w4 O4.out).2
       have hb : (st.take b).length = b := by rw [List.length_take]; have := HX.out; omega
       obtain ⟨T, hT⟩ : ∃ T, T = st.take b := ⟨_, rfl⟩
       have hTs : ∀ x ∈ T, ∃ e, SmT e x := fun x hx => HVS.out.2 x (List.mem_of_mem_take (hT ▸ hx))
       have hTl : T.length ≤ 1048576 := by rw [hT, hb]; have := HL.out; have := HX.out; omega
       rw [← hT] at h hb ⊢
       rw [← hb] at h ⊢
       refine (rcopyall_all E _ T w4 S (h.step (d' := E + 1) (fun _ g => g) (fun _ _ _ g => g) (Nat.succ_le_succ HX.out.1)) hTl hTs).mono fun e w' g => ?_
       obtain ⟨a5, c5, he, g⟩ := g
       obtain ⟨S', r1, r2⟩ := g.out.1.rw
       exact ⟨a5, c5, he, ⟨S', r1⟩, g.out.2⟩
      clear G4 hn4 HAA HD O3
      go_wp2_with fail
      refine (show Cz 21 _ _ _ from HC.out).mono ?_
      rintro e w5 ⟨a5, c5, rfl, G5⟩
      have HF : ∃ v6 w6, (∀ ty, (Builtin.append_ #[22, 22] ty #[.slice a5 b c5, .slice a4 n4 c4]).run Tryz.prog w5 = .ok v6 w6) ∧ Hid (DcP Q (E + 1) w (.returned (.tuple #[v6, .int .i64 0])) w6) := by
       obtain ⟨hn, S4, h4⟩ := HV4.out
       obtain ⟨S5, r5⟩ := G5.out.1
       have o5 := G5.out.2
       have h5 := h4.only o5
       have hx := HX.out
       have hr3 := hx.2.2.2 rs rfl
       obtain ⟨v6, w6, hr, r6, o6⟩ := r5.app (h5.inb4 h4 o5 rfl) (fun b hb => ⟨Nat.lt_of_lt_of_le hb o5.size, fun e => by have := (r5.lt b e).1; omega⟩) (by rw [List.length_take]; omega) (by omega) o5.size
       refine ⟨v6, w6, hr, ?_⟩
       obtain ⟨a7, c7, hv⟩ := r6.form
       rw [HP.out.2, HX.out.2.2.1, hv]
       rw [hv] at r6
       exact ⟨a7, c7, rfl, ⟨⟨_, r6.vs⟩, (O4.out.trans o5 (fun _ _ g => g)).trans o6 (fun b hb e => by have := (r5.lt b e).1; have := O4.out.size; omega)⟩⟩
      obtain ⟨v6, w6, hr6, HPP⟩ := HF
      have HR6 : Hid _ := hr6
      clear G5 HV4 HC HX HVS HL hr6
      go_wp2_with (at_builtin; refine vwpList_append_run rfl _ _ 22 rfl _ _ _ rfl rfl HR6.out ?_)
      go_ret2
      exact HPP.out
end Go.Proofs.YtenjollhlgjjdaaGreatDoor
