/- A measure goes through lists: every; value, item. A measure of a value, of an item; all of them. A measure of a list, of a quotation, of an item; of all. The measure of values: a list of two, a quotation of one. The measure of values: a list of two, a quotation of one; Check. Check of what is not sound. -/
import Derived.Test.YtllpacppedobjaaGreatDoorHad
namespace Go.Proofs.YtllpacppedobjaaGreatDoor
open Go.RowKit Go.Lib
set_option linter.unusedSimpArgs false
set_option linter.unusedVariables false
/-- a measure's block is none of the tables' -/
def Mg (M : Nat) : Prop := 4 ≠ M ∧ 0 ≠ M ∧ 1 ≠ M
/-- what a measure answers of a value or an item -/
def MsC (d : Nat) (i : Bool) (F : Nat) : Prop := ∀ (t : Vt) (v : Value) (w : World) (S : Nat → Prop) (M k o : Nat) (dd : Int), TiAt w S d i t v → (∀ b, S b → b ≠ M) → (∃ e, SmT e t) → VmB w M k dd → k ≤ 1024 → (o : Int) ≤ dd → dd ≤ 1000 → o ≤ 32 → Tb w → Mg M →
  Calls Tryz.prog F #[.pointer (some ⟨M, 0, none⟩), v, .int .i64 (o : Int)] w fun e w' => e = .returned (.bool (msB d i t k o)) ∧ Hid (Only (fun b => b = M) w w' ∧ (msB d i t k o = true → ∃ dd' : Int, VmB w' M ((k + sz d i t : Nat) : Int) dd' ∧ dd' = max dd ((o + dp d i t : Nat) : Int) ∧ dd' ≤ 1000))
/-- and of the parts of a list or a quotation -/
def EvC (d : Nat) (i : Bool) (F Fm : Nat) : Prop := ∀ (l : List Vt) (ao : Option Addr) (cap : Nat) (w : World) (S : Nat → Prop) (M k o : Nat) (dd : Int), (∀ (j : Nat) (x : Vt), l[j]? = some x → ∃ g q u, ao = some ⟨g, q, none⟩ ∧ S g ∧ w.cell? ⟨g, q + j, none⟩ = some u ∧ TiAt w S d i x u) → (∀ b, S b → b ≠ M) → (∀ x ∈ l, ∃ e, SmT e x) → l.length ≤ 1048576 → VmB w M k dd → k ≤ 1024 → (o : Int) ≤ dd → dd ≤ 1000 → o ≤ 32 → Tb w → Mg M →
  Calls Tryz.prog F #[.slice ao l.length cap, .func (.func Fm) #[.pointer (some ⟨M, 0, none⟩)] #[], .int .i64 (o : Int)] w fun e w' => e = .returned (.bool (evB d i l k o)) ∧ Hid (Only (fun b => b = M) w w' ∧ (evB d i l k o = true → ∃ dd' : Int, VmB w' M ((k + (l.map (sz d i)).sum : Nat) : Int) dd' ∧ dd' = max dd ((o + (l.map (dp d i)).foldl max 0 : Nat) : Int) ∧ dd' ≤ 1000))
set_option maxRecDepth 100000 in
set_option maxHeartbeats 4000000 in
theorem ev_values (d : Nat) (H : MsC d false 44) : EvC d false 64 44 := by
  intro l ao cap w S M k o dd hl hM hsm hlen hv hk hd1 hd2 ho hT hg
  have HE : Hid (∀ (j : Nat) (x : Vt), l[j]? = some x → ∃ g q u, ao = some ⟨g, q, none⟩ ∧ w.cell? ⟨g, q + j, none⟩ = some u ∧ g ≠ M ∧ ∀ (k1 : Nat) (dd1 : Int) w1, Only (fun b => b = M) w w1 → VmB w1 M k1 dd1 → k1 ≤ 1024 → (o : Int) ≤ dd1 → dd1 ≤ 1000 → Calls Tryz.prog 44 #[.pointer (some ⟨M, 0, none⟩), u, .int .i64 (o : Int)] w1 fun e w' => e = .returned (.bool (msB d false x k1 o)) ∧ Hid (Only (fun b => b = M) w1 w' ∧ (msB d false x k1 o = true → ∃ dd' : Int, VmB w' M ((k1 + sz d false x : Nat) : Int) dd' ∧ dd' = max dd1 ((o + dp d false x : Nat) : Int) ∧ dd' ≤ 1000))) := by
    intro j x hx
    obtain ⟨g, q, u, p1, p2, p3, p4⟩ := hl j x hx
    refine ⟨g, q, u, p1, p3, hM g p2, fun k1 dd1 w1 o1 hv1 hk1 h1 h2 => ?_⟩
    exact H x u w1 S M k1 o dd1 (p4.only o1 (fun b hb => hM b hb)) hM (hsm x (List.mem_of_getElem? hx)) hv1 hk1 h1 h2 ho (hT.keep o1 hg.1 hg.2.1 hg.2.2) hg
  obtain ⟨N, hN⟩ : ∃ N, N = l.length := ⟨_, rfl⟩
  have HN : Hid (N = l.length ∧ N ≤ 1048576) := ⟨hN, by omega⟩
  have HV : Hid (VmB w M k dd ∧ (o : Int) ≤ dd ∧ dd ≤ 1000 ∧ k ≤ 1024) := ⟨hv, hd1, hd2, hk⟩
  obtain ⟨Z, hZ⟩ : ∃ Z, Z = evB d false l k o := ⟨_, rfl⟩
  have HZ : Hid (Z = evB d false l k o) := hZ
  rw [← hN, ← hZ]
  clear hl hM hsm hlen hv hk hd1 hd2 ho hT hg hN hZ H
  go_enter Tryz.func64, Tryz.ntmps64
  go_wp2
  go_loopw [11] (fun r wr => ∃ j : Nat, r = .int .i64 (j : Int) ∧ j ≤ N ∧ Hid (Z = evB d false (l.drop j) (k + ((l.take j).map (sz d false)).sum) o ∧ k + ((l.take j).map (sz d false)).sum ≤ 1024 ∧ Only (fun b => b = M) w wr ∧ ∃ dd' : Int, VmB wr M ((k + ((l.take j).map (sz d false)).sum : Nat) : Int) dd' ∧ dd' = max dd ((o + ((l.take j).map (dp d false)).foldl max 0 : Nat) : Int) ∧ dd' ≤ 1000)) (fun r _ => N - vuOf r)
  case atStart => exact ⟨0, rfl, Nat.zero_le _, by simpa using HZ.out, by simpa using HV.out.2.2.2, Only.refl _ _, dd, by simpa using HV.out.1, by have := HV.out.2.1; simp only [List.take_zero, List.map_nil, List.foldl_nil]; omega, HV.out.2.2.1⟩
  case round =>
    obtain ⟨j, rfl, hj, HI⟩ := hrel
    obtain ⟨w1, hw1⟩ : ∃ w1, w1 = wr := ⟨_, rfl⟩
    rw [← hw1] at HI ⊢
    clear hw1
    have hNl := HN.out.1
    by_cases hjN : j < N
    · obtain ⟨x, hx⟩ : ∃ x, l[j]? = some x := ⟨l[j]'(by omega), List.getElem?_eq_getElem (by omega)⟩
      obtain ⟨g, q, u, rfl, c0, hgM, hcall⟩ := HE.out j x hx
      obtain ⟨hz, hk1, o1, dd1, hv1, h1, h2⟩ := HI.out
      have c1 := o1.cell c0 hgM
      have HC : Hid _ := hcall _ _ w1 o1 hv1 hk1 (by rw [h1]; have := HV.out.2.1; omega) h2
      obtain ⟨k1, hk1e⟩ : ∃ k1, k1 = k + ((l.take j).map (sz d false)).sum := ⟨_, rfl⟩
      rw [← hk1e] at HC hz hk1
      have hdr : l.drop j = x :: l.drop (j + 1) := by
        have hlt : j < l.length := by omega
        rw [List.drop_eq_getElem_cons hlt]
        have := List.getElem?_eq_getElem hlt
        rw [hx] at this
        injection this with this
        rw [← this]
      have hst : k + ((l.take (j + 1)).map (sz d false)).sum = k1 + sz d false x := by
        rw [List.take_add_one, hx, hk1e]
        simp
        omega
      have hdx : ∀ q : Int, q = max dd1 ((o + dp d false x : Nat) : Int) → q = max dd ((o + ((l.take (j + 1)).map (dp d false)).foldl max 0 : Nat) : Int) := fun q hq => by
        rw [List.take_add_one, hx]
        simp only [Option.toList_some, List.map_append, List.map_cons, List.map_nil, List.foldl_append, List.foldl_cons, List.foldl_nil]
        rw [hq, h1]
        omega
      have HDX : Hid (∀ q : Int, q = max dd1 ((o + dp d false x : Nat) : Int) → q = max dd ((o + ((l.take (j + 1)).map (dp d false)).foldl max 0 : Nat) : Int)) := hdx
      clear hdx
      have HX : Hid (j < N ∧ Z = evB d false (x :: l.drop (j + 1)) k1 o ∧ k + ((l.take (j + 1)).map (sz d false)).sum = k1 + sz d false x ∧ Only (fun b => b = M) w w1) := ⟨hjN, by rw [← hdr]; exact hz, hst, o1⟩
      have i1 : (j : Int) < (N : Int) := by omega
      have i0 : (0 : Int) ≤ (j : Int) := by omega
      have i4 : j ≤ 1048576 := by have := HN.out.2; omega
      obtain ⟨b, hb⟩ : ∃ b, b = msB d false x k1 o := ⟨_, rfl⟩
      have HB : Hid (b = msB d false x k1 o) := hb
      rw [← hb] at HC
      clear hz hk1 o1 hv1 h1 h2 hk1e hdr hst hcall c0 hgM hx hNl hjN hj HI hb
      go_wp2_with fail
      refine (show Calls Tryz.prog 44 _ _ _ from HC.out).mono ?_
      rintro e w2 ⟨rfl, G2⟩
      clear HC c1
      cases b with
      | false =>
        have hZf : Z = false := by
          rw [HX.out.2.1]
          unfold evB
          rw [← HB.out]
          rfl
        have HF : Hid (Z = false ∧ Only (fun b => b = M) w w2) := ⟨hZf, HX.out.2.2.2.trans G2.out.1 (fun _ _ g => g)⟩
        clear G2 hZf
        go_wp2
        go_ret
        exact ⟨by rw [HF.out.1]; rfl, HF.out.2, fun h => by rw [HF.out.1] at h; cases h⟩
      | true =>
        have HF : Hid (Z = evB d false (l.drop (j + 1)) (k + ((l.take (j + 1)).map (sz d false)).sum) o ∧ k + ((l.take (j + 1)).map (sz d false)).sum ≤ 1024 ∧ Only (fun b => b = M) w w2 ∧ ∃ dd' : Int, VmB w2 M ((k + ((l.take (j + 1)).map (sz d false)).sum : Nat) : Int) dd' ∧ dd' = max dd ((o + ((l.take (j + 1)).map (dp d false)).foldl max 0 : Nat) : Int) ∧ dd' ≤ 1000) := by
          rw [HX.out.2.2.1]
          have hm := HB.out.symm
          refine ⟨?_, ?_, HX.out.2.2.2.trans G2.out.1 (fun _ _ g => g), (by obtain ⟨q, q1, q2, q3⟩ := G2.out.2 rfl; exact ⟨q, q1, HDX.out q q2, q3⟩)⟩
          · have := HX.out.2.1
            unfold evB at this
            rw [hm] at this
            simpa using this
          · unfold msB at hm
            simp only [Bool.and_eq_true, decide_eq_true_eq] at hm
            exact hm.1.2
        have HJ : Hid (j < N) := HX.out.1
        clear G2 HX HB
        go_wp2
        go_roundw
        case rel => exact ⟨j + 1, by go_num, by have := HJ.out; omega, HF⟩
        case measure => simp only [vuOf]; have := HJ.out; omega
    · obtain rfl : j = N := by omega
      have i1 : ¬ (j : Int) < (j : Int) := by omega
      have HF : Hid (Z = true ∧ Only (fun b => b = M) w w1 ∧ ∃ dd' : Int, VmB w1 M ((k + (l.map (sz d false)).sum : Nat) : Int) dd' ∧ dd' = max dd ((o + (l.map (dp d false)).foldl max 0 : Nat) : Int) ∧ dd' ≤ 1000) := by
        obtain ⟨hz, _, o1, hh⟩ := HI.out
        rw [hNl, List.take_length] at hh
        rw [hNl, List.drop_length] at hz
        exact ⟨hz, o1, hh⟩
      clear HI hNl hjN hj
      go_wp2
      go_ret
      exact ⟨by rw [HF.out.1]; rfl, HF.out.2.1, fun _ => HF.out.2.2⟩
set_option maxRecDepth 100000 in
set_option maxHeartbeats 4000000 in
theorem ev_items (d : Nat) (H : MsC d true 66) : EvC d true 65 66 := by
  intro l ao cap w S M k o dd hl hM hsm hlen hv hk hd1 hd2 ho hT hg
  have HE : Hid (∀ (j : Nat) (x : Vt), l[j]? = some x → ∃ g q u, ao = some ⟨g, q, none⟩ ∧ w.cell? ⟨g, q + j, none⟩ = some u ∧ g ≠ M ∧ ∀ (k1 : Nat) (dd1 : Int) w1, Only (fun b => b = M) w w1 → VmB w1 M k1 dd1 → k1 ≤ 1024 → (o : Int) ≤ dd1 → dd1 ≤ 1000 → Calls Tryz.prog 66 #[.pointer (some ⟨M, 0, none⟩), u, .int .i64 (o : Int)] w1 fun e w' => e = .returned (.bool (msB d true x k1 o)) ∧ Hid (Only (fun b => b = M) w1 w' ∧ (msB d true x k1 o = true → ∃ dd' : Int, VmB w' M ((k1 + sz d true x : Nat) : Int) dd' ∧ dd' = max dd1 ((o + dp d true x : Nat) : Int) ∧ dd' ≤ 1000))) := by
    intro j x hx
    obtain ⟨g, q, u, p1, p2, p3, p4⟩ := hl j x hx
    refine ⟨g, q, u, p1, p3, hM g p2, fun k1 dd1 w1 o1 hv1 hk1 h1 h2 => ?_⟩
    exact H x u w1 S M k1 o dd1 (p4.only o1 (fun b hb => hM b hb)) hM (hsm x (List.mem_of_getElem? hx)) hv1 hk1 h1 h2 ho (hT.keep o1 hg.1 hg.2.1 hg.2.2) hg
  obtain ⟨N, hN⟩ : ∃ N, N = l.length := ⟨_, rfl⟩
  have HN : Hid (N = l.length ∧ N ≤ 1048576) := ⟨hN, by omega⟩
  have HV : Hid (VmB w M k dd ∧ (o : Int) ≤ dd ∧ dd ≤ 1000 ∧ k ≤ 1024) := ⟨hv, hd1, hd2, hk⟩
  obtain ⟨Z, hZ⟩ : ∃ Z, Z = evB d true l k o := ⟨_, rfl⟩
  have HZ : Hid (Z = evB d true l k o) := hZ
  rw [← hN, ← hZ]
  clear hl hM hsm hlen hv hk hd1 hd2 ho hT hg hN hZ H
  go_enter Tryz.func65, Tryz.ntmps65
  go_wp2
  go_loopw [11] (fun r wr => ∃ j : Nat, r = .int .i64 (j : Int) ∧ j ≤ N ∧ Hid (Z = evB d true (l.drop j) (k + ((l.take j).map (sz d true)).sum) o ∧ k + ((l.take j).map (sz d true)).sum ≤ 1024 ∧ Only (fun b => b = M) w wr ∧ ∃ dd' : Int, VmB wr M ((k + ((l.take j).map (sz d true)).sum : Nat) : Int) dd' ∧ dd' = max dd ((o + ((l.take j).map (dp d true)).foldl max 0 : Nat) : Int) ∧ dd' ≤ 1000)) (fun r _ => N - vuOf r)
  case atStart => exact ⟨0, rfl, Nat.zero_le _, by simpa using HZ.out, by simpa using HV.out.2.2.2, Only.refl _ _, dd, by simpa using HV.out.1, by have := HV.out.2.1; simp only [List.take_zero, List.map_nil, List.foldl_nil]; omega, HV.out.2.2.1⟩
  case round =>
    obtain ⟨j, rfl, hj, HI⟩ := hrel
    obtain ⟨w1, hw1⟩ : ∃ w1, w1 = wr := ⟨_, rfl⟩
    rw [← hw1] at HI ⊢
    clear hw1
    have hNl := HN.out.1
    by_cases hjN : j < N
    · obtain ⟨x, hx⟩ : ∃ x, l[j]? = some x := ⟨l[j]'(by omega), List.getElem?_eq_getElem (by omega)⟩
      obtain ⟨g, q, u, rfl, c0, hgM, hcall⟩ := HE.out j x hx
      obtain ⟨hz, hk1, o1, dd1, hv1, h1, h2⟩ := HI.out
      have c1 := o1.cell c0 hgM
      have HC : Hid _ := hcall _ _ w1 o1 hv1 hk1 (by rw [h1]; have := HV.out.2.1; omega) h2
      obtain ⟨k1, hk1e⟩ : ∃ k1, k1 = k + ((l.take j).map (sz d true)).sum := ⟨_, rfl⟩
      rw [← hk1e] at HC hz hk1
      have hdr : l.drop j = x :: l.drop (j + 1) := by
        have hlt : j < l.length := by omega
        rw [List.drop_eq_getElem_cons hlt]
        have := List.getElem?_eq_getElem hlt
        rw [hx] at this
        injection this with this
        rw [← this]
      have hst : k + ((l.take (j + 1)).map (sz d true)).sum = k1 + sz d true x := by
        rw [List.take_add_one, hx, hk1e]
        simp
        omega
      have hdx : ∀ q : Int, q = max dd1 ((o + dp d true x : Nat) : Int) → q = max dd ((o + ((l.take (j + 1)).map (dp d true)).foldl max 0 : Nat) : Int) := fun q hq => by
        rw [List.take_add_one, hx]
        simp only [Option.toList_some, List.map_append, List.map_cons, List.map_nil, List.foldl_append, List.foldl_cons, List.foldl_nil]
        rw [hq, h1]
        omega
      have HDX : Hid (∀ q : Int, q = max dd1 ((o + dp d true x : Nat) : Int) → q = max dd ((o + ((l.take (j + 1)).map (dp d true)).foldl max 0 : Nat) : Int)) := hdx
      clear hdx
      have HX : Hid (j < N ∧ Z = evB d true (x :: l.drop (j + 1)) k1 o ∧ k + ((l.take (j + 1)).map (sz d true)).sum = k1 + sz d true x ∧ Only (fun b => b = M) w w1) := ⟨hjN, by rw [← hdr]; exact hz, hst, o1⟩
      have i1 : (j : Int) < (N : Int) := by omega
      have i0 : (0 : Int) ≤ (j : Int) := by omega
      have i4 : j ≤ 1048576 := by have := HN.out.2; omega
      obtain ⟨b, hb⟩ : ∃ b, b = msB d true x k1 o := ⟨_, rfl⟩
      have HB : Hid (b = msB d true x k1 o) := hb
      rw [← hb] at HC
      clear hz hk1 o1 hv1 h1 h2 hk1e hdr hst hcall c0 hgM hx hNl hjN hj HI hb
      go_wp2_with fail
      refine (show Calls Tryz.prog 66 _ _ _ from HC.out).mono ?_
      rintro e w2 ⟨rfl, G2⟩
      clear HC c1
      cases b with
      | false =>
        have hZf : Z = false := by
          rw [HX.out.2.1]
          unfold evB
          rw [← HB.out]
          rfl
        have HF : Hid (Z = false ∧ Only (fun b => b = M) w w2) := ⟨hZf, HX.out.2.2.2.trans G2.out.1 (fun _ _ g => g)⟩
        clear G2 hZf
        go_wp2
        go_ret
        exact ⟨by rw [HF.out.1]; rfl, HF.out.2, fun h => by rw [HF.out.1] at h; cases h⟩
      | true =>
        have HF : Hid (Z = evB d true (l.drop (j + 1)) (k + ((l.take (j + 1)).map (sz d true)).sum) o ∧ k + ((l.take (j + 1)).map (sz d true)).sum ≤ 1024 ∧ Only (fun b => b = M) w w2 ∧ ∃ dd' : Int, VmB w2 M ((k + ((l.take (j + 1)).map (sz d true)).sum : Nat) : Int) dd' ∧ dd' = max dd ((o + ((l.take (j + 1)).map (dp d true)).foldl max 0 : Nat) : Int) ∧ dd' ≤ 1000) := by
          rw [HX.out.2.2.1]
          have hm := HB.out.symm
          refine ⟨?_, ?_, HX.out.2.2.2.trans G2.out.1 (fun _ _ g => g), (by obtain ⟨q, q1, q2, q3⟩ := G2.out.2 rfl; exact ⟨q, q1, HDX.out q q2, q3⟩)⟩
          · have := HX.out.2.1
            unfold evB at this
            rw [hm] at this
            simpa using this
          · unfold msB at hm
            simp only [Bool.and_eq_true, decide_eq_true_eq] at hm
            exact hm.1.2
        have HJ : Hid (j < N) := HX.out.1
        clear G2 HX HB
        go_wp2
        go_roundw
        case rel => exact ⟨j + 1, by go_num, by have := HJ.out; omega, HF⟩
        case measure => simp only [vuOf]; have := HJ.out; omega
    · obtain rfl : j = N := by omega
      have i1 : ¬ (j : Int) < (j : Int) := by omega
      have HF : Hid (Z = true ∧ Only (fun b => b = M) w w1 ∧ ∃ dd' : Int, VmB w1 M ((k + (l.map (sz d true)).sum : Nat) : Int) dd' ∧ dd' = max dd ((o + (l.map (dp d true)).foldl max 0 : Nat) : Int) ∧ dd' ≤ 1000) := by
        obtain ⟨hz, _, o1, hh⟩ := HI.out
        rw [hNl, List.take_length] at hh
        rw [hNl, List.drop_length] at hz
        exact ⟨hz, o1, hh⟩
      clear HI hNl hjN hj
      go_wp2
      go_ret
      exact ⟨by rw [HF.out.1]; rfl, HF.out.2.1, fun _ => HF.out.2.2⟩
end Go.Proofs.YtllpacppedobjaaGreatDoor
namespace Go.Proofs.YtllpacppedobjaaGreatDoor
open Go.RowKit Go.Lib
set_option linter.unusedSimpArgs false
set_option linter.unusedVariables false
theorem VmB.keep {w w' : World} {M : Nat} {k d : Int} (h : VmB w M k d) (o : Only (fun _ => False) w w') : VmB w' M k d := (o.block M (Array.getElem?_eq_some_iff.1 h).1 (fun g => g)).trans h
/-- what holds no others is no list and no quotation -/
def LqM (v : Value) : Prop := (∀ W : World, (Instr.typeAssert v 27 71 true).run Tryz.prog W = .ok (.tuple #[.agg #[.slice none 0 0], .bool false]) W) ∧ (∀ W : World, (Instr.typeAssert v 27 73 true).run Tryz.prog W = .ok (.tuple #[.agg #[.slice none 0 0], .bool false]) W)
theorem leaf_lq {S : Nat → Prop} {d : Nat} {t : Vt} {v : Value} {w : World} (h : TiAt w S (d + 1) false t v) (hk : ¬ (t.k = 4 ∨ t.k = 5)) : LqM v ∧ t.l = [] := by
  have m1 : ∀ T x, T ≠ 71 → T ≠ 73 → LqM (.iface T x) := fun T x h1 h2 => ⟨va_miss T 71 27 _ Tryz.underlying71 (by intro m h; cases h) h1 _ zL x, va_miss T 73 27 _ Tryz.underlying73 (by intro m h; cases h) h2 _ zQ x⟩
  rcases h with ⟨_, e, rfl⟩ | ⟨_, e, rfl⟩ | ⟨_, e, rfl⟩ | ⟨_, e, rfl⟩ | ⟨_, e, rfl⟩ | ⟨e, _⟩
  · exact ⟨m1 _ _ (by decide) (by decide), e⟩
  · exact ⟨m1 _ _ (by decide) (by decide), e⟩
  · exact ⟨m1 _ _ (by decide) (by decide), e⟩
  · exact ⟨m1 _ _ (by decide) (by decide), e⟩
  · exact ⟨⟨bad_nil.l, bad_nil.q⟩, e⟩
  · exact absurd e hk
theorem SmT.str {e : Nat} {t : Vt} (h : SmT e t) : t.s.size ≤ 268435456 := by
  cases e with
  | zero => exact h.elim
  | succ e => exact h.1
theorem SmT.len {e : Nat} {t : Vt} (h : SmT e t) : t.l.length ≤ 1048576 := by
  cases e with
  | zero => exact h.elim
  | succ e => exact h.2.1
theorem SmT.parts {e : Nat} {t : Vt} (h : SmT e t) : ∀ x ∈ t.l, ∃ e, SmT e x := by
  cases e with
  | zero => exact h.elim
  | succ e => exact fun x hx => ⟨e, h.2.2.2.2 x hx⟩
set_option maxRecDepth 100000 in
set_option maxHeartbeats 4000000 in
theorem mleaf (d : Nat) (t : Vt) (v : Value) (w : World) (S : Nat → Prop) (M k o : Nat) (dd : Int) (h : TiAt w S (d + 1) false t v) (hk4 : ¬ (t.k = 4 ∨ t.k = 5)) (hs : t.s.size ≤ 268435456) (hv : VmB w M k dd) (hk : k ≤ 1024) (hd1 : (o : Int) ≤ dd) (hd2 : dd ≤ 1000) (ho : o ≤ 32) (hT : Tb w) (hg : Mg M) :
    Calls Tryz.prog 44 #[.pointer (some ⟨M, 0, none⟩), v, .int .i64 (o : Int)] w fun e w' => e = .returned (.bool (msB (d + 1) false t k o)) ∧ Hid (Only (fun b => b = M) w w' ∧ (msB (d + 1) false t k o = true → ∃ dd' : Int, VmB w' M ((k + sz (d + 1) false t : Nat) : Int) dd' ∧ dd' = max dd ((o + dp (d + 1) false t : Nat) : Int) ∧ dd' ≤ 1000)) := by
  obtain ⟨⟨hl, hq⟩, hnil⟩ := leaf_lq h hk4
  have hsz : sz (d + 1) false t = 1 := by unfold sz; rw [hnil]; rfl
  have hdp : dp (d + 1) false t = 0 := by unfold dp; rw [if_neg hk4]
  have hok : okV (d + 1) false t = alB t := by unfold okV; rw [if_neg hk4]
  have hms : msB (d + 1) false t k o = (alB t && decide (k + 1 ≤ 1024)) := by
    unfold msB
    rw [hok, hsz, hdp, decide_eq_true (show o + 0 ≤ 32 by omega), Bool.and_true]
  have HM : Hid _ := vcount_all M k dd w hv (by omega) (by omega)
  have HA : Hid (∀ w1, Only (fun b => b = M) w w1 → Calls Tryz.prog 67 #[v] w1 fun e w' => e = .returned (.bool (alB t)) ∧ Only (fun _ => False) w1 w') := fun w1 o1 => alone_any h hk4 hs w1 (hT.keep o1 hg.1 hg.2.1 hg.2.2)
  have HD : Hid (dd = max dd ((o + 0 : Nat) : Int) ∧ dd ≤ 1000) := ⟨by omega, hd2⟩
  rw [hms, hsz, hdp]
  obtain ⟨a, ha⟩ : ∃ a, a = alB t := ⟨_, rfl⟩
  rw [← ha] at HA ⊢
  clear h hk4 hs hv hd1 hd2 ho hT hg hsz hdp hok hms hnil ha
  by_cases h1 : k + 1 ≤ 1024
  · have e1 : decide ((k : Int) + 1 ≤ 1024) = true := decide_eq_true (by omega)
    rw [e1] at HM
    rw [decide_eq_true h1]
    clear e1
    go_enter Tryz.func44, Tryz.ntmps44
    go_wp2_with fail
    refine (show Calls Tryz.prog 62 _ _ _ from HM.out).mono ?_
    rintro e w1 ⟨rfl, o1, m1⟩
    have O1 : Hid (Only (fun b => b = M) w w1 ∧ VmB w1 M ((k : Int) + 1) dd) := ⟨o1, m1⟩
    clear HM o1 m1
    go_wp2_with fail
    refine (show Calls Tryz.prog 67 _ _ _ from HA.out _ (by repeat' first | exact O1.out.1 | apply Only.alloc)).mono ?_
    rintro e w2 ⟨rfl, o2⟩
    have o3 : Only (fun _ => False) w1 w2 := Only.trans (show Only (fun _ => False) w1 _ by repeat' first | exact (Only.refl _ _) | apply Only.alloc) o2 (fun _ _ g => g)
    have HF : Hid (Only (fun b => b = M) w w2 ∧ VmB w2 M ((k + 1 : Nat) : Int) dd) := ⟨O1.out.1.trans (o3.mono (bs' := fun b => b = M) (fun _ _ g => g.elim)) (fun _ _ g => g), by have := O1.out.2.keep o3; simpa using this⟩
    clear HA o2 o3 O1
    go_wp2
    go_ret
    exact ⟨by simp, HF.out.1, fun _ => ⟨dd, HF.out.2, HD.out.1, HD.out.2⟩⟩
  · have e1 : decide ((k : Int) + 1 ≤ 1024) = false := decide_eq_false (by omega)
    rw [e1] at HM
    rw [decide_eq_false h1]
    clear e1 HA
    go_enter Tryz.func44, Tryz.ntmps44
    go_wp2_with fail
    refine (show Calls Tryz.prog 62 _ _ _ from HM.out).mono ?_
    rintro e w1 ⟨rfl, o1, m1⟩
    have O1 : Hid (Only (fun b => b = M) w w1) := o1
    clear HM o1 m1
    go_wp2
    go_ret
    exact ⟨by simp, O1.out, fun h => by simp at h⟩
end Go.Proofs.YtllpacppedobjaaGreatDoor
namespace Go.Proofs.YtllpacppedobjaaGreatDoor
open Go.RowKit Go.Lib
set_option linter.unusedSimpArgs false
set_option linter.unusedVariables false
theorem ms_list (d : Nat) (t : Vt) (k o : Nat) (hk : t.k = 4 ∨ t.k = 5) : msB (d + 1) false t k o = (decide (k + 1 ≤ 1024) && decide (o + 1 ≤ 32) && evB d (decide (t.k = 5)) t.l (k + 1) (o + 1)) := by
  have h1 : okV (d + 1) false t = t.l.all (okV d (decide (t.k = 5))) := by unfold okV; rw [if_pos hk]
  have h2 : sz (d + 1) false t = 1 + (t.l.map (sz d (decide (t.k = 5)))).sum := by unfold sz; rfl
  have h3 : dp (d + 1) false t = 1 + ((t.l.map (dp d (decide (t.k = 5)))).foldl max 0) := by unfold dp; rw [if_pos hk]
  unfold msB
  rw [h1, h2, h3]
  by_cases a1 : k + 1 ≤ 1024
  · by_cases a2 : o + 1 ≤ 32
    · rw [evB_eq _ _ _ _ _ a1 a2, decide_eq_true a1, decide_eq_true a2]
      rw [show k + (1 + (t.l.map (sz d (decide (t.k = 5)))).sum) = k + 1 + (t.l.map (sz d (decide (t.k = 5)))).sum by omega, show o + (1 + (t.l.map (dp d (decide (t.k = 5)))).foldl max 0) = o + 1 + (t.l.map (dp d (decide (t.k = 5)))).foldl max 0 by omega]
      simp
    · rw [decide_eq_false a2, decide_eq_false (show ¬ o + (1 + (t.l.map (dp d (decide (t.k = 5)))).foldl max 0) ≤ 32 by omega)]
      simp
  · rw [decide_eq_false a1, decide_eq_false (show ¬ k + (1 + (t.l.map (sz d (decide (t.k = 5)))).sum) ≤ 1024 by omega)]
    simp
set_option maxRecDepth 100000 in
set_option maxHeartbeats 4000000 in
theorem mlist (d : Nat) (H : EvC d false 64 44) (t : Vt) (v : Value) (w : World) (S : Nat → Prop) (M k o : Nat) (dd : Int) (h : TiAt w S (d + 1) false t v) (hk4 : t.k = 4) (hM : ∀ b, S b → b ≠ M) (hsm : ∃ e, SmT e t) (hv : VmB w M k dd) (hk : k ≤ 1024) (hd1 : (o : Int) ≤ dd) (hd2 : dd ≤ 1000) (ho : o ≤ 32) (hT : Tb w) (hg : Mg M) :
    Calls Tryz.prog 44 #[.pointer (some ⟨M, 0, none⟩), v, .int .i64 (o : Int)] w fun e w' => e = .returned (.bool (msB (d + 1) false t k o)) ∧ Hid (Only (fun b => b = M) w w' ∧ (msB (d + 1) false t k o = true → ∃ dd' : Int, VmB w' M ((k + sz (d + 1) false t : Nat) : Int) dd' ∧ dd' = max dd ((o + dp (d + 1) false t : Nat) : Int) ∧ dd' ≤ 1000)) := by
  have hk45 : t.k = 4 ∨ t.k = 5 := by omega
  obtain ⟨ao, cap, rfl, hcap, hel⟩ : ∃ ao cap, v = .iface 71 (.agg #[.slice ao t.l.length cap]) ∧ t.l.length ≤ cap ∧ ∀ i x, t.l[i]? = some x → ∃ g k u, ao = some ⟨g, k, none⟩ ∧ S g ∧ w.cell? ⟨g, k + i, none⟩ = some u ∧ TiAt w S d false x u := by
    rcases h with ⟨e, _⟩ | ⟨e, _⟩ | ⟨e, _⟩ | ⟨e, _⟩ | ⟨e, _⟩ | ⟨_, ao, cap, h1, h2, h3⟩
    · omega
    · omega
    · omega
    · omega
    · omega
    · rw [hk4] at h1 h3
      exact ⟨ao, cap, h1, h2, h3⟩
  have hms := ms_list d t k o hk45
  rw [show decide (t.k = 5) = false by rw [hk4]; rfl] at hms
  have hdp : dp (d + 1) false t = 1 + (t.l.map (dp d false)).foldl max 0 := by unfold dp; rw [if_pos hk45, show decide (t.k = 5) = false by rw [hk4]; rfl]
  have hsz : sz (d + 1) false t = 1 + (t.l.map (sz d false)).sum := by unfold sz; rw [show decide (t.k = 5) = false by rw [hk4]; rfl]
  have HM : Hid _ := vcount_all M k dd w hv (by omega) (by omega)
  have HN : Hid (∀ w1 (k1 : Int), VmB w1 M k1 dd → Calls Tryz.prog 63 #[.pointer (some ⟨M, 0, none⟩), .int .i64 ((o : Int) + 1)] w1 fun e w' => e = .returned (.bool (decide ((o : Int) + 1 ≤ 32))) ∧ Only (fun b => b = M) w1 w' ∧ ∃ d', VmB w' M k1 d' ∧ d' = max dd ((o : Int) + 1) ∧ d' ≤ 1000) := fun w1 k1 hv1 => venter_all M k1 dd ((o : Int) + 1) w1 hv1 (by omega) hd2 (by omega) (by omega)
  have HC : Hid (∀ w1 (dd1 : Int), Only (fun b => b = M) w w1 → VmB w1 M ((k + 1 : Nat) : Int) dd1 → k + 1 ≤ 1024 → o + 1 ≤ 32 → ((o + 1 : Nat) : Int) ≤ dd1 → dd1 ≤ 1000 → Calls Tryz.prog 64 #[.slice ao t.l.length cap, .func (.func 44) #[.pointer (some ⟨M, 0, none⟩)] #[], .int .i64 ((o + 1 : Nat) : Int)] w1 fun e w' => e = .returned (.bool (evB d false t.l (k + 1) (o + 1))) ∧ Hid (Only (fun b => b = M) w1 w' ∧ (evB d false t.l (k + 1) (o + 1) = true → ∃ dd' : Int, VmB w' M ((k + 1 + (t.l.map (sz d false)).sum : Nat) : Int) dd' ∧ dd' = max dd1 ((o + 1 + (t.l.map (dp d false)).foldl max 0 : Nat) : Int) ∧ dd' ≤ 1000))) := by
    intro w1 dd1 o1 hv1 hk1 ho1 h1 h2
    refine H t.l ao cap w1 S M (k + 1) (o + 1) dd1 (fun j x hx => ?_) hM (by obtain ⟨e, he⟩ := hsm; exact he.parts) (by obtain ⟨e, he⟩ := hsm; exact he.len) hv1 hk1 h1 h2 ho1 (hT.keep o1 hg.1 hg.2.1 hg.2.2) hg
    obtain ⟨g, q, u, p1, p2, p3, p4⟩ := hel j x hx
    exact ⟨g, q, u, p1, p2, o1.cell p3 (hM g p2), p4.only o1 (fun b hb => hM b hb)⟩
  have HL : Hid (M < w.heap.size) := (Array.getElem?_eq_some_iff.1 hv).1
  have hHit := va_hit 71 27 _ Tryz.underlying71 (by intro m h; cases h)
  rw [hms, hsz, hdp]
  obtain ⟨L, hL⟩ : ∃ L, L = t.l.length := ⟨_, rfl⟩
  obtain ⟨Y, hY⟩ : ∃ Y, Y = (t.l.map (sz d false)).sum := ⟨_, rfl⟩
  obtain ⟨F, hF⟩ : ∃ F, F = (t.l.map (dp d false)).foldl max 0 := ⟨_, rfl⟩
  obtain ⟨Z, hZ⟩ : ∃ Z, Z = evB d false t.l (k + 1) (o + 1) := ⟨_, rfl⟩
  rw [← hL, ← hY, ← hZ, ← hF] at HC
  rw [← hL, ← hY, ← hZ, ← hF]
  clear hL hY hZ hF hdp h hk4 hM hsm hv hd1 hd2 hT hg hel hcap hms hsz H hk45
  by_cases h1 : k + 1 ≤ 1024
  · have e1 : decide ((k : Int) + 1 ≤ 1024) = true := decide_eq_true (by omega)
    rw [e1] at HM
    rw [decide_eq_true h1]
    clear e1
    by_cases h2 : o + 1 ≤ 32
    · have e2 : decide ((o : Int) + 1 ≤ 32) = true := decide_eq_true (by omega)
      rw [e2] at HN
      rw [decide_eq_true h2]
      have HB : Hid (k + 1 ≤ 1024 ∧ o + 1 ≤ 32) := ⟨h1, h2⟩
      clear e2 h1
      go_enter Tryz.func44, Tryz.ntmps44
      go_wp2_with fail
      refine (show Calls Tryz.prog 62 _ _ _ from HM.out).mono ?_
      rintro e w1 ⟨rfl, o1, m1⟩
      have O1 : Hid (Only (fun b => b = M) w w1 ∧ VmB w1 M ((k : Int) + 1) dd) := ⟨o1, m1⟩
      clear HM o1 m1
      go_wp2_with fail
      refine (show Calls Tryz.prog 63 _ _ _ from HN.out _ _ (O1.out.2.keep (by repeat' first | exact (Only.refl _ _) | apply Only.alloc))).mono ?_
      rintro e w2 ⟨rfl, o2, d2, m2, p2, q2⟩
      have O2 : Hid (Only (fun b => b = M) w w2 ∧ VmB w2 M ((k + 1 : Nat) : Int) d2 ∧ d2 = max dd ((o : Int) + 1) ∧ d2 ≤ 1000) := ⟨O1.out.1.trans (Only.trans (show Only (fun b => b = M) w1 _ by repeat' first | exact (Only.refl _ _) | apply Only.alloc) o2 (fun _ _ g => g)) (fun _ _ g => g), by simpa using m2, p2, q2⟩
      have hs1 := O1.out.1.size
      have x0 : w2.cell? ⟨w1.heap.size, 0, none⟩ = some (.slice ao L cap) := o2.cell (a := ⟨w1.heap.size, 0, none⟩) (by simp [go_sem]) (by have := HL.out; simp only; omega)
      have HC2 : Hid _ := HC.out w2 d2 O2.out.1 O2.out.2.1 HB.out.1 HB.out.2 (by rw [p2]; omega) q2
      clear HN HC o2 m2 p2 q2 O1 hs1
      go_wp2_with fail
      refine (show Calls Tryz.prog 64 _ _ _ from HC2.out).mono ?_
      rintro e w3 ⟨rfl, G3⟩
      have HF : Hid (Only (fun b => b = M) w w3 ∧ (Z = true → ∃ dd' : Int, VmB w3 M ((k + (1 + Y) : Nat) : Int) dd' ∧ dd' = max dd ((o + (1 + F) : Nat) : Int) ∧ dd' ≤ 1000)) := ⟨O2.out.1.trans G3.out.1 (fun _ _ g => g), fun hz => by
        obtain ⟨q, q1, q2, q3⟩ := G3.out.2 hz
        refine ⟨q, by rwa [show k + (1 + Y) = k + 1 + Y by omega], ?_, q3⟩
        rw [q2, O2.out.2.2.1]
        omega⟩
      clear HC2 G3 O2 x0
      go_wp2
      go_ret
      exact ⟨by simp, HF.out.1, fun h => HF.out.2 (by simpa using h)⟩
    · have e2 : decide ((o : Int) + 1 ≤ 32) = false := decide_eq_false (by omega)
      rw [e2] at HN
      rw [decide_eq_false h2]
      clear e2 h1 HC
      go_enter Tryz.func44, Tryz.ntmps44
      go_wp2_with fail
      refine (show Calls Tryz.prog 62 _ _ _ from HM.out).mono ?_
      rintro e w1 ⟨rfl, o1, m1⟩
      have O1 : Hid (Only (fun b => b = M) w w1 ∧ VmB w1 M ((k : Int) + 1) dd) := ⟨o1, m1⟩
      clear HM o1 m1
      go_wp2_with fail
      refine (show Calls Tryz.prog 63 _ _ _ from HN.out _ _ (O1.out.2.keep (by repeat' first | exact (Only.refl _ _) | apply Only.alloc))).mono ?_
      rintro e w2 ⟨rfl, o2, d2, m2, p2, q2⟩
      have O2 : Hid (Only (fun b => b = M) w w2) := O1.out.1.trans (Only.trans (show Only (fun b => b = M) w1 _ by repeat' first | exact (Only.refl _ _) | apply Only.alloc) o2 (fun _ _ g => g)) (fun _ _ g => g)
      clear HN o2 m2 p2 q2 O1
      go_wp2
      go_ret
      exact ⟨by simp, O2.out, fun h => by simp at h⟩
  · have e1 : decide ((k : Int) + 1 ≤ 1024) = false := decide_eq_false (by omega)
    rw [e1] at HM
    rw [decide_eq_false h1]
    clear e1 HC HN
    go_enter Tryz.func44, Tryz.ntmps44
    go_wp2_with fail
    refine (show Calls Tryz.prog 62 _ _ _ from HM.out).mono ?_
    rintro e w1 ⟨rfl, o1, m1⟩
    have O1 : Hid (Only (fun b => b = M) w w1) := o1
    clear HM o1 m1
    go_wp2
    go_ret
    exact ⟨by simp, O1.out, fun h => by simp at h⟩
set_option maxRecDepth 100000 in
set_option maxHeartbeats 4000000 in
theorem mquot (d : Nat) (H : EvC d true 65 66) (t : Vt) (v : Value) (w : World) (S : Nat → Prop) (M k o : Nat) (dd : Int) (h : TiAt w S (d + 1) false t v) (hk4 : t.k = 5) (hM : ∀ b, S b → b ≠ M) (hsm : ∃ e, SmT e t) (hv : VmB w M k dd) (hk : k ≤ 1024) (hd1 : (o : Int) ≤ dd) (hd2 : dd ≤ 1000) (ho : o ≤ 32) (hT : Tb w) (hg : Mg M) :
    Calls Tryz.prog 44 #[.pointer (some ⟨M, 0, none⟩), v, .int .i64 (o : Int)] w fun e w' => e = .returned (.bool (msB (d + 1) false t k o)) ∧ Hid (Only (fun b => b = M) w w' ∧ (msB (d + 1) false t k o = true → ∃ dd' : Int, VmB w' M ((k + sz (d + 1) false t : Nat) : Int) dd' ∧ dd' = max dd ((o + dp (d + 1) false t : Nat) : Int) ∧ dd' ≤ 1000)) := by
  have hk45 : t.k = 4 ∨ t.k = 5 := by omega
  obtain ⟨ao, cap, rfl, hcap, hel⟩ : ∃ ao cap, v = .iface 73 (.agg #[.slice ao t.l.length cap]) ∧ t.l.length ≤ cap ∧ ∀ i x, t.l[i]? = some x → ∃ g k u, ao = some ⟨g, k, none⟩ ∧ S g ∧ w.cell? ⟨g, k + i, none⟩ = some u ∧ TiAt w S d true x u := by
    rcases h with ⟨e, _⟩ | ⟨e, _⟩ | ⟨e, _⟩ | ⟨e, _⟩ | ⟨e, _⟩ | ⟨_, ao, cap, h1, h2, h3⟩
    · omega
    · omega
    · omega
    · omega
    · omega
    · rw [hk4] at h1 h3
      exact ⟨ao, cap, h1, h2, h3⟩
  have hms := ms_list d t k o hk45
  rw [show decide (t.k = 5) = true by rw [hk4]; rfl] at hms
  have hdp : dp (d + 1) false t = 1 + (t.l.map (dp d true)).foldl max 0 := by unfold dp; rw [if_pos hk45, show decide (t.k = 5) = true by rw [hk4]; rfl]
  have hsz : sz (d + 1) false t = 1 + (t.l.map (sz d true)).sum := by unfold sz; rw [show decide (t.k = 5) = true by rw [hk4]; rfl]
  have HM : Hid _ := vcount_all M k dd w hv (by omega) (by omega)
  have HN : Hid (∀ w1 (k1 : Int), VmB w1 M k1 dd → Calls Tryz.prog 63 #[.pointer (some ⟨M, 0, none⟩), .int .i64 ((o : Int) + 1)] w1 fun e w' => e = .returned (.bool (decide ((o : Int) + 1 ≤ 32))) ∧ Only (fun b => b = M) w1 w' ∧ ∃ d', VmB w' M k1 d' ∧ d' = max dd ((o : Int) + 1) ∧ d' ≤ 1000) := fun w1 k1 hv1 => venter_all M k1 dd ((o : Int) + 1) w1 hv1 (by omega) hd2 (by omega) (by omega)
  have HC : Hid (∀ w1 (dd1 : Int), Only (fun b => b = M) w w1 → VmB w1 M ((k + 1 : Nat) : Int) dd1 → k + 1 ≤ 1024 → o + 1 ≤ 32 → ((o + 1 : Nat) : Int) ≤ dd1 → dd1 ≤ 1000 → Calls Tryz.prog 65 #[.slice ao t.l.length cap, .func (.func 66) #[.pointer (some ⟨M, 0, none⟩)] #[], .int .i64 ((o + 1 : Nat) : Int)] w1 fun e w' => e = .returned (.bool (evB d true t.l (k + 1) (o + 1))) ∧ Hid (Only (fun b => b = M) w1 w' ∧ (evB d true t.l (k + 1) (o + 1) = true → ∃ dd' : Int, VmB w' M ((k + 1 + (t.l.map (sz d true)).sum : Nat) : Int) dd' ∧ dd' = max dd1 ((o + 1 + (t.l.map (dp d true)).foldl max 0 : Nat) : Int) ∧ dd' ≤ 1000))) := by
    intro w1 dd1 o1 hv1 hk1 ho1 h1 h2
    refine H t.l ao cap w1 S M (k + 1) (o + 1) dd1 (fun j x hx => ?_) hM (by obtain ⟨e, he⟩ := hsm; exact he.parts) (by obtain ⟨e, he⟩ := hsm; exact he.len) hv1 hk1 h1 h2 ho1 (hT.keep o1 hg.1 hg.2.1 hg.2.2) hg
    obtain ⟨g, q, u, p1, p2, p3, p4⟩ := hel j x hx
    exact ⟨g, q, u, p1, p2, o1.cell p3 (hM g p2), p4.only o1 (fun b hb => hM b hb)⟩
  have HL : Hid (M < w.heap.size) := (Array.getElem?_eq_some_iff.1 hv).1
  have hMiss := va_miss 73 71 27 _ Tryz.underlying71 (by intro m h; cases h) (by decide) _ zL
  have hHit := va_hit 73 27 _ Tryz.underlying73 (by intro m h; cases h)
  rw [hms, hsz, hdp]
  obtain ⟨L, hL⟩ : ∃ L, L = t.l.length := ⟨_, rfl⟩
  obtain ⟨Y, hY⟩ : ∃ Y, Y = (t.l.map (sz d true)).sum := ⟨_, rfl⟩
  obtain ⟨F, hF⟩ : ∃ F, F = (t.l.map (dp d true)).foldl max 0 := ⟨_, rfl⟩
  obtain ⟨Z, hZ⟩ : ∃ Z, Z = evB d true t.l (k + 1) (o + 1) := ⟨_, rfl⟩
  rw [← hL, ← hY, ← hZ, ← hF] at HC
  rw [← hL, ← hY, ← hZ, ← hF]
  clear hL hY hZ hF hdp h hk4 hM hsm hv hd1 hd2 hT hg hel hcap hms hsz H hk45
  by_cases h1 : k + 1 ≤ 1024
  · have e1 : decide ((k : Int) + 1 ≤ 1024) = true := decide_eq_true (by omega)
    rw [e1] at HM
    rw [decide_eq_true h1]
    clear e1
    by_cases h2 : o + 1 ≤ 32
    · have e2 : decide ((o : Int) + 1 ≤ 32) = true := decide_eq_true (by omega)
      rw [e2] at HN
      rw [decide_eq_true h2]
      have HB : Hid (k + 1 ≤ 1024 ∧ o + 1 ≤ 32) := ⟨h1, h2⟩
      clear e2 h1
      go_enter Tryz.func44, Tryz.ntmps44
      go_wp2_with fail
      refine (show Calls Tryz.prog 62 _ _ _ from HM.out).mono ?_
      rintro e w1 ⟨rfl, o1, m1⟩
      have O1 : Hid (Only (fun b => b = M) w w1 ∧ VmB w1 M ((k : Int) + 1) dd) := ⟨o1, m1⟩
      clear HM o1 m1
      go_wp2_with fail
      refine (show Calls Tryz.prog 63 _ _ _ from HN.out _ _ (O1.out.2.keep (by repeat' first | exact (Only.refl _ _) | apply Only.alloc))).mono ?_
      rintro e w2 ⟨rfl, o2, d2, m2, p2, q2⟩
      have O2 : Hid (Only (fun b => b = M) w w2 ∧ VmB w2 M ((k + 1 : Nat) : Int) d2 ∧ d2 = max dd ((o : Int) + 1) ∧ d2 ≤ 1000) := ⟨O1.out.1.trans (Only.trans (show Only (fun b => b = M) w1 _ by repeat' first | exact (Only.refl _ _) | apply Only.alloc) o2 (fun _ _ g => g)) (fun _ _ g => g), by simpa using m2, p2, q2⟩
      have hs1 := O1.out.1.size
      have x0 : w2.cell? ⟨w1.heap.size + 1, 0, none⟩ = some (.slice ao L cap) := o2.cell (a := ⟨w1.heap.size + 1, 0, none⟩) (by simp [go_sem]) (by have := HL.out; simp only; omega)
      have HC2 : Hid _ := HC.out w2 d2 O2.out.1 O2.out.2.1 HB.out.1 HB.out.2 (by rw [p2]; omega) q2
      clear HN HC o2 m2 p2 q2 O1 hs1
      go_wp2_with fail
      refine (show Calls Tryz.prog 65 _ _ _ from HC2.out).mono ?_
      rintro e w3 ⟨rfl, G3⟩
      have HF : Hid (Only (fun b => b = M) w w3 ∧ (Z = true → ∃ dd' : Int, VmB w3 M ((k + (1 + Y) : Nat) : Int) dd' ∧ dd' = max dd ((o + (1 + F) : Nat) : Int) ∧ dd' ≤ 1000)) := ⟨O2.out.1.trans G3.out.1 (fun _ _ g => g), fun hz => by
        obtain ⟨q, q1, q2, q3⟩ := G3.out.2 hz
        refine ⟨q, by rwa [show k + (1 + Y) = k + 1 + Y by omega], ?_, q3⟩
        rw [q2, O2.out.2.2.1]
        omega⟩
      clear HC2 G3 O2 x0
      go_wp2
      go_ret
      exact ⟨by simp, HF.out.1, fun h => HF.out.2 (by simpa using h)⟩
    · have e2 : decide ((o : Int) + 1 ≤ 32) = false := decide_eq_false (by omega)
      rw [e2] at HN
      rw [decide_eq_false h2]
      clear e2 h1 HC
      go_enter Tryz.func44, Tryz.ntmps44
      go_wp2_with fail
      refine (show Calls Tryz.prog 62 _ _ _ from HM.out).mono ?_
      rintro e w1 ⟨rfl, o1, m1⟩
      have O1 : Hid (Only (fun b => b = M) w w1 ∧ VmB w1 M ((k : Int) + 1) dd) := ⟨o1, m1⟩
      clear HM o1 m1
      go_wp2_with fail
      refine (show Calls Tryz.prog 63 _ _ _ from HN.out _ _ (O1.out.2.keep (by repeat' first | exact (Only.refl _ _) | apply Only.alloc))).mono ?_
      rintro e w2 ⟨rfl, o2, d2, m2, p2, q2⟩
      have O2 : Hid (Only (fun b => b = M) w w2) := O1.out.1.trans (Only.trans (show Only (fun b => b = M) w1 _ by repeat' first | exact (Only.refl _ _) | apply Only.alloc) o2 (fun _ _ g => g)) (fun _ _ g => g)
      clear HN o2 m2 p2 q2 O1
      go_wp2
      go_ret
      exact ⟨by simp, O2.out, fun h => by simp at h⟩
  · have e1 : decide ((k : Int) + 1 ≤ 1024) = false := decide_eq_false (by omega)
    rw [e1] at HM
    rw [decide_eq_false h1]
    clear e1 HC HN
    go_enter Tryz.func44, Tryz.ntmps44
    go_wp2_with fail
    refine (show Calls Tryz.prog 62 _ _ _ from HM.out).mono ?_
    rintro e w1 ⟨rfl, o1, m1⟩
    have O1 : Hid (Only (fun b => b = M) w w1) := o1
    clear HM o1 m1
    go_wp2
    go_ret
    exact ⟨by simp, O1.out, fun h => by simp at h⟩
end Go.Proofs.YtllpacppedobjaaGreatDoor
namespace Go.Proofs.YtllpacppedobjaaGreatDoor
open Go.RowKit Go.Lib
set_option linter.unusedSimpArgs false
set_option linter.unusedVariables false
abbrev i1v : Value := .iface 63 (.agg #[.int .i64 1])
set_option maxRecDepth 100000 in
theorem vevery_bad (v : Value) (hv : BadV v) (M g : Nat) (k d : Int) (w : World) (h : VmB w M k d) (h1 : 0 ≤ k) (h2 : k < 900) (hgM : g ≠ M) (hg0 : w.cell? ⟨g, 0, none⟩ = some i1v) (hg1 : w.cell? ⟨g, 1, none⟩ = some v) : Calls Tryz.prog 64 #[.slice (some ⟨g, 0, none⟩) 2 2, .func (.func 44) #[.pointer (some ⟨M, 0, none⟩)] #[], .int .i64 1] w fun e w' => e = .returned (.bool false) ∧ Only (fun b => b = M) w w' := by
  have HI : Hid (∀ w1 k d, VmB w1 M k d → 0 ≤ k → k < 1000 → Calls Tryz.prog 44 #[.pointer (some ⟨M, 0, none⟩), i1v, .int .i64 1] w1 fun e w' => e = .returned (.bool true) ∧ Only (fun b => b = M) w1 w' ∧ VmB w' M (k + 1) d) := fun w1 k d => vval_int 1 (by omega) (by omega) M k d 1 w1
  have HV : Hid (∀ w1 k d, VmB w1 M k d → 0 ≤ k → k < 1000 → Calls Tryz.prog 44 #[.pointer (some ⟨M, 0, none⟩), v, .int .i64 1] w1 fun e w' => e = .returned (.bool false) ∧ Only (fun b => b = M) w1 w') := fun w1 k d => vval_bad v hv M k d 1 w1
  have HM : Hid (VmB w M k d) := h
  clear h hv
  go_enter Tryz.func64, Tryz.ntmps64
  go_wp2
  go_loopw [11] (fun r wr => ∃ i : Int, r = .int .i64 i ∧ ((i = 0 ∧ Hid (wr = w)) ∨ (i = 1 ∧ Hid (Only (fun b => b = M) w wr ∧ VmB wr M (k + 1) d)))) (fun r _ => 1 - uOf r)
  case atStart => exact ⟨0, rfl, .inl ⟨rfl, rfl⟩⟩
  case round =>
    obtain ⟨i, rfl, hi⟩ := hrel
    rcases hi with ⟨rfl, HW⟩ | ⟨rfl, HO⟩
    · obtain rfl := HW.out
      go_wp2_with fail
      refine (show Calls Tryz.prog 44 _ _ _ from HI.out _ _ _ HM.out h1 (by omega)).mono ?_
      rintro e w2 ⟨rfl, o2⟩
      have O2 : Hid (Only (fun b => b = M) wr w2 ∧ VmB w2 M (k + 1) d) := o2
      clear HI o2 HV HM hg0 hg1 HW
      go_wp2
      go_roundw
      case rel => exact ⟨1, rfl, .inr ⟨rfl, O2⟩⟩
      case measure => simp [uOf]
    · have hg2 := HO.out.1.cell hg1 (fun h => hgM h)
      have i2 : (0 : Int) ≤ k + 1 := by omega
      have i3 : k + 1 < 1000 := by omega
      clear hg0 hg1
      go_wp2_with fail
      refine (show Calls Tryz.prog 44 _ _ _ from HV.out _ _ _ HO.out.2 i2 i3).mono ?_
      rintro e w2 ⟨rfl, o2⟩
      have O2 : Hid (Only (fun b => b = M) w w2) := HO.out.1.trans o2 (fun _ _ g => g)
      clear o2 HI HV HM
      go_wp2
      go_ret
      exact ⟨rfl, O2.out⟩
end Go.Proofs.YtllpacppedobjaaGreatDoor
namespace Go.Proofs.YtllpacppedobjaaGreatDoor
open Go.RowKit Go.Lib
set_option linter.unusedSimpArgs false
set_option linter.unusedVariables false
/-- an item that is not sound: Push of what is no value, or neither Push nor Call -/
def BadI (v : Value) : Prop :=
  (∃ u, v = .iface 99 (.agg #[u]) ∧ BadV u) ∨ ((∀ W : World, (Instr.typeAssert v 86 99 true).run Tryz.prog W = .ok (.tuple #[.agg #[.nilIface], .bool false]) W) ∧ (∀ W : World, (Instr.typeAssert v 86 102 true).run Tryz.prog W = .ok (.tuple #[.agg #[.string ByteArray.empty], .bool false]) W))
set_option maxRecDepth 100000 in
theorem vitem_bad (v : Value) (hv : BadI v) (M : Nat) (k d o : Int) (w : World) (h : VmB w M k d) (h1 : 0 ≤ k) (h2 : k < 900) : Calls Tryz.prog 66 #[.pointer (some ⟨M, 0, none⟩), v, .int .i64 o] w fun e w' => e = .returned (.bool false) ∧ Only (fun b => b = M) w w' := by
  rcases hv with ⟨v, rfl, hv⟩ | ⟨hp, hc⟩
  · have hP := va_hit 99 86 _ Tryz.underlying99 (by intro m h; cases h)
    have HV : Hid (∀ w1, Only (fun _ => False) w w1 → Calls Tryz.prog 44 #[.pointer (some ⟨M, 0, none⟩), v, .int .i64 o] w1 fun e w' => e = .returned (.bool false) ∧ Only (fun b => b = M) w1 w') := fun w1 o1 => vval_bad v hv M k d o w1 ((o1.block M (Array.getElem?_eq_some_iff.mp h).1 (fun g => g)).trans h) h1 (by omega)
    have O0 : Hid (Only (fun _ => False) w w) := Only.refl _ _
    have hk := hv.k
    clear h hv
    rcases hk with rfl | ⟨T, x, rfl⟩
    all_goals
     go_enter Tryz.func66, Tryz.ntmps66
     go_wp2_with fail
     refine (show Calls Tryz.prog 44 _ _ _ from HV.out _ (O0.out.alloc _)).mono ?_
     rintro e w1 ⟨rfl, o1⟩
     have O1 : Hid (Only (fun b => b = M) w w1) := ((Only.refl (fun b => b = M) w).alloc _).trans o1 (fun _ _ g => g)
     clear HV o1
     go_wp2
     go_ret
     exact ⟨rfl, O1.out⟩
  · have O0 : Hid (Only (fun b => b = M) w w) := Only.refl _ _
    clear h
    go_enter Tryz.func66, Tryz.ntmps66
    go_wp2
    all_goals
      go_ret
      refine ⟨rfl, ?_⟩
      repeat (first | exact O0.out | refine Only.alloc ?_ _)
set_option maxRecDepth 100000 in
theorem ievery_bad (v : Value) (hv : BadI v) (M g : Nat) (k d : Int) (w : World) (h : VmB w M k d) (h1 : 0 ≤ k) (h2 : k < 900) (hg0 : w.cell? ⟨g, 0, none⟩ = some v) : Calls Tryz.prog 65 #[.slice (some ⟨g, 0, none⟩) 1 1, .func (.func 66) #[.pointer (some ⟨M, 0, none⟩)] #[], .int .i64 1] w fun e w' => e = .returned (.bool false) ∧ Only (fun b => b = M) w w' := by
  have HV : Hid (Calls Tryz.prog 66 #[.pointer (some ⟨M, 0, none⟩), v, .int .i64 1] w fun e w' => e = .returned (.bool false) ∧ Only (fun b => b = M) w w') := vitem_bad v hv M k d 1 w h h1 h2
  clear h hv
  go_enter Tryz.func65, Tryz.ntmps65
  go_wp2
  go_loopw [11] (fun r wr => r = .int .i64 0 ∧ Hid (wr = w)) (fun r _ => 0)
  case atStart => exact ⟨rfl, rfl⟩
  case round =>
    obtain ⟨rfl, HW⟩ := hrel
    obtain rfl := HW.out
    go_wp2_with fail
    refine (show Calls Tryz.prog 66 _ _ _ from HV.out).mono ?_
    rintro e w2 ⟨rfl, o2⟩
    have O2 : Hid (Only (fun b => b = M) wr w2) := o2
    clear o2 HV hg0 HW
    go_wp2
    go_ret
    exact ⟨rfl, O2.out⟩
/-- a value that is not sound: no value; a list of 1 and of no value; a quotation of one bad item -/
def BadW (w : World) (x : Value) : Prop :=
  BadV x ∨ (∃ g v, x = .iface 71 (.agg #[.slice (some ⟨g, 0, none⟩) 2 2]) ∧ BadV v ∧ w.cell? ⟨g, 0, none⟩ = some i1v ∧ w.cell? ⟨g, 1, none⟩ = some v) ∨ (∃ g v, x = .iface 73 (.agg #[.slice (some ⟨g, 0, none⟩) 1 1]) ∧ BadI v ∧ w.cell? ⟨g, 0, none⟩ = some v)
theorem BadW.one {w : World} (v : Value) (h : BadV v) : BadW w v := .inl h
theorem BadW.list {w : World} (g : Nat) (v : Value) (h : BadV v) (hg0 : w.cell? ⟨g, 0, none⟩ = some i1v) (hg1 : w.cell? ⟨g, 1, none⟩ = some v) : BadW w (.iface 71 (.agg #[.slice (some ⟨g, 0, none⟩) 2 2])) := .inr (.inl ⟨g, v, rfl, h, hg0, hg1⟩)
theorem BadW.quot {w : World} (g : Nat) (v : Value) (h : BadI v) (hg0 : w.cell? ⟨g, 0, none⟩ = some v) : BadW w (.iface 73 (.agg #[.slice (some ⟨g, 0, none⟩) 1 1])) := .inr (.inr ⟨g, v, rfl, h, hg0⟩)
theorem BadI.push (v : Value) (h : BadV v) : BadI (.iface 99 (.agg #[v])) := .inl ⟨v, rfl, h⟩
set_option maxRecDepth 100000 in
theorem vval_list (M g : Nat) (v : Value) (hv : BadV v) (w : World) (h : VmB w M 0 0) (hgM : g ≠ M) (hg0 : w.cell? ⟨g, 0, none⟩ = some i1v) (hg1 : w.cell? ⟨g, 1, none⟩ = some v) : Calls Tryz.prog 44 #[.pointer (some ⟨M, 0, none⟩), .iface 71 (.agg #[.slice (some ⟨g, 0, none⟩) 2 2]), .int .i64 0] w fun e w' => e = .returned (.bool false) ∧ Only (fun b => b = M) w w' := by
  have HC : Hid (Calls Tryz.prog 62 #[.pointer (some ⟨M, 0, none⟩)] w fun e w' => e = .returned (.bool true) ∧ Only (fun b => b = M) w w' ∧ VmB w' M (0 + 1) 0) := vcount_any M 0 0 w h (by omega) (by omega)
  have HE : Hid (∀ w1 k d, VmB w1 M k d → 0 ≤ d → d ≤ 32 → Calls Tryz.prog 63 #[.pointer (some ⟨M, 0, none⟩), .int .i64 1] w1 fun e w' => e = .returned (.bool true) ∧ Only (fun b => b = M) w1 w' ∧ ∃ d', VmB w' M k d' ∧ 0 ≤ d' ∧ d' ≤ 32) := fun w1 k d => venter_any M k d w1
  have HV : Hid (∀ w1 k d, VmB w1 M k d → 0 ≤ k → k < 900 → w1.cell? ⟨g, 0, none⟩ = some i1v → w1.cell? ⟨g, 1, none⟩ = some v → Calls Tryz.prog 64 #[.slice (some ⟨g, 0, none⟩) 2 2, .func (.func 44) #[.pointer (some ⟨M, 0, none⟩)] #[], .int .i64 1] w1 fun e w' => e = .returned (.bool false) ∧ Only (fun b => b = M) w1 w') := fun w1 k d a1 a2 a3 a4 a5 => vevery_bad v hv M g k d w1 a1 a2 a3 hgM a4 a5
  have hl := va_hit 71 27 _ Tryz.underlying71 (by intro m h; cases h)
  have G : Hid (w.cell? ⟨g, 0, none⟩ = some i1v ∧ w.cell? ⟨g, 1, none⟩ = some v) := ⟨hg0, hg1⟩
  clear h hv hg0 hg1
  go_enter Tryz.func44, Tryz.ntmps44
  go_wp2_with fail
  refine (show Calls Tryz.prog 62 _ _ _ from HC.out).mono ?_
  rintro e w1 ⟨rfl, o1, m1⟩
  have O1 : Hid (Only (fun b => b = M) w w1) := o1
  have M1 : Hid (VmB w1 M (0 + 1) 0) := m1
  clear HC o1 m1
  go_wp2_with fail
  have b1 : M < w1.heap.size := (Array.getElem?_eq_some_iff.mp M1.out).1
  have m2 : VmB (w1.alloc (.cells #[.slice (some ⟨g, 0, none⟩) 2 2] 71)) M (0 + 1) 0 := (((Only.refl (fun _ => False) w1).alloc _).block M b1 (fun h => h)).trans M1.out
  have l2 : (w1.alloc (.cells #[.slice (some ⟨g, 0, none⟩) 2 2] 71)).cell? ⟨w1.heap.size, 0, none⟩ = some (.slice (some ⟨g, 0, none⟩) 2 2) := by
    exact (wr_cell (va_at w1 (.cells #[.slice (some ⟨g, 0, none⟩) 2 2] 71) _ rfl) 0).trans rfl
  refine (show Calls Tryz.prog 63 _ _ _ from HE.out _ _ _ m2 (by omega) (by omega)).mono ?_
  rintro e w3 ⟨rfl, o3, d', m3, d1, d2⟩
  have l3 := o3.cell l2 (fun h => absurd h (Nat.ne_of_gt b1))
  have o4 : Only (fun b => b = M) w w3 := (O1.out.alloc _).trans o3 (fun _ _ g => g)
  have O4 : Hid (Only (fun b => b = M) w w3) := o4
  have G4 : Hid (w3.cell? ⟨g, 0, none⟩ = some i1v ∧ w3.cell? ⟨g, 1, none⟩ = some v) := ⟨o4.cell G.out.1 (fun h => hgM h), o4.cell G.out.2 (fun h => hgM h)⟩
  have M3 : Hid (VmB w3 M (0 + 1) d') := m3
  clear HE o3 o4 O1 M1 m2 l2 m3 d1 d2 G b1
  go_wp2_with fail
  refine (show Calls Tryz.prog 64 _ _ _ from HV.out _ _ _ M3.out (by omega) (by omega) G4.out.1 G4.out.2).mono ?_
  rintro e w5 ⟨rfl, o5⟩
  have O5 : Hid (Only (fun b => b = M) w w5) := O4.out.trans o5 (fun _ _ g => g)
  clear HV o5 O4 G4 M3 l3
  go_wp2
  go_ret
  exact ⟨rfl, O5.out⟩
set_option maxRecDepth 100000 in
theorem vval_quot (M g : Nat) (v : Value) (hv : BadI v) (w : World) (h : VmB w M 0 0) (hgM : g ≠ M) (hg0 : w.cell? ⟨g, 0, none⟩ = some v) : Calls Tryz.prog 44 #[.pointer (some ⟨M, 0, none⟩), .iface 73 (.agg #[.slice (some ⟨g, 0, none⟩) 1 1]), .int .i64 0] w fun e w' => e = .returned (.bool false) ∧ Only (fun b => b = M) w w' := by
  have HC : Hid (Calls Tryz.prog 62 #[.pointer (some ⟨M, 0, none⟩)] w fun e w' => e = .returned (.bool true) ∧ Only (fun b => b = M) w w' ∧ VmB w' M (0 + 1) 0) := vcount_any M 0 0 w h (by omega) (by omega)
  have HE : Hid (∀ w1 k d, VmB w1 M k d → 0 ≤ d → d ≤ 32 → Calls Tryz.prog 63 #[.pointer (some ⟨M, 0, none⟩), .int .i64 1] w1 fun e w' => e = .returned (.bool true) ∧ Only (fun b => b = M) w1 w' ∧ ∃ d', VmB w' M k d' ∧ 0 ≤ d' ∧ d' ≤ 32) := fun w1 k d => venter_any M k d w1
  have HV : Hid (∀ w1 k d, VmB w1 M k d → 0 ≤ k → k < 900 → w1.cell? ⟨g, 0, none⟩ = some v → Calls Tryz.prog 65 #[.slice (some ⟨g, 0, none⟩) 1 1, .func (.func 66) #[.pointer (some ⟨M, 0, none⟩)] #[], .int .i64 1] w1 fun e w' => e = .returned (.bool false) ∧ Only (fun b => b = M) w1 w') := fun w1 k d a1 a2 a3 a4 => ievery_bad v hv M g k d w1 a1 a2 a3 a4
  have hl := va_miss 73 71 27 _ Tryz.underlying71 (by intro m h; cases h) (by decide) (.agg #[.slice none 0 0]) (fun _ => rfl)
  have hq := va_hit 73 27 _ Tryz.underlying73 (by intro m h; cases h)
  have G : Hid (w.cell? ⟨g, 0, none⟩ = some v) := hg0
  clear h hv hg0
  go_enter Tryz.func44, Tryz.ntmps44
  go_wp2_with fail
  refine (show Calls Tryz.prog 62 _ _ _ from HC.out).mono ?_
  rintro e w1 ⟨rfl, o1, m1⟩
  have O1 : Hid (Only (fun b => b = M) w w1) := o1
  have M1 : Hid (VmB w1 M (0 + 1) 0) := m1
  clear HC o1 m1
  go_wp2_with fail
  have b0 : M < w1.heap.size := (Array.getElem?_eq_some_iff.mp M1.out).1
  obtain ⟨w1q, ew⟩ : ∃ w1q, w1q = w1.alloc (.cells #[.slice none 0 0] 71) := ⟨_, rfl⟩
  rw [← ew]
  have O1q : Hid (Only (fun b => b = M) w w1q) := ew ▸ O1.out.alloc _
  have M1q : Hid (VmB w1q M (0 + 1) 0) := ew ▸ (((Only.refl (fun _ => False) w1).alloc _).block M b0 (fun h => h)).trans M1.out
  have b1 : M < w1q.heap.size := (Array.getElem?_eq_some_iff.mp M1q.out).1
  have m2 : VmB (w1q.alloc (.cells #[.slice (some ⟨g, 0, none⟩) 1 1] 73)) M (0 + 1) 0 := (((Only.refl (fun _ => False) w1q).alloc _).block M b1 (fun h => h)).trans M1q.out
  have l2 : (w1q.alloc (.cells #[.slice (some ⟨g, 0, none⟩) 1 1] 73)).cell? ⟨w1q.heap.size, 0, none⟩ = some (.slice (some ⟨g, 0, none⟩) 1 1) := by
    exact (wr_cell (va_at w1q (.cells #[.slice (some ⟨g, 0, none⟩) 1 1] 73) _ rfl) 0).trans rfl
  refine (show Calls Tryz.prog 63 _ _ _ from HE.out _ _ _ m2 (by omega) (by omega)).mono ?_
  rintro e w3 ⟨rfl, o3, d', m3, d1, d2⟩
  have l3 := o3.cell l2 (fun h => absurd h (Nat.ne_of_gt b1))
  have ez : w1q.heap.size = w1.heap.size + 1 := ew ▸ Array.size_push ..
  rw [ez] at l3
  have o4 : Only (fun b => b = M) w w3 := (O1q.out.alloc _).trans o3 (fun _ _ g => g)
  have O4 : Hid (Only (fun b => b = M) w w3) := o4
  have G4 : Hid (w3.cell? ⟨g, 0, none⟩ = some v) := o4.cell G.out (fun h => hgM h)
  have M3 : Hid (VmB w3 M (0 + 1) d') := m3
  clear HE o3 o4 O1q M1q O1 M1 ez ew b0 m2 l2 m3 d1 d2 G b1
  go_wp2_with fail
  refine (show Calls Tryz.prog 65 _ _ _ from HV.out _ _ _ M3.out (by omega) (by omega) G4.out).mono ?_
  rintro e w5 ⟨rfl, o5⟩
  have O5 : Hid (Only (fun b => b = M) w w5) := O4.out.trans o5 (fun _ _ g => g)
  clear HV o5 O4 G4 M3 l3
  go_wp2
  go_ret
  exact ⟨rfl, O5.out⟩
end Go.Proofs.YtllpacppedobjaaGreatDoor
namespace Go.Proofs.YtllpacppedobjaaGreatDoor
open Go.RowKit Go.Lib
set_option linter.unusedSimpArgs false
set_option linter.unusedVariables false
theorem vval_badw (v : Value) (M : Nat) (w0 w : World) (hv : BadW w0 v) (hM : w0.heap.size ≤ M) (o : Only (fun _ => False) w0 w) (h : VmB w M 0 0) : Calls Tryz.prog 44 #[.pointer (some ⟨M, 0, none⟩), v, .int .i64 0] w fun e w' => e = .returned (.bool false) ∧ Only (fun b => b = M) w w' := by
  have lt : ∀ g x, w0.cell? ⟨g, 0, none⟩ = some x → g ≠ M := by
    intro g x hg e
    subst e
    have : w0.heap[g]? = none := Array.getElem?_eq_none hM
    simp [World.cell?, this] at hg
  rcases hv with hv | ⟨g, v, rfl, hv, hg0, hg1⟩ | ⟨g, v, rfl, hv, hg0⟩
  · exact vval_bad v hv M 0 0 0 w h (by omega) (by omega)
  · exact vval_list M g v hv w h (lt g _ hg0) (o.cell hg0 (fun h => h)) (o.cell hg1 (fun h => h))
  · exact vval_quot M g v hv w h (lt g _ hg0) (o.cell hg0 (fun h => h))
theorem results_two {fn : Func} {t u : Tmp} (h : fn.results = #[.cell u 78, .tmp t]) (tmps : Array Value) (w : World) (B : Nat) {x y : Value} (h0 : w.cell? ⟨B, 0, none⟩ = some x) (h1 : w.cell? ⟨B, 1, none⟩ = some y) (ha : tmps.getD u undef = .pointer (some ⟨B, 0, none⟩)) :
    (results fn tmps).run Tryz.prog w = .ok (.tuple #[.agg #[x, y], tmps.getD t undef]) w := by
  have ha' : tmps[u]?.getD undef = .pointer (some ⟨B, 0, none⟩) := by simpa using ha
  simp [results, h, ha', asAddr, go_sem, loadVar, isAgg, Tryz.underlying78, h0, h1]
theorem set2 {w : World} {B : Nat} {x0 y0 : Value} (h0 : w.cell? ⟨B, 0, none⟩ = some x0) (h1 : w.cell? ⟨B, 1, none⟩ = some y0) (x y : Value) :
    ((w.setCell ⟨B, 0, none⟩ x).setCell ⟨B, 1, none⟩ y).cell? ⟨B, 0, none⟩ = some x ∧ ((w.setCell ⟨B, 0, none⟩ x).setCell ⟨B, 1, none⟩ y).cell? ⟨B, 1, none⟩ = some y := by
  have ne : ∀ (W : World) (i j : Nat) (v : Value), i ≠ j → (W.setCell ⟨B, i, none⟩ v).cell? ⟨B, j, none⟩ = W.cell? ⟨B, j, none⟩ := fun W i j v g => by apply World.cell?_setCell_other; intro e; exact g (by injection e)
  refine ⟨?_, ?_⟩
  · rw [ne _ 1 0 _ (by omega)]
    exact World.cell?_setCell_same' _ _ _ (by rw [h0]; rfl)
  · exact World.cell?_setCell_same' _ _ _ (by rw [ne _ 0 1 _ (by omega), h1]; rfl)
set_option maxRecDepth 100000 in
theorem measured_bad (v : Value) (w : World) (hv : BadW w v) : Calls Tryz.prog 29 #[v] w fun e w' => e = .returned (.tuple #[.agg #[.int .i64 0, .int .i64 0], .int .i64 1]) ∧ Only (fun _ => False) w w' := by
  have HV : Hid (Calls Tryz.prog 44 #[.pointer (some ⟨w.heap.size + 1, 0, none⟩), v, .int .i64 0] ((w.alloc (.cells #[.int .i64 0, .int .i64 0] 78)).alloc (.cells #[.int .i64 0, .int .i64 0] 78)) fun e w' => e = .returned (.bool false) ∧ Only (fun b => b = w.heap.size + 1) ((w.alloc (.cells #[.int .i64 0, .int .i64 0] 78)).alloc (.cells #[.int .i64 0, .int .i64 0] 78)) w') := vval_badw v (w.heap.size + 1) w _ hv (Nat.le_succ _) (((Only.refl _ w).alloc _).alloc _) (va_at (w.alloc (.cells #[.int .i64 0, .int .i64 0] 78)) _ _ (Array.size_push ..).symm)
  have ca : ((w.alloc (.cells #[.int .i64 0, .int .i64 0] 78)).alloc (.cells #[.int .i64 0, .int .i64 0] 78)).heap[w.heap.size]? = some (.cells #[.int .i64 0, .int .i64 0] 78) := (((Only.refl (fun _ => False) (w.alloc (.cells #[.int .i64 0, .int .i64 0] 78))).alloc _).block w.heap.size (by rw [show (w.alloc (.cells #[.int .i64 0, .int .i64 0] 78)).heap.size = w.heap.size + 1 from Array.size_push ..]; omega) (fun h => h)).trans (va_at w _ _ rfl)
  have CA : Hid (((w.alloc (.cells #[.int .i64 0, .int .i64 0] 78)).alloc (.cells #[.int .i64 0, .int .i64 0] 78)).heap[w.heap.size]? = some (.cells #[.int .i64 0, .int .i64 0] 78)) := ca
  have CZ : Hid (((w.alloc (.cells #[.int .i64 0, .int .i64 0] 78)).alloc (.cells #[.int .i64 0, .int .i64 0] 78)).heap.size = w.heap.size + 2) := (Array.size_push ..).trans (congrArg (· + 1) (Array.size_push ..))
  clear ca
  clear hv
  go_enter Tryz.func29, Tryz.ntmps29
  go_wp2_with fail
  refine (show Calls Tryz.prog 44 _ _ _ from HV.out).mono ?_
  rintro e w1 ⟨rfl, o1⟩
  have O1 : Hid (Only (fun _ => False) w w1) := (((Only.refl (fun _ => False) w).alloc _).alloc _).trans o1 (fun k hk e => by omega)
  have h0 := (o1.block w.heap.size (by rw [CZ.out]; omega) (by omega)).trans CA.out
  have c0 := wr_cell h0 0
  have c1 := wr_cell h0 1
  have f0 := wr_froz h0 0
  have f1 := wr_froz h0 1
  simp only [List.getElem?_toArray, List.getElem?_cons_succ, List.getElem?_cons_zero] at c0 c1
  clear h0 CA CZ
  clear HV o1
  have q := set2 c0 c1 (.int .i64 0) (.int .i64 0)
  have Q : Hid (((w1.setCell ⟨w.heap.size, 0, none⟩ (.int .i64 0)).setCell ⟨w.heap.size, 1, none⟩ (.int .i64 0)).cell? ⟨w.heap.size, 0, none⟩ = some (.int .i64 0) ∧ ((w1.setCell ⟨w.heap.size, 0, none⟩ (.int .i64 0)).setCell ⟨w.heap.size, 1, none⟩ (.int .i64 0)).cell? ⟨w.heap.size, 1, none⟩ = some (.int .i64 0)) := q
  clear q
  go_wp2
  refine bodyPost_ret (results_two rfl _ _ w.heap.size Q.out.1 Q.out.2 rfl) rfl ?_
  exact ⟨rfl, (O1.out.setCell _ _ (fun g => by simp only at g; omega)).setCell _ _ (fun g => by simp only at g; omega)⟩
set_option maxRecDepth 100000 in
theorem check_bad (v : Value) (w : World) (hv : BadW w v) : Calls Tryz.prog 9 #[v] w fun e w' => e = .returned (.int .i64 1) ∧ Only (fun _ => False) w w' := by
  have HV : Hid (Calls Tryz.prog 29 #[v] w fun e w' => e = .returned (.tuple #[.agg #[.int .i64 0, .int .i64 0], .int .i64 1]) ∧ Only (fun _ => False) w w') := measured_bad v w hv
  clear hv
  go_enter Tryz.func9, Tryz.ntmps9
  go_wp2_with fail
  refine (show Calls Tryz.prog 29 _ _ _ from HV.out).mono ?_
  rintro e w1 ⟨rfl, o1⟩
  have O1 : Hid (Only (fun _ => False) w w1) := o1
  clear HV o1
  go_wp2
  go_ret
  exact ⟨rfl, O1.out.alloc _⟩
set_option maxRecDepth 100000 in
theorem checkitems_bad (g : Nat) (v : Value) (w : World) (hv : BadI v) (hg : w.cell? ⟨g, 0, none⟩ = some v) : Calls Tryz.prog 15 #[.slice (some ⟨g, 0, none⟩) 1 1] w fun e w' => e = .returned (.int .i64 1) ∧ Only (fun _ => False) w w' := by
  have HV : Hid (Calls Tryz.prog 9 #[.iface 73 (.agg #[.slice (some ⟨g, 0, none⟩) 1 1])] w fun e w' => e = .returned (.int .i64 1) ∧ Only (fun _ => False) w w') := check_bad _ w (.quot g v hv hg)
  clear hv hg
  go_enter Tryz.func15, Tryz.ntmps15
  go_wp2_with fail
  refine (show Calls Tryz.prog 9 _ _ _ from HV.out).mono ?_
  rintro e w1 ⟨rfl, o1⟩
  have O1 : Hid (Only (fun _ => False) w w1) := o1
  clear HV o1
  go_wp2
  go_ret
  exact ⟨rfl, O1.out⟩
end Go.Proofs.YtllpacppedobjaaGreatDoor
