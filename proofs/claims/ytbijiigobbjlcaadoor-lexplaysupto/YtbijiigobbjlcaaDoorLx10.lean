/- LexNumbers: the walk. -/
import Derived.Test.YtbijiigobbjlcaaDoorLx9
namespace Go.Proofs.YtbijiigobbjlcaaDoor
open Go.RowKit
set_option linter.unusedSimpArgs false
set_option linter.unusedVariables false
def tkS (nt : Nat) (ds : List Nat) (i : Nat) : ByteArray := mkS ((ds.take i).map (nt + ·))
theorem tk_none (nt : Nat) (ds : List Nat) : tkS nt ds 0 = ⟨#[]⟩ := rfl
theorem tk_all (nt : Nat) (ds : List Nat) {i : Nat} (h : ds.length ≤ i) : tkS nt ds i = mkS (ds.map (nt + ·)) := by unfold tkS; rw [List.take_of_length_le h]
theorem tk_size {nt : Nat} (hn : nt = 48 ∨ nt = 1632 ∨ nt = 65296) {ds : List Nat} (h : ∀ d ∈ ds, d < 10) (i : Nat) : (tkS nt ds i).size ≤ 3 * ds.length := by
  have := mk_size3 hn (ds.take i) (fun d hd => h d (List.mem_of_mem_take hd))
  have h2 : (ds.take i).length ≤ ds.length := by rw [List.length_take]; omega
  unfold tkS
  omega
theorem tk_go {nt : Nat} {ds : List Nat} {i : Nat} (hi : i < ds.length) : tkS nt ds i ++ Utf8.encode ((nt + ds[i] : Nat) : Int) = tkS nt ds (i + 1) := by
  unfold tkS
  rw [mk_snoc, List.take_add_one, List.getElem?_eq_getElem hi, List.map_append]
  rfl
theorem enc_size2 {nt : Nat} (hn : nt = 48 ∨ nt = 1632 ∨ nt = 65296) {d : Nat} (hd : d < 10) : (Utf8.encode ((nt + d : Nat) : Int)).size ≤ 3 := by
  have := enc_size hn hd
  rw [mk_one]
  unfold mkS
  rw [size_mk, encL_one]
  exact this
set_option maxRecDepth 100000 in
set_option maxHeartbeats 4000000 in
theorem numbers_walk {n k : Int} (h1 : -9223372036854775808 ≤ n) (h2 : n ≤ 9223372036854775807) (k0 : 0 ≤ k) (k1 : k ≤ 255) (w : World) (h : Nog w) :
    Calls Tryd.prog 7 #[.int .i64 n, .int .u8 k] w fun e w' => e = .returned (.bool true) ∧ Only (fun _ => False) w w' := by
  have HA : Hid (Calls Tryd.prog 9 #[] w fun e w' => e = .returned (.bool true) ∧ Only (fun _ => False) w w') := awake_any w h
  have HD : Hid (∀ w1, Calls Tryd.prog 21 #[.int .i64 n] w1 (DecIs n w1)) := fun w1 => decimal_any h1 h2 w1
  have HM : Hid (∀ s w1, Only (fun _ => False) w w1 → Calls Tryd.prog 12 #[.string s] w1 fun e w' => e = .returned (.tuple #[.int .i64 (numR s).1, .int .i64 (numR s).2]) ∧ Only (fun _ => False) w1 w') := fun s w1 o => number_any s w1 (h.frame o)
  have HN : Hid (∀ s w1, Only (fun _ => False) w w1 → Calls Tryd.prog 17 #[.string s] w1 fun e w' => e = .returned (.bool (nameB s)) ∧ Only (fun _ => False) w1 w') := fun s w1 o => name_any s w1 (h.frame o)
  have HK : Hid (∀ ds kk, Ds n.natAbs kk ds → ((-1152921504606846976 ≤ n ∧ n ≤ 1152921504606846975) → Asks n ds (n, 0)) ∧ (¬ (-1152921504606846976 ≤ n ∧ n ≤ 1152921504606846975) → Asks n ds (0, 11))) := fun ds kk g => g.asks h1 h2
  obtain ⟨N, hN⟩ : ∃ N, N = n.natAbs := ⟨_, rfl⟩
  rw [← hN] at HK
  have HN0 : Hid (∀ w1 e w', DecIs n w1 e w' → ∃ ds, Ds N 0 ds ∧ e = .returned (.string (mnB (decide (n < 0)) ++ mkS (ds.map (48 + ·)))) ∧ Only (fun _ => False) w1 w') := by
    rintro w1 e w' ⟨ds, a, b, c, d⟩
    exact ⟨ds, hN ▸ a.ds b, c, d⟩
  clear hN h
  go_enter Tryd.func7, Tryd.ntmps7
  go_wp2_with fail
  refine (show Calls Tryd.prog 9 _ _ _ from HA.out).mono ?_
  rintro e w1 ⟨rfl, o1⟩
  have O1 : Hid (Only (fun _ => False) w w1) := o1
  clear HA o1
  go_wp2_with fail
  refine (show Calls Tryd.prog 21 _ _ _ from HD.out _).mono ?_
  intro e w2 hd
  obtain ⟨ds0, hd0, rfl, o2⟩ := HN0.out _ _ _ hd
  have O2 : Hid (Only (fun _ => False) w w2) := O1.out.trans o2 (fun _ _ g => g)
  have H0 : Hid (Ds N 0 ds0) := hd0
  clear HD HN0 O1 hd hd0 o2
  by_cases hn : n < 0
  · have hsl : ∀ W : World, (Instr.slice 9 (.string (mnB (decide (n < 0)) ++ mkS (ds0.map (48 + ·)))) (some (.int .i64 1)) none none).run Tryd.prog W = .ok (.string (mkS (ds0.map (48 + ·)))) W := fun W => by
      rw [show decide (n < 0) = true by simp; omega]
      exact slice_mn W
    obtain ⟨X0, hX0⟩ : ∃ X, X = mnB (decide (n < 0)) ++ mkS (ds0.map (48 + ·)) := ⟨_, rfl⟩
    have hX0' : Hid (X0 = mnB (decide (n < 0)) ++ mkS (ds0.map (48 + ·))) := hX0
    rw [← hX0] at hsl ⊢
    clear hX0
    have HL : Hid ((⟨#[45]⟩ : ByteArray) = mnB (decide (n < 0))) := by
      have : decide (n < 0) = true := by simp; omega
      show (⟨#[45]⟩ : ByteArray) = mnB (decide (n < 0))
      rw [this]
      rfl
    go_wp2
    go_loopw [5, 7] (fun s i w' => ∃ (ds : List Nat) (m : Nat), w' = w2 ∧ s = .string (mkS (ds.map (48 + ·))) ∧ i = .int .i64 (m : Nat) ∧ m ≤ 40 ∧ Hid (Ds N m ds)) (fun _ i _ => 41 - uOf i)
    case atStart => exact ⟨ds0, 0, rfl, rfl, rfl, by omega, H0.out⟩
    case round =>
      obtain ⟨ds, m, rfl, rfl, rfl, hm, HI⟩ := hrel
      clear H0
      have hln := mk_size ds HI.out.lt
      have hl2 := HI.out.len
      by_cases hk : (m : Int) < k % 40
      · have had : ∀ W : World, (Op.stringOp .add (⟨#[48]⟩ : ByteArray) (mkS (ds.map (48 + ·)))).run Tryd.prog W = .ok (.string (mkS ((0 :: ds).map (48 + ·)))) W := fun W =>
          add_str _ W (mk_cons (d := 0) (by omega) ds) (by have : (ByteArray.mk #[48]).size = 1 := rfl; omega) (by omega)
        have HJ : Hid (Ds N (m + 1) (0 :: ds)) := HI.out.nought
        clear HI hln hl2
        go_wp2
        go_roundw
        case rel => exact ⟨0 :: ds, m + 1, trivial, rfl, by first | rfl | go_num, by omega, HJ.out⟩
        case measure => simp only [uOf]; omega
      · have hlt := HI.out.lt
        have asks := HK.out ds _ HI.out
        have HB : Hid (ds.length ≤ 60) := (by omega : ds.length ≤ 60)
        have hm1 := mn_size (decide (n < 0))
        have z1 := tk_size (.inr (.inl rfl) : 1632 = 48 ∨ 1632 = 1632 ∨ 1632 = 65296) hlt ds.length
        have z2 := tk_size (.inr (.inr rfl) : 65296 = 48 ∨ 65296 = 1632 ∨ 65296 = 65296) hlt ds.length
        rw [tk_all _ _ (Nat.le_refl _)] at z1 z2
        obtain ⟨X1, hX1⟩ : ∃ X, X = mnB (decide (n < 0)) ++ mkS (ds.map (48 + ·)) := ⟨_, rfl⟩
        obtain ⟨X2, hX2⟩ : ∃ X, X = mnB (decide (n < 0)) ++ mkS (ds.map (1632 + ·)) := ⟨_, rfl⟩
        obtain ⟨X3, hX3⟩ : ∃ X, X = mnB (decide (n < 0)) ++ mkS (ds.map (65296 + ·)) := ⟨_, rfl⟩
        obtain ⟨X4, hX4⟩ : ∃ X, X = mnB (decide (n < 0)) ++ mkS (ds.map (1632 + ·) ++ [48]) := ⟨_, rfl⟩
        have s2 : X2.size ≤ 1000 := by rw [hX2, ByteArray.size_append]; omega
        have ha1 : ∀ W : World, (Op.stringOp .add (⟨#[45]⟩ : ByteArray) (mkS (ds.map (48 + ·)))).run Tryd.prog W = .ok (.string X1) W := fun W => by
          rw [show (⟨#[45]⟩ : ByteArray) = mnB (decide (n < 0)) from HL.out]
          exact add_str _ W hX1.symm (by omega) (by omega)
        have ha2 : ∀ W : World, (Op.stringOp .add (⟨#[45]⟩ : ByteArray) (tkS 1632 ds ds.length)).run Tryd.prog W = .ok (.string X2) W := fun W => by
          rw [show (⟨#[45]⟩ : ByteArray) = mnB (decide (n < 0)) from HL.out, tk_all _ _ (Nat.le_refl _)]
          exact add_str _ W hX2.symm (by omega) (by omega)
        have ha3 : ∀ W : World, (Op.stringOp .add (⟨#[45]⟩ : ByteArray) (tkS 65296 ds ds.length)).run Tryd.prog W = .ok (.string X3) W := fun W => by
          rw [show (⟨#[45]⟩ : ByteArray) = mnB (decide (n < 0)) from HL.out, tk_all _ _ (Nat.le_refl _)]
          exact add_str _ W hX3.symm (by omega) (by omega)
        have ha4 : ∀ W : World, (Op.stringOp .add X2 (⟨#[48]⟩ : ByteArray)).run Tryd.prog W = .ok (.string X4) W := fun W =>
          add_str _ W (by rw [hX2, hX4, mk_nought, ByteArray.append_assoc, mk_app]) (by omega) (by have : (ByteArray.mk #[48]).size = 1 := rfl; omega)
        have hen : ∀ W : World, (Instr.index 9 (.string (mkS (ds.map (48 + ·)))) (.int .i64 0)).run Tryd.prog W = (Instr.index 9 (.string (mkS (ds.map (48 + ·)))) (.int .i64 0)).run Tryd.prog W := fun W => rfl
        clear hen
        clear hm1 z1 z2 s2
        have hsz : (mkS (ds.map (48 + ·))).size = ds.length := hln
        by_cases hf : -1152921504606846976 ≤ n
        · have A : Asks n ds (n, 0) := asks.1 (by omega)
          have b1 := A.r1
          have b2 := A.r2
          have b3 := A.r3
          have b4 := A.r4
          have b5 := A.n1
          have b6 := A.n3
          rw [← hX1] at b1 b5
          rw [← hX2] at b2
          rw [← hX3] at b3 b6
          rw [← hX4] at b4
          clear A asks hX1 hX2 hX3 hX4
          have C1 : Hid (∀ w1, Only (fun _ => False) w w1 → Calls Tryd.prog 12 #[.string X1] w1 fun e w' => e = .returned (.tuple #[.int .i64 n, .int .i64 0]) ∧ Only (fun _ => False) w1 w') := fun w1 o => by
            have := HM.out X1 w1 o
            rw [b1] at this
            exact this
          have C2 : Hid (∀ w1, Only (fun _ => False) w w1 → Calls Tryd.prog 12 #[.string X2] w1 fun e w' => e = .returned (.tuple #[.int .i64 n, .int .i64 0]) ∧ Only (fun _ => False) w1 w') := fun w1 o => by
            have := HM.out X2 w1 o
            rw [b2] at this
            exact this
          have C3 : Hid (∀ w1, Only (fun _ => False) w w1 → Calls Tryd.prog 12 #[.string X3] w1 fun e w' => e = .returned (.tuple #[.int .i64 n, .int .i64 0]) ∧ Only (fun _ => False) w1 w') := fun w1 o => by
            have := HM.out X3 w1 o
            rw [b3] at this
            exact this
          obtain ⟨v4, hv4⟩ : ∃ v, v = (numR X4).1 := ⟨_, rfl⟩
          have C4 : Hid (∀ w1, Only (fun _ => False) w w1 → Calls Tryd.prog 12 #[.string X4] w1 fun e w' => e = .returned (.tuple #[.int .i64 v4, .int .i64 9]) ∧ Only (fun _ => False) w1 w') := fun w1 o => by
            have := HM.out X4 w1 o
            rw [b4, ← hv4] at this
            exact this
          have C5 : Hid (∀ w1, Only (fun _ => False) w w1 → Calls Tryd.prog 17 #[.string X1] w1 fun e w' => e = .returned (.bool false) ∧ Only (fun _ => False) w1 w') := fun w1 o => by
            have := HN.out X1 w1 o
            rw [b5] at this
            exact this
          have C6 : Hid (∀ w1, Only (fun _ => False) w w1 → Calls Tryd.prog 17 #[.string X3] w1 fun e w' => e = .returned (.bool false) ∧ Only (fun _ => False) w1 w') := fun w1 o => by
            have := HN.out X3 w1 o
            rw [b6] at this
            exact this
          have f2 : n ≤ 1152921504606846975 := by omega
          clear b1 b2 b3 b4 b5 b6 hv4 HM HN HK
          go_wp2_with fail
          refine (show Calls Tryd.prog 12 _ _ _ from C1.out _ O2.out).mono ?_
          rintro e w3 ⟨rfl, o3⟩
          have O3 : Hid (Only (fun _ => False) w w3) := O2.out.trans o3 (fun _ _ g => g)
          clear C1 O2 o3
          go_wp2
          go_loopw [11, 12, 13] (fun a b i w' => ∃ (m : Nat), w' = w3 ∧ a = .string (tkS 1632 ds m) ∧ b = .string (tkS 65296 ds m) ∧ i = .int .i64 (m : Nat) ∧ m ≤ ds.length) (fun _ _ i _ => ds.length + 1 - uOf i)
          case atStart => exact ⟨0, rfl, rfl, rfl, rfl, by omega⟩
          case round =>
            obtain ⟨i, rfl, rfl, rfl, rfl, hi⟩ := hrel
            by_cases hq : i < ds.length
            · have hix0 := fun W => index_mk hlt hq W
              have hd10 : ds[i] < 10 := hlt _ (List.getElem_mem hq)
              have g1 : ∀ W : World, (Op.stringOp .add (tkS 1632 ds i) (Utf8.encode (1632 + (ds[i] : Int)))).run Tryd.prog W = .ok (.string (tkS 1632 ds (i + 1))) W := fun W =>
                add_str _ W (tk_go hq) (by have := tk_size (.inr (.inl rfl) : 1632 = 48 ∨ 1632 = 1632 ∨ 1632 = 65296) hlt i; have : ds.length ≤ 60 := HB.out; omega) (by have := enc_size2 (.inr (.inl rfl) : 1632 = 48 ∨ 1632 = 1632 ∨ 1632 = 65296) hd10; exact Nat.le_trans this (by omega))
              have g2 : ∀ W : World, (Op.stringOp .add (tkS 65296 ds i) (Utf8.encode (65296 + (ds[i] : Int)))).run Tryd.prog W = .ok (.string (tkS 65296 ds (i + 1))) W := fun W =>
                add_str _ W (tk_go hq) (by have := tk_size (.inr (.inr rfl) : 65296 = 48 ∨ 65296 = 1632 ∨ 65296 = 65296) hlt i; have : ds.length ≤ 60 := HB.out; omega) (by have := enc_size2 (.inr (.inr rfl) : 65296 = 48 ∨ 65296 = 1632 ∨ 65296 = 65296) hd10; exact Nat.le_trans this (by omega))
              obtain ⟨d, hd⟩ : ∃ d, d = ds[i] := ⟨_, rfl⟩
              rw [← hd] at hix0 hd10 g1 g2
              clear hd
              have hix : ∀ W : World, (Instr.index 9 (.string (mkS (ds.map (48 + ·)))) (.int .i64 (i : Int))).run Tryd.prog W = .ok (.int .u8 (48 + (d : Int))) W := hix0
              have e5 : IntKind.u8.wrap (48 + (d : Int) - 48) = (d : Int) := by rw [IntKind.wrap_u8]; omega
              clear hix0 ha1 ha2 ha3 ha4 C2 C3 C4 C5 C6
              have hb : ds.length ≤ 60 := HB.out
              go_wp2
              go_roundw
              case rel => exact ⟨i + 1, trivial, rfl, rfl, by first | rfl | go_num, by omega⟩
              case measure => simp only [uOf]; omega
            · have hie : i = ds.length := by omega
              subst hie
              go_wp2_with fail
              refine (show Calls Tryd.prog 12 _ _ _ from C2.out _ O3.out).mono ?_
              rintro e w4 ⟨rfl, o4⟩
              have O4 : Hid (Only (fun _ => False) w w4) := O3.out.trans o4 (fun _ _ g => g)
              clear C2 O3 o4
              go_wp2_with fail
              refine (show Calls Tryd.prog 12 _ _ _ from C3.out _ O4.out).mono ?_
              rintro e w5 ⟨rfl, o5⟩
              have O5 : Hid (Only (fun _ => False) w w5) := O4.out.trans o5 (fun _ _ g => g)
              clear C3 O4 o5
              go_wp2_with fail
              refine (show Calls Tryd.prog 12 _ _ _ from C4.out _ O5.out).mono ?_
              rintro e w6 ⟨rfl, o6⟩
              have O6 : Hid (Only (fun _ => False) w w6) := O5.out.trans o6 (fun _ _ g => g)
              clear C4 O5 o6
              go_wp2_with fail
              refine (show Calls Tryd.prog 17 _ _ _ from C5.out _ O6.out).mono ?_
              rintro e w7 ⟨rfl, o7⟩
              have O7 : Hid (Only (fun _ => False) w w7) := O6.out.trans o7 (fun _ _ g => g)
              clear C5 O6 o7
              go_wp2_with fail
              refine (show Calls Tryd.prog 17 _ _ _ from C6.out _ O7.out).mono ?_
              rintro e w8 ⟨rfl, o8⟩
              have O8 : Hid (Only (fun _ => False) w w8) := O7.out.trans o8 (fun _ _ g => g)
              clear C6 O7 o8
              go_wp2
              go_ret
              exact ⟨rfl, O8.out⟩
        · have A : Asks n ds (0, 11) := asks.2 (by omega)
          have b1 := A.r1
          have b2 := A.r2
          have b3 := A.r3
          have b4 := A.r4
          have b5 := A.n1
          have b6 := A.n3
          rw [← hX1] at b1 b5
          rw [← hX2] at b2
          rw [← hX3] at b3 b6
          rw [← hX4] at b4
          clear A asks hX1 hX2 hX3 hX4
          have C1 : Hid (∀ w1, Only (fun _ => False) w w1 → Calls Tryd.prog 12 #[.string X1] w1 fun e w' => e = .returned (.tuple #[.int .i64 0, .int .i64 11]) ∧ Only (fun _ => False) w1 w') := fun w1 o => by
            have := HM.out X1 w1 o
            rw [b1] at this
            exact this
          have C2 : Hid (∀ w1, Only (fun _ => False) w w1 → Calls Tryd.prog 12 #[.string X2] w1 fun e w' => e = .returned (.tuple #[.int .i64 0, .int .i64 11]) ∧ Only (fun _ => False) w1 w') := fun w1 o => by
            have := HM.out X2 w1 o
            rw [b2] at this
            exact this
          have C3 : Hid (∀ w1, Only (fun _ => False) w w1 → Calls Tryd.prog 12 #[.string X3] w1 fun e w' => e = .returned (.tuple #[.int .i64 0, .int .i64 11]) ∧ Only (fun _ => False) w1 w') := fun w1 o => by
            have := HM.out X3 w1 o
            rw [b3] at this
            exact this
          obtain ⟨v4, hv4⟩ : ∃ v, v = (numR X4).1 := ⟨_, rfl⟩
          have C4 : Hid (∀ w1, Only (fun _ => False) w w1 → Calls Tryd.prog 12 #[.string X4] w1 fun e w' => e = .returned (.tuple #[.int .i64 v4, .int .i64 9]) ∧ Only (fun _ => False) w1 w') := fun w1 o => by
            have := HM.out X4 w1 o
            rw [b4, ← hv4] at this
            exact this
          have C5 : Hid (∀ w1, Only (fun _ => False) w w1 → Calls Tryd.prog 17 #[.string X1] w1 fun e w' => e = .returned (.bool false) ∧ Only (fun _ => False) w1 w') := fun w1 o => by
            have := HN.out X1 w1 o
            rw [b5] at this
            exact this
          have C6 : Hid (∀ w1, Only (fun _ => False) w w1 → Calls Tryd.prog 17 #[.string X3] w1 fun e w' => e = .returned (.bool false) ∧ Only (fun _ => False) w1 w') := fun w1 o => by
            have := HN.out X3 w1 o
            rw [b6] at this
            exact this
          have f2 : n ≤ 1152921504606846975 := by omega
          clear b1 b2 b3 b4 b5 b6 hv4 HM HN HK
          go_wp2_with fail
          refine (show Calls Tryd.prog 12 _ _ _ from C1.out _ O2.out).mono ?_
          rintro e w3 ⟨rfl, o3⟩
          have O3 : Hid (Only (fun _ => False) w w3) := O2.out.trans o3 (fun _ _ g => g)
          clear C1 O2 o3
          go_wp2
          go_loopw [11, 12, 13] (fun a b i w' => ∃ (m : Nat), w' = w3 ∧ a = .string (tkS 1632 ds m) ∧ b = .string (tkS 65296 ds m) ∧ i = .int .i64 (m : Nat) ∧ m ≤ ds.length) (fun _ _ i _ => ds.length + 1 - uOf i)
          case atStart => exact ⟨0, rfl, rfl, rfl, rfl, by omega⟩
          case round =>
            obtain ⟨i, rfl, rfl, rfl, rfl, hi⟩ := hrel
            by_cases hq : i < ds.length
            · have hix0 := fun W => index_mk hlt hq W
              have hd10 : ds[i] < 10 := hlt _ (List.getElem_mem hq)
              have g1 : ∀ W : World, (Op.stringOp .add (tkS 1632 ds i) (Utf8.encode (1632 + (ds[i] : Int)))).run Tryd.prog W = .ok (.string (tkS 1632 ds (i + 1))) W := fun W =>
                add_str _ W (tk_go hq) (by have := tk_size (.inr (.inl rfl) : 1632 = 48 ∨ 1632 = 1632 ∨ 1632 = 65296) hlt i; have : ds.length ≤ 60 := HB.out; omega) (by have := enc_size2 (.inr (.inl rfl) : 1632 = 48 ∨ 1632 = 1632 ∨ 1632 = 65296) hd10; exact Nat.le_trans this (by omega))
              have g2 : ∀ W : World, (Op.stringOp .add (tkS 65296 ds i) (Utf8.encode (65296 + (ds[i] : Int)))).run Tryd.prog W = .ok (.string (tkS 65296 ds (i + 1))) W := fun W =>
                add_str _ W (tk_go hq) (by have := tk_size (.inr (.inr rfl) : 65296 = 48 ∨ 65296 = 1632 ∨ 65296 = 65296) hlt i; have : ds.length ≤ 60 := HB.out; omega) (by have := enc_size2 (.inr (.inr rfl) : 65296 = 48 ∨ 65296 = 1632 ∨ 65296 = 65296) hd10; exact Nat.le_trans this (by omega))
              obtain ⟨d, hd⟩ : ∃ d, d = ds[i] := ⟨_, rfl⟩
              rw [← hd] at hix0 hd10 g1 g2
              clear hd
              have hix : ∀ W : World, (Instr.index 9 (.string (mkS (ds.map (48 + ·)))) (.int .i64 (i : Int))).run Tryd.prog W = .ok (.int .u8 (48 + (d : Int))) W := hix0
              have e5 : IntKind.u8.wrap (48 + (d : Int) - 48) = (d : Int) := by rw [IntKind.wrap_u8]; omega
              clear hix0 ha1 ha2 ha3 ha4 C2 C3 C4 C5 C6
              have hb : ds.length ≤ 60 := HB.out
              go_wp2
              go_roundw
              case rel => exact ⟨i + 1, trivial, rfl, rfl, by first | rfl | go_num, by omega⟩
              case measure => simp only [uOf]; omega
            · have hie : i = ds.length := by omega
              subst hie
              go_wp2_with fail
              refine (show Calls Tryd.prog 12 _ _ _ from C2.out _ O3.out).mono ?_
              rintro e w4 ⟨rfl, o4⟩
              have O4 : Hid (Only (fun _ => False) w w4) := O3.out.trans o4 (fun _ _ g => g)
              clear C2 O3 o4
              go_wp2_with fail
              refine (show Calls Tryd.prog 12 _ _ _ from C3.out _ O4.out).mono ?_
              rintro e w5 ⟨rfl, o5⟩
              have O5 : Hid (Only (fun _ => False) w w5) := O4.out.trans o5 (fun _ _ g => g)
              clear C3 O4 o5
              go_wp2_with fail
              refine (show Calls Tryd.prog 12 _ _ _ from C4.out _ O5.out).mono ?_
              rintro e w6 ⟨rfl, o6⟩
              have O6 : Hid (Only (fun _ => False) w w6) := O5.out.trans o6 (fun _ _ g => g)
              clear C4 O5 o6
              go_wp2_with fail
              refine (show Calls Tryd.prog 17 _ _ _ from C5.out _ O6.out).mono ?_
              rintro e w7 ⟨rfl, o7⟩
              have O7 : Hid (Only (fun _ => False) w w7) := O6.out.trans o7 (fun _ _ g => g)
              clear C5 O6 o7
              go_wp2_with fail
              refine (show Calls Tryd.prog 17 _ _ _ from C6.out _ O7.out).mono ?_
              rintro e w8 ⟨rfl, o8⟩
              have O8 : Hid (Only (fun _ => False) w w8) := O7.out.trans o8 (fun _ _ g => g)
              clear C6 O7 o8
              go_wp2
              go_ret
              exact ⟨rfl, O8.out⟩
  · rw [show mnB (decide (n < 0)) ++ mkS (ds0.map (48 + ·)) = mkS (ds0.map (48 + ·)) by rw [show decide (n < 0) = false by simp; omega]; exact app_mk [] _]
    have HL : Hid ((⟨#[]⟩ : ByteArray) = mnB (decide (n < 0))) := by
      have : decide (n < 0) = false := by simp; omega
      show (⟨#[]⟩ : ByteArray) = mnB (decide (n < 0))
      rw [this]
      rfl
    go_wp2
    go_loopw [5, 7] (fun s i w' => ∃ (ds : List Nat) (m : Nat), w' = w2 ∧ s = .string (mkS (ds.map (48 + ·))) ∧ i = .int .i64 (m : Nat) ∧ m ≤ 40 ∧ Hid (Ds N m ds)) (fun _ i _ => 41 - uOf i)
    case atStart => exact ⟨ds0, 0, rfl, rfl, rfl, by omega, H0.out⟩
    case round =>
      obtain ⟨ds, m, rfl, rfl, rfl, hm, HI⟩ := hrel
      clear H0
      have hln := mk_size ds HI.out.lt
      have hl2 := HI.out.len
      by_cases hk : (m : Int) < k % 40
      · have had : ∀ W : World, (Op.stringOp .add (⟨#[48]⟩ : ByteArray) (mkS (ds.map (48 + ·)))).run Tryd.prog W = .ok (.string (mkS ((0 :: ds).map (48 + ·)))) W := fun W =>
          add_str _ W (mk_cons (d := 0) (by omega) ds) (by have : (ByteArray.mk #[48]).size = 1 := rfl; omega) (by omega)
        have HJ : Hid (Ds N (m + 1) (0 :: ds)) := HI.out.nought
        clear HI hln hl2
        go_wp2
        go_roundw
        case rel => exact ⟨0 :: ds, m + 1, trivial, rfl, by first | rfl | go_num, by omega, HJ.out⟩
        case measure => simp only [uOf]; omega
      · have hlt := HI.out.lt
        have asks := HK.out ds _ HI.out
        have HB : Hid (ds.length ≤ 60) := (by omega : ds.length ≤ 60)
        have hm1 := mn_size (decide (n < 0))
        have z1 := tk_size (.inr (.inl rfl) : 1632 = 48 ∨ 1632 = 1632 ∨ 1632 = 65296) hlt ds.length
        have z2 := tk_size (.inr (.inr rfl) : 65296 = 48 ∨ 65296 = 1632 ∨ 65296 = 65296) hlt ds.length
        rw [tk_all _ _ (Nat.le_refl _)] at z1 z2
        obtain ⟨X1, hX1⟩ : ∃ X, X = mnB (decide (n < 0)) ++ mkS (ds.map (48 + ·)) := ⟨_, rfl⟩
        obtain ⟨X2, hX2⟩ : ∃ X, X = mnB (decide (n < 0)) ++ mkS (ds.map (1632 + ·)) := ⟨_, rfl⟩
        obtain ⟨X3, hX3⟩ : ∃ X, X = mnB (decide (n < 0)) ++ mkS (ds.map (65296 + ·)) := ⟨_, rfl⟩
        obtain ⟨X4, hX4⟩ : ∃ X, X = mnB (decide (n < 0)) ++ mkS (ds.map (1632 + ·) ++ [48]) := ⟨_, rfl⟩
        have s2 : X2.size ≤ 1000 := by rw [hX2, ByteArray.size_append]; omega
        have ha1 : ∀ W : World, (Op.stringOp .add (⟨#[]⟩ : ByteArray) (mkS (ds.map (48 + ·)))).run Tryd.prog W = .ok (.string X1) W := fun W => by
          rw [show (⟨#[]⟩ : ByteArray) = mnB (decide (n < 0)) from HL.out]
          exact add_str _ W hX1.symm (by omega) (by omega)
        have ha2 : ∀ W : World, (Op.stringOp .add (⟨#[]⟩ : ByteArray) (tkS 1632 ds ds.length)).run Tryd.prog W = .ok (.string X2) W := fun W => by
          rw [show (⟨#[]⟩ : ByteArray) = mnB (decide (n < 0)) from HL.out, tk_all _ _ (Nat.le_refl _)]
          exact add_str _ W hX2.symm (by omega) (by omega)
        have ha3 : ∀ W : World, (Op.stringOp .add (⟨#[]⟩ : ByteArray) (tkS 65296 ds ds.length)).run Tryd.prog W = .ok (.string X3) W := fun W => by
          rw [show (⟨#[]⟩ : ByteArray) = mnB (decide (n < 0)) from HL.out, tk_all _ _ (Nat.le_refl _)]
          exact add_str _ W hX3.symm (by omega) (by omega)
        have ha4 : ∀ W : World, (Op.stringOp .add X2 (⟨#[48]⟩ : ByteArray)).run Tryd.prog W = .ok (.string X4) W := fun W =>
          add_str _ W (by rw [hX2, hX4, mk_nought, ByteArray.append_assoc, mk_app]) (by omega) (by have : (ByteArray.mk #[48]).size = 1 := rfl; omega)
        have hen : ∀ W : World, (Instr.index 9 (.string (mkS (ds.map (48 + ·)))) (.int .i64 0)).run Tryd.prog W = (Instr.index 9 (.string (mkS (ds.map (48 + ·)))) (.int .i64 0)).run Tryd.prog W := fun W => rfl
        clear hen
        clear hm1 z1 z2 s2
        have hsz : (mkS (ds.map (48 + ·))).size = ds.length := hln
        by_cases hf : n ≤ 1152921504606846975
        · have A : Asks n ds (n, 0) := asks.1 (by omega)
          have b1 := A.r1
          have b2 := A.r2
          have b3 := A.r3
          have b4 := A.r4
          have b5 := A.n1
          have b6 := A.n3
          rw [← hX1] at b1 b5
          rw [← hX2] at b2
          rw [← hX3] at b3 b6
          rw [← hX4] at b4
          clear A asks hX1 hX2 hX3 hX4
          have C1 : Hid (∀ w1, Only (fun _ => False) w w1 → Calls Tryd.prog 12 #[.string X1] w1 fun e w' => e = .returned (.tuple #[.int .i64 n, .int .i64 0]) ∧ Only (fun _ => False) w1 w') := fun w1 o => by
            have := HM.out X1 w1 o
            rw [b1] at this
            exact this
          have C2 : Hid (∀ w1, Only (fun _ => False) w w1 → Calls Tryd.prog 12 #[.string X2] w1 fun e w' => e = .returned (.tuple #[.int .i64 n, .int .i64 0]) ∧ Only (fun _ => False) w1 w') := fun w1 o => by
            have := HM.out X2 w1 o
            rw [b2] at this
            exact this
          have C3 : Hid (∀ w1, Only (fun _ => False) w w1 → Calls Tryd.prog 12 #[.string X3] w1 fun e w' => e = .returned (.tuple #[.int .i64 n, .int .i64 0]) ∧ Only (fun _ => False) w1 w') := fun w1 o => by
            have := HM.out X3 w1 o
            rw [b3] at this
            exact this
          obtain ⟨v4, hv4⟩ : ∃ v, v = (numR X4).1 := ⟨_, rfl⟩
          have C4 : Hid (∀ w1, Only (fun _ => False) w w1 → Calls Tryd.prog 12 #[.string X4] w1 fun e w' => e = .returned (.tuple #[.int .i64 v4, .int .i64 9]) ∧ Only (fun _ => False) w1 w') := fun w1 o => by
            have := HM.out X4 w1 o
            rw [b4, ← hv4] at this
            exact this
          have C5 : Hid (∀ w1, Only (fun _ => False) w w1 → Calls Tryd.prog 17 #[.string X1] w1 fun e w' => e = .returned (.bool false) ∧ Only (fun _ => False) w1 w') := fun w1 o => by
            have := HN.out X1 w1 o
            rw [b5] at this
            exact this
          have C6 : Hid (∀ w1, Only (fun _ => False) w w1 → Calls Tryd.prog 17 #[.string X3] w1 fun e w' => e = .returned (.bool false) ∧ Only (fun _ => False) w1 w') := fun w1 o => by
            have := HN.out X3 w1 o
            rw [b6] at this
            exact this
          have f2 : -1152921504606846976 ≤ n := by omega
          clear b1 b2 b3 b4 b5 b6 hv4 HM HN HK
          go_wp2_with fail
          refine (show Calls Tryd.prog 12 _ _ _ from C1.out _ O2.out).mono ?_
          rintro e w3 ⟨rfl, o3⟩
          have O3 : Hid (Only (fun _ => False) w w3) := O2.out.trans o3 (fun _ _ g => g)
          clear C1 O2 o3
          go_wp2
          go_loopw [11, 12, 13] (fun a b i w' => ∃ (m : Nat), w' = w3 ∧ a = .string (tkS 1632 ds m) ∧ b = .string (tkS 65296 ds m) ∧ i = .int .i64 (m : Nat) ∧ m ≤ ds.length) (fun _ _ i _ => ds.length + 1 - uOf i)
          case atStart => exact ⟨0, rfl, rfl, rfl, rfl, by omega⟩
          case round =>
            obtain ⟨i, rfl, rfl, rfl, rfl, hi⟩ := hrel
            by_cases hq : i < ds.length
            · have hix0 := fun W => index_mk hlt hq W
              have hd10 : ds[i] < 10 := hlt _ (List.getElem_mem hq)
              have g1 : ∀ W : World, (Op.stringOp .add (tkS 1632 ds i) (Utf8.encode (1632 + (ds[i] : Int)))).run Tryd.prog W = .ok (.string (tkS 1632 ds (i + 1))) W := fun W =>
                add_str _ W (tk_go hq) (by have := tk_size (.inr (.inl rfl) : 1632 = 48 ∨ 1632 = 1632 ∨ 1632 = 65296) hlt i; have : ds.length ≤ 60 := HB.out; omega) (by have := enc_size2 (.inr (.inl rfl) : 1632 = 48 ∨ 1632 = 1632 ∨ 1632 = 65296) hd10; exact Nat.le_trans this (by omega))
              have g2 : ∀ W : World, (Op.stringOp .add (tkS 65296 ds i) (Utf8.encode (65296 + (ds[i] : Int)))).run Tryd.prog W = .ok (.string (tkS 65296 ds (i + 1))) W := fun W =>
                add_str _ W (tk_go hq) (by have := tk_size (.inr (.inr rfl) : 65296 = 48 ∨ 65296 = 1632 ∨ 65296 = 65296) hlt i; have : ds.length ≤ 60 := HB.out; omega) (by have := enc_size2 (.inr (.inr rfl) : 65296 = 48 ∨ 65296 = 1632 ∨ 65296 = 65296) hd10; exact Nat.le_trans this (by omega))
              obtain ⟨d, hd⟩ : ∃ d, d = ds[i] := ⟨_, rfl⟩
              rw [← hd] at hix0 hd10 g1 g2
              clear hd
              have hix : ∀ W : World, (Instr.index 9 (.string (mkS (ds.map (48 + ·)))) (.int .i64 (i : Int))).run Tryd.prog W = .ok (.int .u8 (48 + (d : Int))) W := hix0
              have e5 : IntKind.u8.wrap (48 + (d : Int) - 48) = (d : Int) := by rw [IntKind.wrap_u8]; omega
              clear hix0 ha1 ha2 ha3 ha4 C2 C3 C4 C5 C6
              have hb : ds.length ≤ 60 := HB.out
              go_wp2
              go_roundw
              case rel => exact ⟨i + 1, trivial, rfl, rfl, by first | rfl | go_num, by omega⟩
              case measure => simp only [uOf]; omega
            · have hie : i = ds.length := by omega
              subst hie
              go_wp2_with fail
              refine (show Calls Tryd.prog 12 _ _ _ from C2.out _ O3.out).mono ?_
              rintro e w4 ⟨rfl, o4⟩
              have O4 : Hid (Only (fun _ => False) w w4) := O3.out.trans o4 (fun _ _ g => g)
              clear C2 O3 o4
              go_wp2_with fail
              refine (show Calls Tryd.prog 12 _ _ _ from C3.out _ O4.out).mono ?_
              rintro e w5 ⟨rfl, o5⟩
              have O5 : Hid (Only (fun _ => False) w w5) := O4.out.trans o5 (fun _ _ g => g)
              clear C3 O4 o5
              go_wp2_with fail
              refine (show Calls Tryd.prog 12 _ _ _ from C4.out _ O5.out).mono ?_
              rintro e w6 ⟨rfl, o6⟩
              have O6 : Hid (Only (fun _ => False) w w6) := O5.out.trans o6 (fun _ _ g => g)
              clear C4 O5 o6
              go_wp2_with fail
              refine (show Calls Tryd.prog 17 _ _ _ from C5.out _ O6.out).mono ?_
              rintro e w7 ⟨rfl, o7⟩
              have O7 : Hid (Only (fun _ => False) w w7) := O6.out.trans o7 (fun _ _ g => g)
              clear C5 O6 o7
              go_wp2_with fail
              refine (show Calls Tryd.prog 17 _ _ _ from C6.out _ O7.out).mono ?_
              rintro e w8 ⟨rfl, o8⟩
              have O8 : Hid (Only (fun _ => False) w w8) := O7.out.trans o8 (fun _ _ g => g)
              clear C6 O7 o8
              go_wp2
              go_ret
              exact ⟨rfl, O8.out⟩
        · have A : Asks n ds (0, 11) := asks.2 (by omega)
          have b1 := A.r1
          have b2 := A.r2
          have b3 := A.r3
          have b4 := A.r4
          have b5 := A.n1
          have b6 := A.n3
          rw [← hX1] at b1 b5
          rw [← hX2] at b2
          rw [← hX3] at b3 b6
          rw [← hX4] at b4
          clear A asks hX1 hX2 hX3 hX4
          have C1 : Hid (∀ w1, Only (fun _ => False) w w1 → Calls Tryd.prog 12 #[.string X1] w1 fun e w' => e = .returned (.tuple #[.int .i64 0, .int .i64 11]) ∧ Only (fun _ => False) w1 w') := fun w1 o => by
            have := HM.out X1 w1 o
            rw [b1] at this
            exact this
          have C2 : Hid (∀ w1, Only (fun _ => False) w w1 → Calls Tryd.prog 12 #[.string X2] w1 fun e w' => e = .returned (.tuple #[.int .i64 0, .int .i64 11]) ∧ Only (fun _ => False) w1 w') := fun w1 o => by
            have := HM.out X2 w1 o
            rw [b2] at this
            exact this
          have C3 : Hid (∀ w1, Only (fun _ => False) w w1 → Calls Tryd.prog 12 #[.string X3] w1 fun e w' => e = .returned (.tuple #[.int .i64 0, .int .i64 11]) ∧ Only (fun _ => False) w1 w') := fun w1 o => by
            have := HM.out X3 w1 o
            rw [b3] at this
            exact this
          obtain ⟨v4, hv4⟩ : ∃ v, v = (numR X4).1 := ⟨_, rfl⟩
          have C4 : Hid (∀ w1, Only (fun _ => False) w w1 → Calls Tryd.prog 12 #[.string X4] w1 fun e w' => e = .returned (.tuple #[.int .i64 v4, .int .i64 9]) ∧ Only (fun _ => False) w1 w') := fun w1 o => by
            have := HM.out X4 w1 o
            rw [b4, ← hv4] at this
            exact this
          have C5 : Hid (∀ w1, Only (fun _ => False) w w1 → Calls Tryd.prog 17 #[.string X1] w1 fun e w' => e = .returned (.bool false) ∧ Only (fun _ => False) w1 w') := fun w1 o => by
            have := HN.out X1 w1 o
            rw [b5] at this
            exact this
          have C6 : Hid (∀ w1, Only (fun _ => False) w w1 → Calls Tryd.prog 17 #[.string X3] w1 fun e w' => e = .returned (.bool false) ∧ Only (fun _ => False) w1 w') := fun w1 o => by
            have := HN.out X3 w1 o
            rw [b6] at this
            exact this
          have f2 : -1152921504606846976 ≤ n := by omega
          clear b1 b2 b3 b4 b5 b6 hv4 HM HN HK
          go_wp2_with fail
          refine (show Calls Tryd.prog 12 _ _ _ from C1.out _ O2.out).mono ?_
          rintro e w3 ⟨rfl, o3⟩
          have O3 : Hid (Only (fun _ => False) w w3) := O2.out.trans o3 (fun _ _ g => g)
          clear C1 O2 o3
          go_wp2
          go_loopw [11, 12, 13] (fun a b i w' => ∃ (m : Nat), w' = w3 ∧ a = .string (tkS 1632 ds m) ∧ b = .string (tkS 65296 ds m) ∧ i = .int .i64 (m : Nat) ∧ m ≤ ds.length) (fun _ _ i _ => ds.length + 1 - uOf i)
          case atStart => exact ⟨0, rfl, rfl, rfl, rfl, by omega⟩
          case round =>
            obtain ⟨i, rfl, rfl, rfl, rfl, hi⟩ := hrel
            by_cases hq : i < ds.length
            · have hix0 := fun W => index_mk hlt hq W
              have hd10 : ds[i] < 10 := hlt _ (List.getElem_mem hq)
              have g1 : ∀ W : World, (Op.stringOp .add (tkS 1632 ds i) (Utf8.encode (1632 + (ds[i] : Int)))).run Tryd.prog W = .ok (.string (tkS 1632 ds (i + 1))) W := fun W =>
                add_str _ W (tk_go hq) (by have := tk_size (.inr (.inl rfl) : 1632 = 48 ∨ 1632 = 1632 ∨ 1632 = 65296) hlt i; have : ds.length ≤ 60 := HB.out; omega) (by have := enc_size2 (.inr (.inl rfl) : 1632 = 48 ∨ 1632 = 1632 ∨ 1632 = 65296) hd10; exact Nat.le_trans this (by omega))
              have g2 : ∀ W : World, (Op.stringOp .add (tkS 65296 ds i) (Utf8.encode (65296 + (ds[i] : Int)))).run Tryd.prog W = .ok (.string (tkS 65296 ds (i + 1))) W := fun W =>
                add_str _ W (tk_go hq) (by have := tk_size (.inr (.inr rfl) : 65296 = 48 ∨ 65296 = 1632 ∨ 65296 = 65296) hlt i; have : ds.length ≤ 60 := HB.out; omega) (by have := enc_size2 (.inr (.inr rfl) : 65296 = 48 ∨ 65296 = 1632 ∨ 65296 = 65296) hd10; exact Nat.le_trans this (by omega))
              obtain ⟨d, hd⟩ : ∃ d, d = ds[i] := ⟨_, rfl⟩
              rw [← hd] at hix0 hd10 g1 g2
              clear hd
              have hix : ∀ W : World, (Instr.index 9 (.string (mkS (ds.map (48 + ·)))) (.int .i64 (i : Int))).run Tryd.prog W = .ok (.int .u8 (48 + (d : Int))) W := hix0
              have e5 : IntKind.u8.wrap (48 + (d : Int) - 48) = (d : Int) := by rw [IntKind.wrap_u8]; omega
              clear hix0 ha1 ha2 ha3 ha4 C2 C3 C4 C5 C6
              have hb : ds.length ≤ 60 := HB.out
              go_wp2
              go_roundw
              case rel => exact ⟨i + 1, trivial, rfl, rfl, by first | rfl | go_num, by omega⟩
              case measure => simp only [uOf]; omega
            · have hie : i = ds.length := by omega
              subst hie
              go_wp2_with fail
              refine (show Calls Tryd.prog 12 _ _ _ from C2.out _ O3.out).mono ?_
              rintro e w4 ⟨rfl, o4⟩
              have O4 : Hid (Only (fun _ => False) w w4) := O3.out.trans o4 (fun _ _ g => g)
              clear C2 O3 o4
              go_wp2_with fail
              refine (show Calls Tryd.prog 12 _ _ _ from C3.out _ O4.out).mono ?_
              rintro e w5 ⟨rfl, o5⟩
              have O5 : Hid (Only (fun _ => False) w w5) := O4.out.trans o5 (fun _ _ g => g)
              clear C3 O4 o5
              go_wp2_with fail
              refine (show Calls Tryd.prog 12 _ _ _ from C4.out _ O5.out).mono ?_
              rintro e w6 ⟨rfl, o6⟩
              have O6 : Hid (Only (fun _ => False) w w6) := O5.out.trans o6 (fun _ _ g => g)
              clear C4 O5 o6
              go_wp2_with fail
              refine (show Calls Tryd.prog 17 _ _ _ from C5.out _ O6.out).mono ?_
              rintro e w7 ⟨rfl, o7⟩
              have O7 : Hid (Only (fun _ => False) w w7) := O6.out.trans o7 (fun _ _ g => g)
              clear C5 O6 o7
              go_wp2_with fail
              refine (show Calls Tryd.prog 17 _ _ _ from C6.out _ O7.out).mono ?_
              rintro e w8 ⟨rfl, o8⟩
              have O8 : Hid (Only (fun _ => False) w w8) := O7.out.trans o8 (fun _ _ g => g)
              clear C6 O7 o8
              go_wp2
              go_ret
              exact ⟨rfl, O8.out⟩
end Go.Proofs.YtbijiigobbjlcaaDoor
