/- LexQuotes: the walk. -/
import Derived.Test.YtbijiigobbjlcaaDoorLx32
namespace Go.Proofs.YtbijiigobbjlcaaDoor
open Go.RowKit Go.Lib
set_option linter.unusedSimpArgs false
set_option linter.unusedVariables false
theorem quotes_toks {s : ByteArray} (h : ¬ stR s < s.size) (hz : ¬ 4096 < s.size) : ∃ b c : Int, tokR (⟨#[100, 117, 112, 32]⟩ ++ tx ([34] ++ quo (rns s) ++ [34]) ++ ⟨#[115, 119, 97, 112, 32]⟩ ++ tx ([34] ++ quo (rns s) ++ [34])) = ([⟨1, ⟨#[100, 117, 112]⟩, 0, 0⟩, ⟨3, s, 0, 4⟩, ⟨1, ⟨#[115, 119, 97, 112]⟩, 0, b⟩, ⟨3, s, 0, c⟩], 0, 0) ∧ (tx ([34] ++ quo (rns s) ++ [34])).size ≤ 10000 := by
  obtain ⟨l, hv, e⟩ := valid_tx h
  have hl : wl l ≤ 4096 := by rw [← tx_size, ← e]; omega
  obtain ⟨b, c, g⟩ := quotes_pure hv hl
  refine ⟨b, c, ?_, ?_⟩
  · rw [e, rns_tx hv]
    have e1 : (⟨#[100, 117, 112, 32]⟩ : ByteArray) = tx [100, 117, 112, 32] := rfl
    have e2 : (⟨#[115, 119, 97, 112, 32]⟩ : ByteArray) = tx [115, 119, 97, 112, 32] := rfl
    rw [e1, e2, tx_app, tx_app, tx_app, g]
    rfl
  · rw [e, rns_tx hv, tx_size, wl_app, wl_app]
    have := quo_wl l
    have : wl [34] = 1 := by decide
    omega
set_option maxRecDepth 100000 in
set_option maxHeartbeats 1000000 in
theorem quotes_walk (s : ByteArray) (hs : s.size ≤ 1048576) (n : Int) (w : World) (h : Nog w) : Calls Tryd.prog 4 #[.string s, .int .i64 n] w fun e w' => e = .returned (.bool true) ∧ Below w.heap.size w w' := by
  have HA : Hid (Calls Tryd.prog 9 #[] w fun e w' => e = .returned (.bool true) ∧ Only (fun _ => False) w w') := awake_any w h
  have HT : Hid (∀ x w1, Only (fun _ => False) w w1 → Calls Tryd.prog 10 #[.string x] w1 fun e w' => ∃ v, e = .returned (.tuple #[v, .int .i64 ((tokR x).2.1 : Nat), .int .i64 (tokR x).2.2]) ∧ Hid (ToksAt w' w1.heap.size v (tokR x).1 ∧ Below w1.heap.size w1 w')) := fun x w1 o => tokens_any x w1 (h.frame o)
  have HQ : Hid (∀ w1, Calls Tryd.prog 14 #[.string s] w1 fun e w' => e = .returned (.tuple #[.string (quoR s).1, .int .i64 (quoR s).2]) ∧ Hid (Below w1.heap.size w1 w')) := fun w1 => quoted_any s (by omega) w1
  have HB : Hid (∀ w1, Calls Tryd.prog 19 #[.string s] w1 fun e w' => e = .returned (.int .i64 (badR s)) ∧ Only (fun _ => False) w1 w') := fun w1 => bad_any s (by omega) w1
  have hq : quoR s = if stR s < s.size then (⟨#[]⟩, 8) else if 4096 < s.size then (⟨#[]⟩, 11) else (tx ([34] ++ quo (rns s) ++ [34]), 0) := rfl
  have hbr : badR s = if stR s < s.size then (stR s : Int) else -1 := rfl
  have HP : Hid (¬ stR s < s.size → ¬ 4096 < s.size → ∃ b c : Int, tokR (⟨#[100, 117, 112, 32]⟩ ++ tx ([34] ++ quo (rns s) ++ [34]) ++ ⟨#[115, 119, 97, 112, 32]⟩ ++ tx ([34] ++ quo (rns s) ++ [34])) = ([⟨1, ⟨#[100, 117, 112]⟩, 0, 0⟩, ⟨3, s, 0, 4⟩, ⟨1, ⟨#[115, 119, 97, 112]⟩, 0, b⟩, ⟨3, s, 0, c⟩], 0, 0) ∧ (tx ([34] ++ quo (rns s) ++ [34])).size ≤ 10000) := quotes_toks
  obtain ⟨Q, hQ⟩ : ∃ Q, Q = tx ([34] ++ quo (rns s) ++ [34]) := ⟨_, rfl⟩
  rw [← hQ] at hq HP
  clear hQ h
  go_enter Tryd.func4, Tryd.ntmps4
  go_wp2_with fail
  refine (show Calls Tryd.prog 9 _ _ _ from HA.out).mono ?_
  rintro ea w1 ⟨rfl, o1⟩
  have O1 : Hid (Only (fun _ => False) w w1) := o1
  clear HA o1
  by_cases hb : stR s < s.size
  · rw [if_pos hb] at hq hbr
    rw [hq] at HQ
    rw [hbr] at HB
    dsimp only at HQ
    have b2 : (0 : Int) ≤ (stR s : Int) := Int.natCast_nonneg _
    obtain ⟨z, hz⟩ : ∃ z, z = stR s := ⟨_, rfl⟩
    rw [← hz] at HB b2
    clear hq hbr hb HP HT hz
    go_wp2_with fail
    refine (show Calls Tryd.prog 14 _ _ _ from HQ.out _).mono ?_
    rintro eb w2 ⟨rfl, g2⟩
    have O2 : Hid (Only (fun _ => False) w w2) := O1.out.trans (below_only g2.out) (fun _ _ x => x)
    clear HQ g2 O1
    go_wp2_with fail
    refine (show Calls Tryd.prog 19 _ _ _ from HB.out _).mono ?_
    rintro ec w3 ⟨rfl, o3⟩
    have O3 : Hid (Only (fun _ => False) w w3) := O2.out.trans o3 (fun _ _ x => x)
    clear HB o3 O2
    go_wp2
    go_ret
    exact ⟨rfl, only_below O3.out⟩
  · rw [if_neg hb] at hq
    by_cases hl : 4096 < s.size
    · rw [if_pos hl] at hq
      rw [hq] at HQ
      dsimp only at HQ
      have i1 : (4096 : Int) < (s.size : Int) := by omega
      clear hq hbr hb HP HT hl HB
      go_wp2_with fail
      refine (show Calls Tryd.prog 14 _ _ _ from HQ.out _).mono ?_
      rintro eb w2 ⟨rfl, g2⟩
      have O2 : Hid (Only (fun _ => False) w w2) := O1.out.trans (below_only g2.out) (fun _ _ x => x)
      clear HQ g2 O1
      go_wp2
      go_ret
      exact ⟨rfl, only_below O2.out⟩
    · rw [if_neg hl] at hq
      rw [hq] at HQ
      dsimp only at HQ
      obtain ⟨b, c, hj, hz⟩ := HP.out hb hl
      have HC := HT.out (⟨#[100, 117, 112, 32]⟩ ++ Q ++ ⟨#[115, 119, 97, 112, 32]⟩ ++ Q)
      rw [hj] at HC
      dsimp only at HC
      have n4 : (⟨#[100, 117, 112, 32]⟩ : ByteArray).size = 4 := rfl
      have n5 : (⟨#[115, 119, 97, 112, 32]⟩ : ByteArray).size = 5 := rfl
      obtain ⟨S1, hS1⟩ : ∃ S1, S1 = ⟨#[100, 117, 112, 32]⟩ ++ Q := ⟨_, rfl⟩
      have hz1 : S1.size = 4 + Q.size := by rw [hS1, ByteArray.size_append]; rfl
      have a1 : ∀ W : World, (Op.stringOp .add ⟨#[100, 117, 112, 32]⟩ Q).run Tryd.prog W = .ok (.string S1) W := fun W => add_str _ W hS1.symm (by omega) (by omega)
      obtain ⟨S2, hS2⟩ : ∃ S2, S2 = S1 ++ ⟨#[115, 119, 97, 112, 32]⟩ := ⟨_, rfl⟩
      have hz2 : S2.size = 4 + Q.size + 5 := by rw [hS2, ByteArray.size_append, hz1]; rfl
      have a2 : ∀ W : World, (Op.stringOp .add S1 ⟨#[115, 119, 97, 112, 32]⟩).run Tryd.prog W = .ok (.string S2) W := fun W => add_str _ W hS2.symm (by omega) (by omega)
      obtain ⟨S3, hS3⟩ : ∃ S3, S3 = S2 ++ Q := ⟨_, rfl⟩
      have a3 : ∀ W : World, (Op.stringOp .add S2 Q).run Tryd.prog W = .ok (.string S3) W := fun W => add_str _ W hS3.symm (by omega) (by omega)
      rw [← hS1, ← hS2, ← hS3] at HC
      have HD : Hid (∀ w1, Only (fun _ => False) w w1 → Calls Tryd.prog 10 #[.string S3] w1 _) := HC
      clear HC hj HP HT hS1 hS2 hS3 n4 n5 hz1 hz2 hz hb hl hq hbr HB
      go_wp2_with fail
      refine (show Calls Tryd.prog 14 _ _ _ from HQ.out _).mono ?_
      rintro eb w2 ⟨rfl, g2⟩
      have O2 : Hid (Only (fun _ => False) w w2) := O1.out.trans (below_only g2.out) (fun _ _ x => x)
      clear HQ g2 O1
      go_wp2_with fail
      refine (show Calls Tryd.prog 10 _ _ _ from HD.out _ O2.out).mono ?_
      rintro ed w4 ⟨v2, rfl, g2⟩
      have O4 : Hid (Only (fun _ => False) w w4) := O2.out.trans (below_only g2.out.2) (fun _ _ x => x)
      obtain ⟨gg, cap, rfl, _, _, c0, c1, c2, c3⟩ := toks_cells g2.out.1 (i := 1) rfl
      obtain ⟨gg2, cap2, hv2, _, _, d0, d1, d2, d3⟩ := toks_cells g2.out.1 (i := 2) rfl
      obtain ⟨gg3, cap3, hv3, _, _, e0, e1, e2, e3⟩ := toks_cells g2.out.1 (i := 3) rfl
      injection hv2 with v1 v2 v3
      injection v1 with v1
      injection v1 with v1
      subst v1
      injection hv3 with u1 u2 u3
      injection u1 with u1
      injection u1 with u1
      subst u1
      simp only [List.length_cons, List.length_nil] at c0 c1 c2 c3 d0 d1 d2 d3 e0 e1 e2 e3 ⊢
      clear HD g2 O2 v2 v3 u2 u3
      go_wp2
      go_ret
      exact ⟨rfl, only_below O4.out⟩
end Go.Proofs.YtbijiigobbjlcaaDoor
