/- The document's str: a string's token, character by character. -/
import Derived.Test.YtbijiigobbjlcaaDoorLx38
namespace Go.Proofs.YtbijiigobbjlcaaDoor
open Go.RowKit Go.Lib
set_option linter.unusedSimpArgs false
set_option linter.unusedVariables false
/-- What the document's str answers: text, index or place, error. -/
def rstr (first : Nat) : Nat → List Chr → Nat → List Nat → List Nat × Nat × Int
  | 0, _, _, _ => ([], first, 9)
  | _ + 1, [], _, _ => ([], first, 9)
  | f + 1, t :: r, j, out =>
    if t.r = 34 then (if 4096 < (tx out).size then ([], first, 11) else (out, j + 1, 0))
    else if t.r = 92 then match r.head? with
      | none => ([], t.a, 9)
      | some u => if u.r = 110 then rstr first f r.tail (j + 2) (out ++ [10]) else if u.r = 34 ∨ u.r = 92 then rstr first f r.tail (j + 2) (out ++ [u.r]) else ([], t.a, 9)
    else rstr first f r (j + 1) (out ++ [t.r])
def strV (x : List Nat × Nat × Int) : Value := .tuple #[.string (tx x.1), .int .i64 (x.2.1 : Int), .int .i64 x.2.2]
theorem drop_cons {α : Type} {l : List α} {k : Nat} {t : α} (h : l[k]? = some t) : l.drop k = t :: l.drop (k + 1) := by
  have hi := (List.getElem?_eq_some_iff.1 h).1
  rw [← (List.getElem?_eq_some_iff.1 h).2]
  exact List.drop_eq_getElem_cons hi
set_option maxRecDepth 100000 in
set_option maxHeartbeats 1000000 in
theorem rstr_any (l : List Chr) (hl : l.length ≤ 65536) (hv : ∀ t ∈ l, Vr t.r) (k : Nat) (t0 : Chr) (hk : l[k]? = some t0) (v : Value) (w : World) (h : RdC w v l) :
    Calls Tryd.prog 26 #[v, .int .i64 (k : Int)] w fun e w' => e = .returned (strV (rstr t0.a (l.length + 1) (l.drop (k + 1)) (k + 1) [])) ∧ Only (fun _ => False) w w' := by
  obtain ⟨ao, cap, rfl, hcap, fL⟩ := h
  have hkl := (List.getElem?_eq_some_iff.1 hk).1
  obtain ⟨g, o, rfl, hg, _, x1, _, _⟩ := fL k t0 hk
  obtain ⟨a0, ha0⟩ : ∃ a0, a0 = t0.a := ⟨_, rfl⟩
  rw [← ha0] at x1 ⊢
  obtain ⟨Z, hZ⟩ : ∃ Z, Z = rstr a0 (l.length + 1) (l.drop (k + 1)) (k + 1) [] := ⟨_, rfl⟩
  have HZ : Hid (Z = rstr a0 (l.length + 1) (l.drop (k + 1)) (k + 1) []) := hZ
  rw [← hZ]
  have HF : Hid (∀ i t, l[i]? = some t → Vr t.r ∧ w.cell? ⟨g, o + i * 4, none⟩ = some (.int .i32 (t.r : Int)) ∧ w.cell? ⟨g, o + i * 4 + 1, none⟩ = some (.int .i64 (t.a : Int))) := fun i t ht => by
    obtain ⟨g', o', eg, _, y0, y1, _, _⟩ := fL i t ht
    injection eg with eg
    injection eg with eg1 eg2
    subst eg1
    subst eg2
    exact ⟨hv t (List.mem_of_getElem? ht), y0, y1⟩
  obtain ⟨m, hm⟩ : ∃ m, m = l.length := ⟨_, rfl⟩
  have HM : Hid (m = l.length) := hm
  have hmm : m ≤ 65536 := by omega
  have hkm : k < m := by omega
  rw [← hm] at HZ ⊢
  clear fL hv hZ hm hk ha0 hg hkl hl hcap
  have k0 : (0 : Int) ≤ (k : Int) := Int.natCast_nonneg _
  have k1 : (k : Int) < (m : Int) := by omega
  go_enter Tryd.func26, Tryd.ntmps26
  go_wp2
  go_loopw [7, 9] (fun r7 r9 wr => ∃ (j : Nat) (out : List Nat), j ≤ m ∧ r7 = .string (tx out) ∧ r9 = .int .i64 (j : Int) ∧ Hid (Only (fun _ => False) w wr ∧ (∃ f, m - j < f ∧ Z = rstr a0 f (l.drop j) j out) ∧ (tx out).size ≤ 4 * j)) (fun _ r9 _ => m - uOf r9)
  case atStart => exact ⟨k + 1, [], by omega, rfl, by go_num, Only.refl _ _, ⟨m + 1, by omega, HZ.out⟩, by rw [tx_size]; exact Nat.zero_le _⟩
  case round =>
    obtain ⟨j, out, hj, rfl, rfl, HI⟩ := hrel
    obtain ⟨w5, rfl⟩ : ∃ w5, w5 = wr := ⟨_, rfl⟩
    clear HZ
    by_cases hlt : j < m
    · have hlt2 : j < l.length := by have : m = l.length := HM.out; omega
      obtain ⟨t, ht⟩ : ∃ t, t = l[j]'hlt2 := ⟨_, rfl⟩
      have ht2 : l[j]? = some t := by rw [ht]; exact List.getElem?_eq_getElem _
      obtain ⟨hvr, y0, y1⟩ := HF.out j t ht2
      have hd := drop_cons ht2
      obtain ⟨f, hf, hZf⟩ := HI.out.2.1
      obtain ⟨f, rfl⟩ : ∃ f', f = f' + 1 := ⟨f - 1, by omega⟩
      rw [hd, rstr] at hZf
      obtain ⟨c, hc⟩ : ∃ c, c = t.r := ⟨_, rfl⟩
      rw [← hc] at y0 hvr hZf
      obtain ⟨ta, hta⟩ : ∃ ta, ta = t.a := ⟨_, rfl⟩
      rw [← hta] at y1 hZf
      have Y0 := HI.out.1.cell y0 (fun x => x)
      have Y1 := HI.out.1.cell y1 (fun x => x)
      have HO : Hid (Only (fun _ => False) w w5) := HI.out.1
      have HSz : Hid ((tx out).size ≤ 4 * j) := HI.out.2.2
      clear HI hd ht ht2 hc hta y0 y1 hlt2
      have j0 : (0 : Int) ≤ (j : Int) := Int.natCast_nonneg _
      have j1 : (j : Int) < (m : Int) := by omega
      by_cases h34 : c = 34
      · have b34 : ((c : Int) == 34) = true := by rw [h34]; rfl
        rw [if_pos h34] at hZf
        by_cases hb : 4096 < (tx out).size
        · rw [if_pos hb] at hZf
          have HE : Hid (Z = ([], a0, 11)) := hZf
          obtain ⟨X, hX⟩ : ∃ X, X = tx out := ⟨_, rfl⟩
          rw [← hX] at hb ⊢
          have bb : decide ((4096 : Int) < (X.size : Int)) = true := decide_eq_true (by omega)
          clear hZf h34 hX HSz hb
          go_wp2
          go_ret3
          exact ⟨by rw [show Z = _ from HE.out]; rfl, HO.out⟩
        · rw [if_neg hb] at hZf
          have HE : Hid (Z = (out, j + 1, 0)) := hZf
          obtain ⟨X, hX⟩ : ∃ X, X = tx out := ⟨_, rfl⟩
          have HX : Hid (X = tx out) := hX
          rw [← hX] at hb ⊢
          have bb : decide ((4096 : Int) < (X.size : Int)) = false := decide_eq_false (by omega)
          clear hZf h34 hX HSz hb
          go_wp2
          go_ret3
          exact ⟨by rw [show Z = _ from HE.out, show X = _ from HX.out]; rfl, HO.out⟩
      · have b34 : ((c : Int) == 34) = false := by simp; omega
        rw [if_neg h34] at hZf
        obtain ⟨X, hX⟩ : ∃ X, X = tx out := ⟨_, rfl⟩
        have HX : Hid (X = tx out) := hX
        have hXs : X.size ≤ 4 * j := by rw [hX]; exact HSz.out
        by_cases h92 : c = 92
        · have b92 : ((c : Int) == 92) = true := by rw [h92]; rfl
          rw [if_pos h92] at hZf
          by_cases hj1 : j + 1 < m
          · have hlt3 : j + 1 < l.length := by have : m = l.length := HM.out; omega
            obtain ⟨u, hu⟩ : ∃ u, u = l[j + 1]'hlt3 := ⟨_, rfl⟩
            have hu2 : l[j + 1]? = some u := by rw [hu]; exact List.getElem?_eq_getElem _
            obtain ⟨hvu, z0, _⟩ := HF.out (j + 1) u hu2
            rw [drop_cons hu2, List.head?_cons, List.tail_cons] at hZf
            dsimp only at hZf
            obtain ⟨d, hd⟩ : ∃ d, d = u.r := ⟨_, rfl⟩
            rw [← hd] at z0 hvu hZf
            have Z0 := HO.out.cell z0 (fun x => x)
            clear hu hu2 hd z0 hlt3
            have bj : decide ((m : Int) ≤ (j : Int) + 1) = false := decide_eq_false (by omega)
            have q0 : (0 : Int) ≤ (j : Int) + 1 := by omega
            have q1 : (j : Int) + 1 < (m : Int) := by omega
            have q2 : ((j : Int) + 1).toNat = j + 1 := by omega
            by_cases h110 : d = 110
            · have c110 : ((d : Int) == 110) = true := by rw [h110]; rfl
              have n110 : ((d : Int) != 110) = false := by rw [h110]; rfl
              have m110 : decide (¬ (d : Int) = 110) = false := by rw [h110]; rfl
              rw [if_pos h110] at hZf
              have n1 : (⟨#[10]⟩ : ByteArray).size = 1 := rfl
              have ad : ∀ W : World, (Op.stringOp .add X ⟨#[10]⟩).run Tryd.prog W = .ok (.string (tx (out ++ [10]))) W := fun W => add_str _ W (by rw [hX, show (⟨#[10]⟩ : ByteArray) = tx [10] from rfl, tx_app]) (by omega) (by omega)
              have HE2 : Hid (∃ f, m - (j + 2) < f ∧ Z = rstr a0 f (l.drop (j + 2)) (j + 2) (out ++ [10])) := ⟨f, by omega, hZf⟩
              have hsz : Hid ((tx (out ++ [10])).size ≤ 4 * (j + 2)) := by
                show _ ≤ _
                rw [tx_size, wl_app, show wl [10] = 1 from rfl, ← tx_size, ← hX]
                omega
              obtain ⟨X2, hX2⟩ : ∃ X2, X2 = tx (out ++ [10]) := ⟨_, rfl⟩
              have HX2 : Hid (X2 = tx (out ++ [10])) := hX2
              rw [← hX2] at ad
              rw [← hX]
              clear hZf h110 h92 h34 hX hX2 n1 HX HSz hvu hvr
              go_wp2
              go_roundw
              case rel => exact ⟨j + 2, out ++ [10], by omega, by rw [show X2 = _ from HX2.out], by go_num, HO.out, HE2.out, hsz.out⟩
              case measure => simp only [uOf]; omega
            · have c110 : ((d : Int) == 110) = false := by simp; omega
              have n110 : ((d : Int) != 110) = true := by simp; omega
              have i110 : ¬ (d : Int) = 110 := by omega
              rw [if_neg h110] at hZf
              by_cases h2 : d = 34 ∨ d = 92
              · rw [if_pos h2] at hZf
                have hcv : ∀ W : World, (convert 21 9 (.int .i32 (d : Int))).run Tryd.prog W = .ok (.string (tx [d])) W := fun W => by
                  rw [← encode_tx hvu]
                  exact run_convert_int_string W _ _ _ _ rfl Tryd.underlying9
                have hw4 := wr_le d
                have hdz : (tx [d]).size = wr d := by rw [tx_size, wl_cons, wl_nil, Nat.add_zero]
                have ad : ∀ W : World, (Op.stringOp .add X (tx [d])).run Tryd.prog W = .ok (.string (tx (out ++ [d]))) W := fun W => add_str _ W (by rw [hX, tx_app]) (by omega) (by omega)
                have HE2 : Hid (∃ f, m - (j + 2) < f ∧ Z = rstr a0 f (l.drop (j + 2)) (j + 2) (out ++ [d])) := ⟨f, by omega, hZf⟩
                have hsz : Hid ((tx (out ++ [d])).size ≤ 4 * (j + 2)) := by
                  show _ ≤ _
                  rw [tx_size, wl_app, wl_cons, wl_nil, ← tx_size, ← hX]
                  omega
                obtain ⟨X2, hX2⟩ : ∃ X2, X2 = tx (out ++ [d]) := ⟨_, rfl⟩
                have HX2 : Hid (X2 = tx (out ++ [d])) := hX2
                obtain ⟨Xd, hXd⟩ : ∃ Xd, Xd = tx [d] := ⟨_, rfl⟩
                rw [← hX2, ← hXd] at ad
                rw [← hXd] at hcv
                rw [← hX]
                have c34 : ((d : Int) != 34) = false ∨ (((d : Int) != 34) = true ∧ ¬ (d : Int) = 34 ∧ ((d : Int) != 92) = false) := by
                  rcases h2 with h2 | h2
                  · left; rw [h2]; rfl
                  · right; rw [h2]; exact ⟨rfl, by omega, rfl⟩
                clear hZf h110 h92 h34 hX hX2 HX HSz hvu hvr hXd hdz h2
                rcases c34 with c34 | ⟨c34, i34, c92⟩
                all_goals
                  go_wp2
                  go_roundw
                  case rel => exact ⟨j + 2, out ++ [d], by omega, by rw [show X2 = _ from HX2.out], by go_num, HO.out, HE2.out, hsz.out⟩
                  case measure => simp only [uOf]; omega
              · rw [if_neg h2] at hZf
                have HE : Hid (Z = ([], ta, 9)) := hZf
                have c34 : ((d : Int) != 34) = true := by simp; omega
                have c92 : ((d : Int) != 92) = true := by simp; omega
                have i34 : ¬ (d : Int) = 34 := by omega
                have i92 : ¬ (d : Int) = 92 := by omega
                rw [← hX]
                clear hZf h110 h92 h34 hX HX HSz hvu hvr h2
                go_wp2
                go_quiet (fail)
                go_wp2
                go_ret3
                exact ⟨by rw [show Z = _ from HE.out]; rfl, HO.out.drewN _⟩
          · have bj : decide ((m : Int) ≤ (j : Int) + 1) = true := decide_eq_true (by omega)
            rw [List.drop_eq_nil_of_le (by have : m = l.length := HM.out; omega), List.head?_nil] at hZf
            have HE : Hid (Z = ([], ta, 9)) := hZf
            rw [← hX]
            clear hZf h92 h34 hX HX HSz hvr
            go_wp2
            go_quiet (fail)
            go_wp2
            go_ret3
            exact ⟨by rw [show Z = _ from HE.out]; rfl, HO.out.drewN _⟩
        · have b92 : ((c : Int) == 92) = false := by simp; omega
          rw [if_neg h92] at hZf
          have hcv : ∀ W : World, (convert 21 9 (.int .i32 (c : Int))).run Tryd.prog W = .ok (.string (tx [c])) W := fun W => by
            rw [← encode_tx hvr]
            exact run_convert_int_string W _ _ _ _ rfl Tryd.underlying9
          have hw4 := wr_le c
          have hdz : (tx [c]).size = wr c := by rw [tx_size, wl_cons, wl_nil, Nat.add_zero]
          have ad : ∀ W : World, (Op.stringOp .add X (tx [c])).run Tryd.prog W = .ok (.string (tx (out ++ [c]))) W := fun W => add_str _ W (by rw [hX, tx_app]) (by omega) (by omega)
          have HE2 : Hid (∃ f, m - (j + 1) < f ∧ Z = rstr a0 f (l.drop (j + 1)) (j + 1) (out ++ [c])) := ⟨f, by omega, hZf⟩
          have hsz : Hid ((tx (out ++ [c])).size ≤ 4 * (j + 1)) := by
            show _ ≤ _
            rw [tx_size, wl_app, wl_cons, wl_nil, ← tx_size, ← hX]
            omega
          obtain ⟨X2, hX2⟩ : ∃ X2, X2 = tx (out ++ [c]) := ⟨_, rfl⟩
          have HX2 : Hid (X2 = tx (out ++ [c])) := hX2
          obtain ⟨Xd, hXd⟩ : ∃ Xd, Xd = tx [c] := ⟨_, rfl⟩
          rw [← hX2, ← hXd] at ad
          rw [← hXd] at hcv
          rw [← hX]
          clear hZf h92 h34 hX hX2 HX HSz hvr hXd hdz
          go_wp2
          go_roundw
          case rel => exact ⟨j + 1, out ++ [c], by omega, by rw [show X2 = _ from HX2.out], by go_num, HO.out, HE2.out, hsz.out⟩
          case measure => simp only [uOf]; omega
    · have j1 : ¬ (j : Int) < (m : Int) := by omega
      obtain ⟨f, hf, hZf⟩ := HI.out.2.1
      obtain ⟨f, rfl⟩ : ∃ f', f = f' + 1 := ⟨f - 1, by omega⟩
      rw [List.drop_eq_nil_of_le (by have : m = l.length := HM.out; omega), rstr] at hZf
      have HE : Hid (Z = ([], a0, 9)) := hZf
      have HO : Hid (Only (fun _ => False) w w5) := HI.out.1
      clear HI hZf
      go_wp2
      go_ret3
      exact ⟨by rw [show Z = _ from HE.out]; rfl, HO.out⟩
end Go.Proofs.YtbijiigobbjlcaaDoor
