/- The document's str: a string's token, character by character. The document's str and the program's; the document's Quoted. The document's Quoted. The document's Tokens: what its steps are. -/
import Derived.Test.YtfecmpebnianpaaGreatDoorGaw
import Derived.Test.YtfecmpebnianpaaGreatDoorGas
namespace Go.Proofs.YtfecmpebnianpaaGreatDoor
open Go.RowKit Go.Lib
set_option linter.unusedSimpArgs false
set_option linter.unusedVariables false
/-- What the document's str answers: text, index or place, error. -/
def rstr (first : Nat) : Nat → List Chr → Nat → List Nat → List Nat × Nat × Int
  | 0, _, _, _ => ([], first, 9)
  | _ + 1, [], _, _ => ([], first, 9)
  | f + 1, t :: r, j, out =>
    if t.r = 34 then (if 4096 < (tx out).size then ([], first, 11) else (out, j + 1, 0))
    else if t.r = 92 then match r.head? with
      | none => ([], t.a, 9)
      | some u => if u.r = 110 then rstr first f r.tail (j + 2) (out ++ [10]) else if u.r = 34 ∨ u.r = 92 then rstr first f r.tail (j + 2) (out ++ [u.r]) else ([], t.a, 9)
    else rstr first f r (j + 1) (out ++ [t.r])
def strV (x : List Nat × Nat × Int) : Value := .tuple #[.string (tx x.1), .int .i64 (x.2.1 : Int), .int .i64 x.2.2]
theorem drop_cons {α : Type} {l : List α} {k : Nat} {t : α} (h : l[k]? = some t) : l.drop k = t :: l.drop (k + 1) := by
  have hi := (List.getElem?_eq_some_iff.1 h).1
  rw [← (List.getElem?_eq_some_iff.1 h).2]
  exact List.drop_eq_getElem_cons hi
set_option maxRecDepth 100000 in
set_option maxHeartbeats 1000000 in
theorem rstr_any (l : List Chr) (hl : l.length ≤ 65536) (hv : ∀ t ∈ l, Vr t.r) (k : Nat) (t0 : Chr) (hk : l[k]? = some t0) (v : Value) (w : World) (h : RdC w v l) :
    Calls Tryz.prog 71 #[v, .int .i64 (k : Int)] w fun e w' => e = .returned (strV (rstr t0.a (l.length + 1) (l.drop (k + 1)) (k + 1) [])) ∧ Only (fun _ => False) w w' := by
  obtain ⟨ao, cap, rfl, hcap, fL⟩ := h
  have hkl := (List.getElem?_eq_some_iff.1 hk).1
  obtain ⟨g, o, rfl, hg, _, x1, _, _⟩ := fL k t0 hk
  obtain ⟨a0, ha0⟩ : ∃ a0, a0 = t0.a := ⟨_, rfl⟩
  rw [← ha0] at x1 ⊢
  obtain ⟨Z, hZ⟩ : ∃ Z, Z = rstr a0 (l.length + 1) (l.drop (k + 1)) (k + 1) [] := ⟨_, rfl⟩
  have HZ : Hid (Z = rstr a0 (l.length + 1) (l.drop (k + 1)) (k + 1) []) := hZ
  rw [← hZ]
  have HF : Hid (∀ i t, l[i]? = some t → Vr t.r ∧ w.cell? ⟨g, o + i * 4, none⟩ = some (.int .i32 (t.r : Int)) ∧ w.cell? ⟨g, o + i * 4 + 1, none⟩ = some (.int .i64 (t.a : Int))) := fun i t ht => by
    obtain ⟨g', o', eg, _, y0, y1, _, _⟩ := fL i t ht
    injection eg with eg
    injection eg with eg1 eg2
    subst eg1
    subst eg2
    exact ⟨hv t (List.mem_of_getElem? ht), y0, y1⟩
  obtain ⟨m, hm⟩ : ∃ m, m = l.length := ⟨_, rfl⟩
  have HM : Hid (m = l.length) := hm
  have hmm : m ≤ 65536 := by omega
  have hkm : k < m := by omega
  rw [← hm] at HZ ⊢
  clear fL hv hZ hm hk ha0 hg hkl hl hcap
  have k0 : (0 : Int) ≤ (k : Int) := Int.natCast_nonneg _
  have k1 : (k : Int) < (m : Int) := by omega
  go_enter Tryz.func71, Tryz.ntmps71
  go_wp2
  go_loopw [7, 9] (fun r7 r9 wr => ∃ (j : Nat) (out : List Nat), j ≤ m ∧ r7 = .string (tx out) ∧ r9 = .int .i64 (j : Int) ∧ Hid (Only (fun _ => False) w wr ∧ (∃ f, m - j < f ∧ Z = rstr a0 f (l.drop j) j out) ∧ (tx out).size ≤ 4 * j)) (fun _ r9 _ => m - uOf r9)
  case atStart => exact ⟨k + 1, [], by omega, rfl, by go_num, Only.refl _ _, ⟨m + 1, by omega, HZ.out⟩, by rw [tx_size]; exact Nat.zero_le _⟩
  case round =>
    obtain ⟨j, out, hj, rfl, rfl, HI⟩ := hrel
    obtain ⟨w5, rfl⟩ : ∃ w5, w5 = wr := ⟨_, rfl⟩
    clear HZ
    by_cases hlt : j < m
    · have hlt2 : j < l.length := by have : m = l.length := HM.out; omega
      obtain ⟨t, ht⟩ : ∃ t, t = l[j]'hlt2 := ⟨_, rfl⟩
      have ht2 : l[j]? = some t := by rw [ht]; exact List.getElem?_eq_getElem _
      obtain ⟨hvr, y0, y1⟩ := HF.out j t ht2
      have hd := drop_cons ht2
      obtain ⟨f, hf, hZf⟩ := HI.out.2.1
      obtain ⟨f, rfl⟩ : ∃ f', f = f' + 1 := ⟨f - 1, by omega⟩
      rw [hd, rstr] at hZf
      obtain ⟨c, hc⟩ : ∃ c, c = t.r := ⟨_, rfl⟩
      rw [← hc] at y0 hvr hZf
      obtain ⟨ta, hta⟩ : ∃ ta, ta = t.a := ⟨_, rfl⟩
      rw [← hta] at y1 hZf
      have Y0 := HI.out.1.cell y0 (fun x => x)
      have Y1 := HI.out.1.cell y1 (fun x => x)
      have HO : Hid (Only (fun _ => False) w w5) := HI.out.1
      have HSz : Hid ((tx out).size ≤ 4 * j) := HI.out.2.2
      clear HI hd ht ht2 hc hta y0 y1 hlt2
      have j0 : (0 : Int) ≤ (j : Int) := Int.natCast_nonneg _
      have j1 : (j : Int) < (m : Int) := by omega
      by_cases h34 : c = 34
      · have b34 : ((c : Int) == 34) = true := by rw [h34]; rfl
        rw [if_pos h34] at hZf
        by_cases hb : 4096 < (tx out).size
        · rw [if_pos hb] at hZf
          have HE : Hid (Z = ([], a0, 11)) := hZf
          obtain ⟨X, hX⟩ : ∃ X, X = tx out := ⟨_, rfl⟩
          rw [← hX] at hb ⊢
          have bb : decide ((4096 : Int) < (X.size : Int)) = true := decide_eq_true (by omega)
          clear hZf h34 hX HSz hb
          go_wp2
          go_ret3
          exact ⟨by rw [show Z = _ from HE.out]; rfl, HO.out⟩
        · rw [if_neg hb] at hZf
          have HE : Hid (Z = (out, j + 1, 0)) := hZf
          obtain ⟨X, hX⟩ : ∃ X, X = tx out := ⟨_, rfl⟩
          have HX : Hid (X = tx out) := hX
          rw [← hX] at hb ⊢
          have bb : decide ((4096 : Int) < (X.size : Int)) = false := decide_eq_false (by omega)
          clear hZf h34 hX HSz hb
          go_wp2
          go_ret3
          exact ⟨by rw [show Z = _ from HE.out, show X = _ from HX.out]; rfl, HO.out⟩
      · have b34 : ((c : Int) == 34) = false := by simp; omega
        rw [if_neg h34] at hZf
        obtain ⟨X, hX⟩ : ∃ X, X = tx out := ⟨_, rfl⟩
        have HX : Hid (X = tx out) := hX
        have hXs : X.size ≤ 4 * j := by rw [hX]; exact HSz.out
        by_cases h92 : c = 92
        · have b92 : ((c : Int) == 92) = true := by rw [h92]; rfl
          rw [if_pos h92] at hZf
          by_cases hj1 : j + 1 < m
          · have hlt3 : j + 1 < l.length := by have : m = l.length := HM.out; omega
            obtain ⟨u, hu⟩ : ∃ u, u = l[j + 1]'hlt3 := ⟨_, rfl⟩
            have hu2 : l[j + 1]? = some u := by rw [hu]; exact List.getElem?_eq_getElem _
            obtain ⟨hvu, z0, _⟩ := HF.out (j + 1) u hu2
            rw [drop_cons hu2, List.head?_cons, List.tail_cons] at hZf
            dsimp only at hZf
            obtain ⟨d, hd⟩ : ∃ d, d = u.r := ⟨_, rfl⟩
            rw [← hd] at z0 hvu hZf
            have Z0 := HO.out.cell z0 (fun x => x)
            clear hu hu2 hd z0 hlt3
            have bj : decide ((m : Int) ≤ (j : Int) + 1) = false := decide_eq_false (by omega)
            have q0 : (0 : Int) ≤ (j : Int) + 1 := by omega
            have q1 : (j : Int) + 1 < (m : Int) := by omega
            have q2 : ((j : Int) + 1).toNat = j + 1 := by omega
            by_cases h110 : d = 110
            · have c110 : ((d : Int) == 110) = true := by rw [h110]; rfl
              have n110 : ((d : Int) != 110) = false := by rw [h110]; rfl
              have m110 : decide (¬ (d : Int) = 110) = false := by rw [h110]; rfl
              rw [if_pos h110] at hZf
              have n1 : (⟨#[10]⟩ : ByteArray).size = 1 := rfl
              have ad : ∀ W : World, (Op.stringOp .add X ⟨#[10]⟩).run Tryz.prog W = .ok (.string (tx (out ++ [10]))) W := fun W => add_str _ W (by rw [hX, show (⟨#[10]⟩ : ByteArray) = tx [10] from rfl, tx_app]) (by omega) (by omega)
              have HE2 : Hid (∃ f, m - (j + 2) < f ∧ Z = rstr a0 f (l.drop (j + 2)) (j + 2) (out ++ [10])) := ⟨f, by omega, hZf⟩
              have hsz : Hid ((tx (out ++ [10])).size ≤ 4 * (j + 2)) := by
                show _ ≤ _
                rw [tx_size, wl_app, show wl [10] = 1 from rfl, ← tx_size, ← hX]
                omega
              obtain ⟨X2, hX2⟩ : ∃ X2, X2 = tx (out ++ [10]) := ⟨_, rfl⟩
              have HX2 : Hid (X2 = tx (out ++ [10])) := hX2
              rw [← hX2] at ad
              rw [← hX]
              clear hZf h110 h92 h34 hX hX2 n1 HX HSz hvu hvr
              go_wp2
              go_roundw
              case rel => exact ⟨j + 2, out ++ [10], by omega, by rw [show X2 = _ from HX2.out], by go_num, HO.out, HE2.out, hsz.out⟩
              case measure => simp only [uOf]; omega
            · have c110 : ((d : Int) == 110) = false := by simp; omega
              have n110 : ((d : Int) != 110) = true := by simp; omega
              have i110 : ¬ (d : Int) = 110 := by omega
              rw [if_neg h110] at hZf
              by_cases h2 : d = 34 ∨ d = 92
              · rw [if_pos h2] at hZf
                have hcv : ∀ W : World, (convert 21 9 (.int .i32 (d : Int))).run Tryz.prog W = .ok (.string (tx [d])) W := fun W => by
                  rw [← encode_tx hvu]
                  exact run_convert_int_string W _ _ _ _ rfl Tryz.underlying9
                have hw4 := wr_le d
                have hdz : (tx [d]).size = wr d := by rw [tx_size, wl_cons, wl_nil, Nat.add_zero]
                have ad : ∀ W : World, (Op.stringOp .add X (tx [d])).run Tryz.prog W = .ok (.string (tx (out ++ [d]))) W := fun W => add_str _ W (by rw [hX, tx_app]) (by omega) (by omega)
                have HE2 : Hid (∃ f, m - (j + 2) < f ∧ Z = rstr a0 f (l.drop (j + 2)) (j + 2) (out ++ [d])) := ⟨f, by omega, hZf⟩
                have hsz : Hid ((tx (out ++ [d])).size ≤ 4 * (j + 2)) := by
                  show _ ≤ _
                  rw [tx_size, wl_app, wl_cons, wl_nil, ← tx_size, ← hX]
                  omega
                obtain ⟨X2, hX2⟩ : ∃ X2, X2 = tx (out ++ [d]) := ⟨_, rfl⟩
                have HX2 : Hid (X2 = tx (out ++ [d])) := hX2
                obtain ⟨Xd, hXd⟩ : ∃ Xd, Xd = tx [d] := ⟨_, rfl⟩
                rw [← hX2, ← hXd] at ad
                rw [← hXd] at hcv
                rw [← hX]
                have c34 : ((d : Int) != 34) = false ∨ (((d : Int) != 34) = true ∧ ¬ (d : Int) = 34 ∧ ((d : Int) != 92) = false) := by
                  rcases h2 with h2 | h2
                  · left; rw [h2]; rfl
                  · right; rw [h2]; exact ⟨rfl, by omega, rfl⟩
                clear hZf h110 h92 h34 hX hX2 HX HSz hvu hvr hXd hdz h2
                rcases c34 with c34 | ⟨c34, i34, c92⟩
                all_goals
                  go_wp2
                  go_roundw
                  case rel => exact ⟨j + 2, out ++ [d], by omega, by rw [show X2 = _ from HX2.out], by go_num, HO.out, HE2.out, hsz.out⟩
                  case measure => simp only [uOf]; omega
              · rw [if_neg h2] at hZf
                have HE : Hid (Z = ([], ta, 9)) := hZf
                have c34 : ((d : Int) != 34) = true := by simp; omega
                have c92 : ((d : Int) != 92) = true := by simp; omega
                have i34 : ¬ (d : Int) = 34 := by omega
                have i92 : ¬ (d : Int) = 92 := by omega
                rw [← hX]
                clear hZf h110 h92 h34 hX HX HSz hvu hvr h2
                go_wp2
                go_quiet (fail)
                go_wp2
                go_ret3
                exact ⟨by rw [show Z = _ from HE.out]; rfl, HO.out.drewN _⟩
          · have bj : decide ((m : Int) ≤ (j : Int) + 1) = true := decide_eq_true (by omega)
            rw [List.drop_eq_nil_of_le (by have : m = l.length := HM.out; omega), List.head?_nil] at hZf
            have HE : Hid (Z = ([], ta, 9)) := hZf
            rw [← hX]
            clear hZf h92 h34 hX HX HSz hvr
            go_wp2
            go_quiet (fail)
            go_wp2
            go_ret3
            exact ⟨by rw [show Z = _ from HE.out]; rfl, HO.out.drewN _⟩
        · have b92 : ((c : Int) == 92) = false := by simp; omega
          rw [if_neg h92] at hZf
          have hcv : ∀ W : World, (convert 21 9 (.int .i32 (c : Int))).run Tryz.prog W = .ok (.string (tx [c])) W := fun W => by
            rw [← encode_tx hvr]
            exact run_convert_int_string W _ _ _ _ rfl Tryz.underlying9
          have hw4 := wr_le c
          have hdz : (tx [c]).size = wr c := by rw [tx_size, wl_cons, wl_nil, Nat.add_zero]
          have ad : ∀ W : World, (Op.stringOp .add X (tx [c])).run Tryz.prog W = .ok (.string (tx (out ++ [c]))) W := fun W => add_str _ W (by rw [hX, tx_app]) (by omega) (by omega)
          have HE2 : Hid (∃ f, m - (j + 1) < f ∧ Z = rstr a0 f (l.drop (j + 1)) (j + 1) (out ++ [c])) := ⟨f, by omega, hZf⟩
          have hsz : Hid ((tx (out ++ [c])).size ≤ 4 * (j + 1)) := by
            show _ ≤ _
            rw [tx_size, wl_app, wl_cons, wl_nil, ← tx_size, ← hX]
            omega
          obtain ⟨X2, hX2⟩ : ∃ X2, X2 = tx (out ++ [c]) := ⟨_, rfl⟩
          have HX2 : Hid (X2 = tx (out ++ [c])) := hX2
          obtain ⟨Xd, hXd⟩ : ∃ Xd, Xd = tx [c] := ⟨_, rfl⟩
          rw [← hX2, ← hXd] at ad
          rw [← hXd] at hcv
          rw [← hX]
          clear hZf h92 h34 hX hX2 HX HSz hvr hXd hdz
          go_wp2
          go_roundw
          case rel => exact ⟨j + 1, out ++ [c], by omega, by rw [show X2 = _ from HX2.out], by go_num, HO.out, HE2.out, hsz.out⟩
          case measure => simp only [uOf]; omega
    · have j1 : ¬ (j : Int) < (m : Int) := by omega
      obtain ⟨f, hf, hZf⟩ := HI.out.2.1
      obtain ⟨f, rfl⟩ : ∃ f', f = f' + 1 := ⟨f - 1, by omega⟩
      rw [List.drop_eq_nil_of_le (by have : m = l.length := HM.out; omega), rstr] at hZf
      have HE : Hid (Z = ([], a0, 9)) := hZf
      have HO : Hid (Only (fun _ => False) w w5) := HI.out.1
      clear HI hZf
      go_wp2
      go_ret3
      exact ⟨by rw [show Z = _ from HE.out]; rfl, HO.out⟩
end Go.Proofs.YtfecmpebnianpaaGreatDoor
namespace Go.Proofs.YtfecmpebnianpaaGreatDoor
open Go.RowKit Go.Lib
set_option linter.unusedSimpArgs false
set_option linter.unusedVariables false
/-- Characters with their places in a text. -/
def cl : Nat → List Nat → List Chr
  | _, [] => []
  | A, c :: q => ⟨c, A, A + wr c, false⟩ :: cl (A + wr c) q
theorem cl_len : ∀ (q : List Nat) (A : Nat), (cl A q).length = q.length
  | [], A => rfl
  | c :: q, A => by rw [cl, List.length_cons, List.length_cons, cl_len q]
theorem cl_drop : ∀ (q : List Nat) (A k : Nat), (cl A q).drop k = cl (A + wl (q.take k)) (q.drop k)
  | q, A, 0 => by simp [wl_nil]
  | [], A, k + 1 => rfl
  | c :: q, A, k + 1 => by rw [cl, List.drop_succ_cons, cl_drop q _ k, List.take_succ_cons, wl_cons, List.drop_succ_cons, Nat.add_assoc]
theorem cl_get : ∀ (q : List Nat) (A k c : Nat), q[k]? = some c → (cl A q)[k]? = some ⟨c, A + wl (q.take k), A + wl (q.take k) + wr c, false⟩
  | [], A, k, c, h => by simp at h
  | x :: q, A, 0, c, h => by
    simp only [List.getElem?_cons_zero, Option.some.injEq] at h
    subst h
    simp [cl, wl_nil]
  | x :: q, A, k + 1, c, h => by
    have := cl_get q (A + wr x) k c (by simpa using h)
    rw [cl, List.getElem?_cons_succ, this, List.take_succ_cons, wl_cons, Nat.add_assoc]
theorem chr_tx {l : List Nat} (hv : VL l) : chrL (tx l) = cl 0 l := by
  have key : ∀ (q : List Nat) (o : Nat), Sfx (tx l) q o → (pl o q).map (chr1 (tx l)) = cl o q := by
    intro q
    induction q with
    | nil => intro o _; rfl
    | cons c q ih =>
      intro o ho
      rw [pl, List.map_cons, cl, ih _ ho.tail]
      congr 1
      unfold chr1
      rw [if_neg]
      rintro ⟨h1, hp⟩
      have hc : c = 65533 := h1
      subst hc
      rw [ho.rest] at hp
      have e : (tx (65533 :: q)).extract 0 3 = tx [65533] := by
        have : Sfx (tx (65533 :: q)) ([65533] ++ q) 0 := sfx_all ho.vl
        have := this.extract
        rwa [show 0 + wl [65533] = 3 from rfl] at this
      unfold preB at hp
      rw [show rpB.size = 3 from rfl, e, show tx [65533] = rpB from rfl] at hp
      have hz : 3 ≤ (tx (65533 :: q)).size := by rw [tx_size, wl_cons, show wr 65533 = 3 from rfl]; omega
      rw [decide_eq_true hz] at hp
      simp at hp
  unfold chrL chs
  rw [crs_tx0 hv]
  exact key l 0 (sfx_all hv)
/-- The two ways to read a string answer the same. -/
theorem str_rel (a : Nat) : ∀ (f : Nat) (q : List Nat) (o j : Nat) (out : List Nat), q.length < f →
    ((rstr a f (cl (a + 1 + o) q) j out).2.2 = 0 → ∃ i, i ≤ q.length ∧ (rstr a f (cl (a + 1 + o) q) j out).2.1 = j + i ∧ strG a (a + 1 + o + wl q) (pl o q) false out = (⟨3, tx (rstr a f (cl (a + 1 + o) q) j out).1, 0, a⟩, a + 1 + o + wl (q.take i), 0)) ∧
    ((rstr a f (cl (a + 1 + o) q) j out).2.2 ≠ 0 → (rstr a f (cl (a + 1 + o) q) j out).1 = [] ∧ strG a (a + 1 + o + wl q) (pl o q) false out = (zT, (rstr a f (cl (a + 1 + o) q) j out).2.1, (rstr a f (cl (a + 1 + o) q) j out).2.2)) := by
  intro f
  induction f with
  | zero => intro q o j out h; omega
  | succ f ih =>
    intro q o j out h
    cases q with
    | nil =>
      rw [cl, rstr, pl, strG]
      exact ⟨fun g => by simp at g, fun _ => ⟨rfl, rfl⟩⟩
    | cons c q =>
      rw [List.length_cons] at h
      rw [cl, rstr, pl]
      simp only [strG]
      by_cases h34 : c = 34
      · subst h34
        have e92 : ¬ (34 : Nat) = 92 := by decide
        have e : (tx out).size = (enL out).length := tx_size out
        rw [if_pos rfl, if_neg e92, if_pos rfl, e]
        by_cases hb : 4096 < (enL out).length
        · rw [if_pos hb, if_pos hb]
          exact ⟨fun g => by simp at g, fun _ => ⟨rfl, rfl⟩⟩
        · rw [if_neg hb, if_neg hb]
          refine ⟨fun _ => ⟨1, by simp, rfl, ?_⟩, fun g => by simp at g⟩
          rw [List.take_succ_cons, List.take_zero, wl_cons, wl_nil, show wr 34 = 1 from rfl, show a + 1 + o + (1 + 0) = a + o + 2 by omega]
      · rw [if_neg h34]
        by_cases h92 : c = 92
        · subst h92
          rw [if_pos rfl, if_pos rfl]
          cases q with
          | nil =>
            rw [cl, List.head?_nil, pl, strG]
            refine ⟨fun g => by simp at g, fun _ => ⟨rfl, ?_⟩⟩
            rw [wl_cons, wl_nil, show wr 92 = 1 from rfl, show a + 1 + o + (1 + 0) - 1 = a + 1 + o by omega]
          | cons d q =>
            rw [List.length_cons] at h
            rw [cl, List.head?_cons, List.tail_cons, pl, show wr 92 = 1 from rfl]
            simp only [strG]
            have hplace : a + 1 + o + 1 + wr d = a + 1 + (o + 1 + wr d) := by omega
            have hn : a + 1 + o + wl (92 :: d :: q) = a + 1 + (o + 1 + wr d) + wl q := by rw [wl_cons, wl_cons, show wr 92 = 1 from rfl]; omega
            have go : ∀ x : Nat, ((rstr a f (cl (a + 1 + (o + 1 + wr d)) q) (j + 2) (out ++ [x])).2.2 = 0 → ∃ i, i ≤ (92 :: d :: q).length ∧ (rstr a f (cl (a + 1 + (o + 1 + wr d)) q) (j + 2) (out ++ [x])).2.1 = j + i ∧ strG a (a + 1 + (o + 1 + wr d) + wl q) (pl (o + 1 + wr d) q) false (out ++ [x]) = (⟨3, tx (rstr a f (cl (a + 1 + (o + 1 + wr d)) q) (j + 2) (out ++ [x])).1, 0, a⟩, a + 1 + o + wl ((92 :: d :: q).take i), 0)) ∧
                ((rstr a f (cl (a + 1 + (o + 1 + wr d)) q) (j + 2) (out ++ [x])).2.2 ≠ 0 → (rstr a f (cl (a + 1 + (o + 1 + wr d)) q) (j + 2) (out ++ [x])).1 = [] ∧ strG a (a + 1 + (o + 1 + wr d) + wl q) (pl (o + 1 + wr d) q) false (out ++ [x]) = (zT, (rstr a f (cl (a + 1 + (o + 1 + wr d)) q) (j + 2) (out ++ [x])).2.1, (rstr a f (cl (a + 1 + (o + 1 + wr d)) q) (j + 2) (out ++ [x])).2.2)) := by
              intro x
              obtain ⟨i1, i2⟩ := ih q (o + 1 + wr d) (j + 2) (out ++ [x]) (by omega)
              refine ⟨fun g => ?_, i2⟩
              obtain ⟨i, hi, e1, e2⟩ := i1 g
              refine ⟨i + 2, by simp; omega, by rw [e1]; omega, ?_⟩
              rw [e2, List.take_succ_cons, List.take_succ_cons, wl_cons, wl_cons, show wr 92 = 1 from rfl]
              congr 2
              omega
            by_cases h110 : d = 110
            · have hu : une d = some 10 := by rw [h110]; rfl
              rw [if_pos h110, hu, hplace, hn]
              exact go 10
            · rw [if_neg h110]
              by_cases h2 : d = 34 ∨ d = 92
              · have hu : une d = some d := by unfold une; rw [if_neg h110, if_pos h2]
                rw [if_pos h2, hu, hplace, hn]
                exact go d
              · have hu : une d = none := by unfold une; rw [if_neg h110, if_neg h2]
                rw [if_neg h2, hu]
                refine ⟨fun g => by simp at g, fun _ => ⟨rfl, ?_⟩⟩
                show (zT, a + (o + 1), (9 : Int)) = (zT, a + 1 + o, 9)
                congr 2
                omega
        · rw [if_neg h92, if_neg h92, if_neg h34]
          have hplace : a + 1 + o + wr c = a + 1 + (o + wr c) := by omega
          have hn : a + 1 + o + wl (c :: q) = a + 1 + (o + wr c) + wl q := by rw [wl_cons]; omega
          rw [hplace, hn]
          obtain ⟨i1, i2⟩ := ih q (o + wr c) (j + 1) (out ++ [c]) (by omega)
          refine ⟨fun g => ?_, i2⟩
          obtain ⟨i, hi, e1, e2⟩ := i1 g
          refine ⟨i + 1, by simp; omega, by rw [e1]; omega, ?_⟩
          rw [e2, List.take_succ_cons, wl_cons]
          congr 2
          omega
end Go.Proofs.YtfecmpebnianpaaGreatDoor
namespace Go.Proofs.YtfecmpebnianpaaGreatDoor
open Go.RowKit Go.Lib
set_option linter.unusedSimpArgs false
set_option linter.unusedVariables false
end Go.Proofs.YtfecmpebnianpaaGreatDoor
namespace Go.Proofs.YtfecmpebnianpaaGreatDoor
open Go.RowKit Go.Lib
set_option linter.unusedSimpArgs false
set_option linter.unusedVariables false
/-- The place of the k-th character. -/
def Pk (l : List Nat) (k : Nat) : Nat := wl (l.take k)
theorem pk_add (l : List Nat) (k i : Nat) : Pk l (k + i) = Pk l k + wl ((l.drop k).take i) := by
  unfold Pk
  rw [List.take_add, wl_app]
theorem pk_succ {l : List Nat} {k c : Nat} (h : l[k]? = some c) : Pk l (k + 1) = Pk l k + wr c := by
  rw [pk_add, drop_cons h, List.take_succ_cons, List.take_zero, wl_cons, wl_nil, Nat.add_zero]
theorem sfx_at {l : List Nat} (hv : VL l) (k : Nat) : Sfx (tx l) (l.drop k) (Pk l k) := by
  have : Sfx (tx l) (l.take k ++ l.drop k) 0 := by rw [List.take_append_drop]; exact sfx_all hv
  have := this.drop
  rwa [Nat.zero_add] at this
theorem t_end {l : List Nat} (hv : VL l) {k : Nat} (h : l.length ≤ k) (acc : List Tok) : tokH (tx l) (bg (tx l) (Pk l k)) acc = (acc, 0, 0) := by
  have g := sfx_at hv k
  rw [List.drop_eq_nil_of_le h] at g
  have gb := bg_sfx g
  rw [SK_nil] at gb
  have := gb.size
  rw [wl_nil] at this
  exact tokH_end _ (by omega)
theorem t_blank {l : List Nat} (hv : VL l) {k c : Nat} (h : l[k]? = some c) (hb : blk c = true) : bg (tx l) (Pk l k) = bg (tx l) (Pk l (k + 1)) := by
  have g := bg_sfx (sfx_at hv k)
  rw [drop_cons h, SK_one hb] at g
  exact g.pos (bg_sfx (sfx_at hv (k + 1)))
theorem t_head {l : List Nat} (hv : VL l) {k c : Nat} (h : l[k]? = some c) (hb : blk c = false) (hr : rmL (l.drop k) = false) : bg (tx l) (Pk l k) = Pk l k ∧ Pk l k < (tx l).size := by
  have g0 := sfx_at hv k
  have g := bg_sfx g0
  have e : SK (l.drop k) = l.drop k := by
    rw [SK_eq]
    have hd : (l.drop k).dropWhile blk = l.drop k := by rw [drop_cons h, List.dropWhile_cons, if_neg (by rw [hb]; simp)]
    rw [hd, hr, if_neg (by simp)]
  rw [e] at g
  refine ⟨g.pos g0, ?_⟩
  have := g0.size
  rw [drop_cons h, wl_cons] at this
  have := wr_pos c
  omega
theorem t_err {s : ByteArray} {a : Nat} (acc : List Tok) (h : a < s.size) (he : (redR s a).2.2 ≠ 0) : tokH s a acc = ([], (redR s a).2.1, (redR s a).2.2) := by
  unfold tokH tokG
  rw [if_pos h, if_neg he]
theorem t_full {s : ByteArray} {a : Nat} {acc : List Tok} (h : a < s.size) (he : (redR s a).2.2 = 0) (hl : acc.length = 4096) : tokH s a acc = ([], a, 11) := by
  unfold tokH tokG
  rw [if_pos h, if_pos he, if_pos hl]
theorem t_remark {l : List Nat} (hv : VL l) {k k' : Nat} (hb : (l.drop k).dropWhile blk = l.drop k) (hr : rmL (l.drop k) = true) (hd : l.drop k' = (l.drop k).dropWhile (fun c => !decide (c = 10))) : bg (tx l) (Pk l k) = bg (tx l) (Pk l k') := by
  have g := bg_sfx (sfx_at hv k)
  rw [SK_eq, hb, if_pos hr, ← hd] at g
  exact g.pos (bg_sfx (sfx_at hv k'))
theorem t_str {l : List Nat} (hv : VL l) {k : Nat} (h : l[k]? = some 34) :
    ((rstr (Pk l k) (l.length + 1) ((cl 0 l).drop (k + 1)) (k + 1) []).2.2 = 0 → ∃ i, k + 1 + i ≤ l.length ∧ (rstr (Pk l k) (l.length + 1) ((cl 0 l).drop (k + 1)) (k + 1) []).2.1 = k + 1 + i ∧ redR (tx l) (Pk l k) = (⟨3, tx (rstr (Pk l k) (l.length + 1) ((cl 0 l).drop (k + 1)) (k + 1) []).1, 0, Pk l k⟩, Pk l (k + 1 + i), 0)) ∧
    ((rstr (Pk l k) (l.length + 1) ((cl 0 l).drop (k + 1)) (k + 1) []).2.2 ≠ 0 → (rstr (Pk l k) (l.length + 1) ((cl 0 l).drop (k + 1)) (k + 1) []).1 = [] ∧ redR (tx l) (Pk l k) = (zT, (rstr (Pk l k) (l.length + 1) ((cl 0 l).drop (k + 1)) (k + 1) []).2.1, (rstr (Pk l k) (l.length + 1) ((cl 0 l).drop (k + 1)) (k + 1) []).2.2)) := by
  have hk := (List.getElem?_eq_some_iff.1 h).1
  have g0 := sfx_at hv k
  rw [drop_cons h] at g0
  have hs := pk_succ h
  rw [show wr 34 = 1 from rfl] at hs
  have ecl : (cl 0 l).drop (k + 1) = cl (Pk l k + 1 + 0) (l.drop (k + 1)) := by
    rw [cl_drop, Nat.zero_add, Nat.add_zero, ← hs]
    rfl
  have hsz := g0.size
  rw [wl_cons, show wr 34 = 1 from rfl] at hsz
  have hsz2 : (tx l).size = Pk l k + 1 + 0 + wl (l.drop (k + 1)) := by omega
  rw [ecl, red_str g0, hsz2]
  have hlen : (l.drop (k + 1)).length = l.length - (k + 1) := List.length_drop
  obtain ⟨i1, i2⟩ := str_rel (Pk l k) (l.length + 1) (l.drop (k + 1)) 0 (k + 1) [] (by omega)
  refine ⟨fun g => ?_, i2⟩
  obtain ⟨i, hi, e1, e2⟩ := i1 g
  have hle : k + 1 + i ≤ l.length := by
    rw [hlen] at hi
    have := Nat.add_le_add_left hi (k + 1)
    rwa [Nat.add_sub_cancel' (Nat.succ_le_of_lt hk)] at this
  refine ⟨i, hle, e1, ?_⟩
  rw [e2, Nat.add_zero, pk_add l (k + 1) i, hs]
theorem tw_take (P : Nat → Bool) : ∀ q : List Nat, q.takeWhile P = q.take (q.takeWhile P).length
  | [] => rfl
  | c :: q => by
    rw [List.takeWhile_cons]
    split
    · rw [List.length_cons, List.take_succ_cons, ← tw_take P q]
    · rfl
theorem wrd_take (l : List Nat) (k : Nat) : (l.drop k).takeWhile (fun c => !blk c) = (l.drop k).take ((l.drop k).takeWhile (fun c => !blk c)).length := tw_take _ _
theorem t_word {l : List Nat} (hv : VL l) {k c : Nat} (h : l[k]? = some c) (h34 : c ≠ 34) : redR (tx l) (Pk l k) = wrdL ((l.drop k).takeWhile (fun c => !blk c)) (Pk l k) (Pk l (k + ((l.drop k).takeWhile (fun c => !blk c)).length)) := by
  have g0 := sfx_at hv k
  rw [drop_cons h] at g0
  rw [red_word (r := []) g0 h34 rfl, pk_add, ← drop_cons h]
  rw [← wrd_take]
theorem t_bytes {l : List Nat} (hv : VL l) (k : Nat) : (tx l).extract (Pk l k) (Pk l (k + ((l.drop k).takeWhile (fun c => !blk c)).length)) = tx ((l.drop k).takeWhile (fun c => !blk c)) := by
  have g0 := sfx_at hv k
  have g1 : Sfx (tx l) ((l.drop k).takeWhile (fun c => !blk c) ++ (l.drop k).dropWhile (fun c => !blk c)) (Pk l k) := by rw [← split_while]; exact g0
  rw [pk_add, ← wrd_take]
  exact g1.extract
/-- A remark begins just where the word is the sign !. -/
theorem rm_word {l : List Nat} {k c : Nat} (h : l[k]? = some c) (hb : blk c = false) : rmL (l.drop k) = decide ((l.drop k).takeWhile (fun c => !blk c) = [33]) := by
  rw [drop_cons h]
  unfold rmL
  rw [List.head?_cons, List.tail_cons, List.takeWhile_cons, hb]
  simp only [Bool.not_false, if_true, Option.some.injEq]
  by_cases h33 : c = 33
  · subst h33
    cases hq : (l.drop (k + 1)).takeWhile (fun c => !blk c) <;> simp
  · simp [h33]
theorem bang_toList (w : List Nat) (hv : VL w) : ((tx w).toList == [33]) = decide (w = [33]) := by
  rw [Bool.eq_iff_iff, decide_eq_true_iff, beq_iff_eq, ByteArray.toList_eq, tx_data]
  constructor
  · intro h
    have e : tx w = tx [33] := by
      apply tx_inj
      rw [tx_data, h]
      rfl
    have := rns_tx hv
    rw [e, rns_tx (by intro c hc; simp at hc; subst hc; exact .inl (by decide))] at this
    exact this.symm
  · rintro rfl
    rfl
end Go.Proofs.YtfecmpebnianpaaGreatDoor
