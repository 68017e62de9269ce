/- The document's reader: words, names of a side. The document's reader: the names of a side. The document's reader: a definition. The document's reader: a definition, the walk. -/
import Derived.Test.YtfecmpebnianpaaGreatDoorGav
import Derived.Test.YtfecmpebnianpaaGreatDoorGak
namespace Go.Proofs.YtfecmpebnianpaaGreatDoor
open Go.RowKit
set_option linter.unusedSimpArgs false
set_option linter.unusedVariables false
/-- how the reader stands: where, or with which fault -/
def RS (R : Nat) (v : Value) (tl : List Tok) (n : Int) (w : World) (E : Except (Int × Int) (Nat × Int × Int)) : Prop := match E with
  | .ok (nx, o, s) => RrAt w R v tl (nx : Int) n o s 0 0 ∧ nx ≤ tl.length
  | .error (a, e) => e ≠ 0 ∧ ∃ (nx : Nat) (o s : Int), RrAt w R v tl (nx : Int) n o s a e
theorem RS.keep {R : Nat} {v : Value} {tl : List Tok} {n : Int} {w w' : World} {E : Except (Int × Int) (Nat × Int × Int)} {bs : Nat → Prop} (h : RS R v tl n w E) (hb : ∀ b, b ≤ R → ¬ bs b) (oo : Only bs w w') : RS R v tl n w' E := by
  match E with
  | .ok (nx, o, s) => exact ⟨h.1.keep hb oo, h.2⟩
  | .error (a, e) =>
    obtain ⟨h1, nx, o, s, h2⟩ := h
    exact ⟨h1, nx, o, s, h2.keep hb oo⟩
theorem RS.only {R : Nat} {v : Value} {tl : List Tok} {n : Int} {w w' : World} {E : Except (Int × Int) (Nat × Int × Int)} (h : RS R v tl n w E) (oo : Only (fun _ => False) w w') : RS R v tl n w' E := h.keep (fun _ _ h => h) oo
theorem RS.lt {R : Nat} {v : Value} {tl : List Tok} {n : Int} {w : World} {E : Except (Int × Int) (Nat × Int × Int)} (h : RS R v tl n w E) : R < w.heap.size := by
  match E with
  | .ok (nx, o, s) => exact h.1.lt
  | .error (a, e) =>
    obtain ⟨h1, nx, o, s, h2⟩ := h
    exact h2.lt
/-- behind a word that has to be there -/
def wdE (b : Nat → Bool) (tl : List Tok) (n : Int) (E : Except (Int × Int) (Nat × Int × Int)) : Except (Int × Int) (Nat × Int × Int) := match E with
  | .ok (nx, o, s) => if b nx then .ok (nx + 1, o, s) else .error (atR tl nx n, 9)
  | .error p => .error p
/-- its text -/
def wdT (tl : List Tok) (E : Except (Int × Int) (Nat × Int × Int)) : ByteArray := match E with
  | .ok (nx, _, _) => match tl[nx]? with | some t => t.t | none => ⟨#[]⟩
  | .error _ => ⟨#[]⟩
def wdP (b : Nat → Bool) (R : Nat) (v : Value) (tl : List Tok) (n : Int) (E : Except (Int × Int) (Nat × Int × Int)) (w : World) (x : Ending) (w' : World) : Prop := ∃ y, x = .returned (.string y) ∧ Hid (RS R v tl n w' (wdE b tl n E) ∧ (∀ p, wdE b tl n E = .ok p → y = wdT tl E) ∧ Only (fun b => b = R) w w')
theorem wdE_yes {b : Nat → Bool} {tl : List Tok} {n o s : Int} {nx : Nat} (h : b nx = true) : wdE b tl n (.ok (nx, o, s)) = .ok (nx + 1, o, s) := if_pos h
theorem wdE_no {b : Nat → Bool} {tl : List Tok} {n o s : Int} {nx : Nat} (h : b nx = false) : wdE b tl n (.ok (nx, o, s)) = .error (atR tl nx n, 9) := if_neg (by simp [h])
set_option maxRecDepth 100000 in
set_option maxHeartbeats 4000000 in
theorem rword_name (R : Nat) (v : Value) (tl : List Tok) (n : Int) (E : Except (Int × Int) (Nat × Int × Int)) (w : World) (htl : tl.length ≤ 4096) (h : RS R v tl n w E) :
    Calls Tryz.prog 74 #[.pointer (some ⟨R, 0, none⟩), .string ⟨#[]⟩] w (wdP (nmR tl) R v tl n E w) := by
  match E with
  | .error (a, e) =>
    obtain ⟨he, nx, o, s, h⟩ := h
    have HN : Hid (Calls Tryz.prog 78 #[.pointer (some ⟨R, 0, none⟩)] w fun x w' => x = .returned (.bool false) ∧ Only (fun _ => False) w w') := rname_no R v tl nx n o s a e w he h
    have HT : Hid (∀ w1, Only (fun _ => False) w w1 → Calls Tryz.prog 53 #[.pointer (some ⟨R, 0, none⟩)] w1 fun x w' => x = .returned (.int .i64 (atR tl nx n)) ∧ Only (fun _ => False) w1 w') := fun w1 o1 => rat_any R v tl nx n o s a e w1 (h.only o1)
    have HF : Hid (∀ k w1, Only (fun _ => False) w w1 → Calls Tryz.prog 52 #[.pointer (some ⟨R, 0, none⟩), .int .i64 k, .int .i64 9] w1 fun x w' => x = .returned (.tuple #[]) ∧ w' = w1) := fun k w1 o1 => rfail_no R v tl nx n o s a e k 9 w1 he (h.only o1)
    have H0 : Hid (e ≠ 0 ∧ RrAt w R v tl (nx : Int) n o s a e) := ⟨he, h⟩
    obtain ⟨A, hA⟩ : ∃ A, A = atR tl nx n := ⟨_, rfl⟩
    rw [← hA] at HT
    clear h he hA
    go_enter Tryz.func74, Tryz.ntmps74
    go_wp2_with fail
    refine (show Calls Tryz.prog 78 _ _ _ from HN.out).mono ?_
    rintro x w1 ⟨rfl, o1⟩
    have O1 : Hid (Only (fun _ => False) w w1) := o1
    clear HN o1
    go_wp2_with fail
    refine (show Calls Tryz.prog 53 _ _ _ from HT.out _ O1.out).mono ?_
    rintro x w2 ⟨rfl, o2⟩
    have O2 : Hid (Only (fun _ => False) w w2) := O1.out.trans o2 (fun _ _ g => g)
    clear HT o2 O1
    go_wp2_with fail
    refine (show Calls Tryz.prog 52 _ _ _ from HF.out _ _ O2.out).mono ?_
    rintro x w3 ⟨rfl, rfl⟩
    clear HF
    go_wp2
    go_ret
    exact ⟨_, rfl, ⟨H0.out.1, nx, o, s, H0.out.2.only O2.out⟩, fun p hp => by simp [wdE] at hp, O2.out.mono (fun _ _ h => h.elim)⟩
  | .ok (nx, o, s) =>
    obtain ⟨h, hx⟩ := h
    have HN : Hid (Calls Tryz.prog 78 #[.pointer (some ⟨R, 0, none⟩)] w fun x w' => x = .returned (.bool (nmR tl nx)) ∧ Only (fun _ => False) w w') := rname_any R v tl nx n o s 0 w h
    have H0 : Hid (RrAt w R v tl (nx : Int) n o s 0 0 ∧ nx ≤ tl.length ∧ tl.length ≤ 4096) := ⟨h, hx, htl⟩
    cases hb : nmR tl nx with
    | false =>
      have HT : Hid (∀ w1, Only (fun _ => False) w w1 → Calls Tryz.prog 53 #[.pointer (some ⟨R, 0, none⟩)] w1 fun x w' => x = .returned (.int .i64 (atR tl nx n)) ∧ Only (fun _ => False) w1 w') := fun w1 o1 => rat_any R v tl nx n o s 0 0 w1 (h.only o1)
      have HF : Hid (∀ k w1, Only (fun _ => False) w w1 → Calls Tryz.prog 52 #[.pointer (some ⟨R, 0, none⟩), .int .i64 k, .int .i64 9] w1 fun x w' => x = .returned (.tuple #[]) ∧ Hid (RrAt w' R v tl (nx : Int) n o s k 9 ∧ Only (fun b => b = R) w1 w')) := fun k w1 o1 => rfail_ok R v tl nx n o s 0 k 9 w1 (h.only o1)
      have HB : Hid ((nmR tl) nx = false) := hb
      obtain ⟨A, hA⟩ : ∃ A, A = atR tl nx n := ⟨_, rfl⟩
      have HA : Hid (A = atR tl nx n) := hA
      rw [← hA] at HT
      rw [hb] at HN
      clear h hA hb hx htl
      go_enter Tryz.func74, Tryz.ntmps74
      go_wp2_with fail
      refine (show Calls Tryz.prog 78 _ _ _ from HN.out).mono ?_
      rintro x w1 ⟨rfl, o1⟩
      have O1 : Hid (Only (fun _ => False) w w1) := o1
      clear HN o1
      go_wp2_with fail
      refine (show Calls Tryz.prog 53 _ _ _ from HT.out _ O1.out).mono ?_
      rintro x w2 ⟨rfl, o2⟩
      have O2 : Hid (Only (fun _ => False) w w2) := O1.out.trans o2 (fun _ _ g => g)
      clear HT o2 O1
      go_wp2_with fail
      refine (show Calls Tryz.prog 52 _ _ _ from HF.out _ _ O2.out).mono ?_
      rintro x w3 ⟨rfl, g3⟩
      clear HF
      go_wp2
      go_ret
      have e1 : wdE (nmR tl) tl n (.ok (nx, o, s)) = .error (atR tl nx n, 9) := wdE_no HB.out
      refine ⟨_, rfl, ?_, fun p hp => by rw [e1] at hp; simp at hp, (O2.out.mono (bs' := fun b => b = R) (fun _ _ h => h.elim)).trans g3.out.2 (fun _ _ g => g)⟩
      rw [e1, ← show A = _ from HA.out]
      exact ⟨by decide, nx, o, s, g3.out.1⟩
    | true =>
      have HB : Hid ((nmR tl) nx = true) := hb
      rw [hb] at HN
      cases ht : tl[nx]? with
      | none => exact absurd hb (by simp [nmR, ht])
      | some t =>
        have HTK : Hid (tl[nx]? = some t) := ht
        clear h hb hx htl ht
        go_enter Tryz.func74, Tryz.ntmps74
        go_wp2_with fail
        refine (show Calls Tryz.prog 78 _ _ _ from HN.out).mono ?_
        rintro x w1 ⟨rfl, o1⟩
        have O1 : Hid (Only (fun _ => False) w w1) := o1
        have A1 := H0.out.1.only o1
        obtain ⟨k0, k1, _, _, _, _, k6⟩ := A1.blk.cells
        have z1 := A1.blk.froz 1
        have HA1 : Hid (RrAt w1 R v tl (nx : Int) n o s 0 0) := A1
        have hx4 : nx ≤ 4096 := by have := H0.out; omega
        clear HN o1 A1
        go_wp2
        obtain ⟨W5, hW5⟩ : ∃ W5, W5 = w1.setCell ⟨R, 1, none⟩ (.int .i64 ((nx : Int) + 1)) := ⟨_, rfl⟩
        have O5 : Only (fun b => b = R) w1 W5 := by rw [hW5]; exact onlyR_set (Only.refl _ w1)
        have A5 : RrAt W5 R v tl ((nx : Int) + 1) n o s 0 0 := HA1.out.upd O5 (by rw [hW5]; exact HA1.out.blk.set1 _)
        have H5 : Hid (RrAt W5 R v tl ((nx : Int) + 1) n o s 0 0 ∧ Only (fun b => b = R) w W5) := ⟨A5, (O1.out.mono (bs' := fun b => b = R) (fun _ _ h => h.elim)).trans O5 (fun _ _ g => g)⟩
        rw [← hW5]
        clear k0 k1 k6 z1 HA1 hW5 O5 O1
        obtain ⟨k0, k1, _, _, _, _, _⟩ := A5.blk.cells
        obtain ⟨ao, cap, hv, hcap, hq⟩ := A5.tks
        obtain ⟨g, k, rfl, _, c0, c1, c2, c3⟩ := hq nx _ HTK.out
        rw [hv] at k0
        obtain ⟨L, hL⟩ : ∃ L, L = tl.length := ⟨_, rfl⟩
        rw [← hL] at k0
        have hn : nx < tl.length := (List.getElem?_eq_some_iff.1 HTK.out).1
        have i1 : (nx : Int) < (L : Int) := by omega
        have i0 : (0 : Int) ≤ (nx : Int) := by omega
        obtain ⟨ty, hty⟩ : ∃ ty, ty = t.t := ⟨_, rfl⟩
        have HTY : Hid (ty = t.t) := hty
        rw [← hty] at c1
        have i2 : (nx : Int) + 1 - 1 = (nx : Int) := by omega
        clear hv hcap hq hL hn c0 c2 c3 hty A5
        go_wp2
        go_quiet (fail)
        go_wp2
        go_ret
        have e1 : wdE (nmR tl) tl n (.ok (nx, o, s)) = .ok (nx + 1, o, s) := wdE_yes HB.out
        refine ⟨ty, rfl, ?_, fun p hp => ?_, H5.out.2.trans ((Only.refl (fun b => b = R) W5).drewN _) (fun _ _ g => g)⟩
        · rw [e1]
          refine ⟨?_, (List.getElem?_eq_some_iff.1 HTK.out).1⟩
          rw [show ((nx + 1 : Nat) : Int) = (nx : Int) + 1 by omega]
          exact H5.out.1.only ((Only.refl _ W5).drewN _)
        · unfold wdT
          dsimp only
          rw [HTK.out]
          exact HTY.out
set_option maxRecDepth 100000 in
set_option maxHeartbeats 4000000 in
theorem rword_is (R : Nat) (v : Value) (tl : List Tok) (n : Int) (sh : ByteArray) (E : Except (Int × Int) (Nat × Int × Int)) (w : World) (hsh : (sh.toList == []) = false) (htl : tl.length ≤ 4096) (h : RS R v tl n w E) :
    Calls Tryz.prog 74 #[.pointer (some ⟨R, 0, none⟩), .string sh] w (wdP (fun nx => isR tl nx sh) R v tl n E w) := by
  match E with
  | .error (a, e) =>
    obtain ⟨he, nx, o, s, h⟩ := h
    have HN : Hid (Calls Tryz.prog 49 #[.pointer (some ⟨R, 0, none⟩), .string sh] w fun x w' => x = .returned (.bool false) ∧ Only (fun _ => False) w w') := ris_no R v tl nx n o s a e sh w he h
    have HT : Hid (∀ w1, Only (fun _ => False) w w1 → Calls Tryz.prog 53 #[.pointer (some ⟨R, 0, none⟩)] w1 fun x w' => x = .returned (.int .i64 (atR tl nx n)) ∧ Only (fun _ => False) w1 w') := fun w1 o1 => rat_any R v tl nx n o s a e w1 (h.only o1)
    have HF : Hid (∀ k w1, Only (fun _ => False) w w1 → Calls Tryz.prog 52 #[.pointer (some ⟨R, 0, none⟩), .int .i64 k, .int .i64 9] w1 fun x w' => x = .returned (.tuple #[]) ∧ w' = w1) := fun k w1 o1 => rfail_no R v tl nx n o s a e k 9 w1 he (h.only o1)
    have H0 : Hid (e ≠ 0 ∧ RrAt w R v tl (nx : Int) n o s a e) := ⟨he, h⟩
    obtain ⟨A, hA⟩ : ∃ A, A = atR tl nx n := ⟨_, rfl⟩
    rw [← hA] at HT
    clear h he hA
    go_enter Tryz.func74, Tryz.ntmps74
    go_wp2_with fail
    refine (show Calls Tryz.prog 49 _ _ _ from HN.out).mono ?_
    rintro x w1 ⟨rfl, o1⟩
    have O1 : Hid (Only (fun _ => False) w w1) := o1
    clear HN o1
    go_wp2_with fail
    refine (show Calls Tryz.prog 53 _ _ _ from HT.out _ O1.out).mono ?_
    rintro x w2 ⟨rfl, o2⟩
    have O2 : Hid (Only (fun _ => False) w w2) := O1.out.trans o2 (fun _ _ g => g)
    clear HT o2 O1
    go_wp2_with fail
    refine (show Calls Tryz.prog 52 _ _ _ from HF.out _ _ O2.out).mono ?_
    rintro x w3 ⟨rfl, rfl⟩
    clear HF
    go_wp2
    go_ret
    exact ⟨_, rfl, ⟨H0.out.1, nx, o, s, H0.out.2.only O2.out⟩, fun p hp => by simp [wdE] at hp, O2.out.mono (fun _ _ h => h.elim)⟩
  | .ok (nx, o, s) =>
    obtain ⟨h, hx⟩ := h
    have HN : Hid (Calls Tryz.prog 49 #[.pointer (some ⟨R, 0, none⟩), .string sh] w fun x w' => x = .returned (.bool (isR tl nx sh)) ∧ Only (fun _ => False) w w') := ris_any R v tl nx n o s 0 sh w h
    have H0 : Hid (RrAt w R v tl (nx : Int) n o s 0 0 ∧ nx ≤ tl.length ∧ tl.length ≤ 4096) := ⟨h, hx, htl⟩
    cases hb : isR tl nx sh with
    | false =>
      have HT : Hid (∀ w1, Only (fun _ => False) w w1 → Calls Tryz.prog 53 #[.pointer (some ⟨R, 0, none⟩)] w1 fun x w' => x = .returned (.int .i64 (atR tl nx n)) ∧ Only (fun _ => False) w1 w') := fun w1 o1 => rat_any R v tl nx n o s 0 0 w1 (h.only o1)
      have HF : Hid (∀ k w1, Only (fun _ => False) w w1 → Calls Tryz.prog 52 #[.pointer (some ⟨R, 0, none⟩), .int .i64 k, .int .i64 9] w1 fun x w' => x = .returned (.tuple #[]) ∧ Hid (RrAt w' R v tl (nx : Int) n o s k 9 ∧ Only (fun b => b = R) w1 w')) := fun k w1 o1 => rfail_ok R v tl nx n o s 0 k 9 w1 (h.only o1)
      have HB : Hid ((fun nx => isR tl nx sh) nx = false) := hb
      obtain ⟨A, hA⟩ : ∃ A, A = atR tl nx n := ⟨_, rfl⟩
      have HA : Hid (A = atR tl nx n) := hA
      rw [← hA] at HT
      rw [hb] at HN
      clear h hA hb hx htl
      go_enter Tryz.func74, Tryz.ntmps74
      go_wp2_with fail
      refine (show Calls Tryz.prog 49 _ _ _ from HN.out).mono ?_
      rintro x w1 ⟨rfl, o1⟩
      have O1 : Hid (Only (fun _ => False) w w1) := o1
      clear HN o1
      go_wp2_with fail
      refine (show Calls Tryz.prog 53 _ _ _ from HT.out _ O1.out).mono ?_
      rintro x w2 ⟨rfl, o2⟩
      have O2 : Hid (Only (fun _ => False) w w2) := O1.out.trans o2 (fun _ _ g => g)
      clear HT o2 O1
      go_wp2_with fail
      refine (show Calls Tryz.prog 52 _ _ _ from HF.out _ _ O2.out).mono ?_
      rintro x w3 ⟨rfl, g3⟩
      clear HF
      go_wp2
      go_ret
      have e1 : wdE (fun nx => isR tl nx sh) tl n (.ok (nx, o, s)) = .error (atR tl nx n, 9) := wdE_no HB.out
      refine ⟨_, rfl, ?_, fun p hp => by rw [e1] at hp; simp at hp, (O2.out.mono (bs' := fun b => b = R) (fun _ _ h => h.elim)).trans g3.out.2 (fun _ _ g => g)⟩
      rw [e1, ← show A = _ from HA.out]
      exact ⟨by decide, nx, o, s, g3.out.1⟩
    | true =>
      have HB : Hid ((fun nx => isR tl nx sh) nx = true) := hb
      rw [hb] at HN
      cases ht : tl[nx]? with
      | none => exact absurd hb (by simp [isR, ht])
      | some t =>
        have HTK : Hid (tl[nx]? = some t) := ht
        clear h hb hx htl ht
        go_enter Tryz.func74, Tryz.ntmps74
        go_wp2_with fail
        refine (show Calls Tryz.prog 49 _ _ _ from HN.out).mono ?_
        rintro x w1 ⟨rfl, o1⟩
        have O1 : Hid (Only (fun _ => False) w w1) := o1
        have A1 := H0.out.1.only o1
        obtain ⟨k0, k1, _, _, _, _, k6⟩ := A1.blk.cells
        have z1 := A1.blk.froz 1
        have HA1 : Hid (RrAt w1 R v tl (nx : Int) n o s 0 0) := A1
        have hx4 : nx ≤ 4096 := by have := H0.out; omega
        clear HN o1 A1
        go_wp2
        obtain ⟨W5, hW5⟩ : ∃ W5, W5 = w1.setCell ⟨R, 1, none⟩ (.int .i64 ((nx : Int) + 1)) := ⟨_, rfl⟩
        have O5 : Only (fun b => b = R) w1 W5 := by rw [hW5]; exact onlyR_set (Only.refl _ w1)
        have A5 : RrAt W5 R v tl ((nx : Int) + 1) n o s 0 0 := HA1.out.upd O5 (by rw [hW5]; exact HA1.out.blk.set1 _)
        have H5 : Hid (RrAt W5 R v tl ((nx : Int) + 1) n o s 0 0 ∧ Only (fun b => b = R) w W5) := ⟨A5, (O1.out.mono (bs' := fun b => b = R) (fun _ _ h => h.elim)).trans O5 (fun _ _ g => g)⟩
        rw [← hW5]
        clear k0 k1 k6 z1 HA1 hW5 O5 O1
        obtain ⟨k0, k1, _, _, _, _, _⟩ := A5.blk.cells
        obtain ⟨ao, cap, hv, hcap, hq⟩ := A5.tks
        obtain ⟨g, k, rfl, _, c0, c1, c2, c3⟩ := hq nx _ HTK.out
        rw [hv] at k0
        obtain ⟨L, hL⟩ : ∃ L, L = tl.length := ⟨_, rfl⟩
        rw [← hL] at k0
        have hn : nx < tl.length := (List.getElem?_eq_some_iff.1 HTK.out).1
        have i1 : (nx : Int) < (L : Int) := by omega
        have i0 : (0 : Int) ≤ (nx : Int) := by omega
        obtain ⟨ty, hty⟩ : ∃ ty, ty = t.t := ⟨_, rfl⟩
        have HTY : Hid (ty = t.t) := hty
        rw [← hty] at c1
        have i2 : (nx : Int) + 1 - 1 = (nx : Int) := by omega
        clear hv hcap hq hL hn c0 c2 c3 hty A5
        go_wp2
        go_quiet (fail)
        go_wp2
        go_ret
        have e1 : wdE (fun nx => isR tl nx sh) tl n (.ok (nx, o, s)) = .ok (nx + 1, o, s) := wdE_yes HB.out
        refine ⟨ty, rfl, ?_, fun p hp => ?_, H5.out.2.trans ((Only.refl (fun b => b = R) W5).drewN _) (fun _ _ g => g)⟩
        · rw [e1]
          refine ⟨?_, (List.getElem?_eq_some_iff.1 HTK.out).1⟩
          rw [show ((nx + 1 : Nat) : Int) = (nx : Int) + 1 by omega]
          exact H5.out.1.only ((Only.refl _ W5).drewN _)
        · unfold wdT
          dsimp only
          rw [HTK.out]
          exact HTY.out
end Go.Proofs.YtfecmpebnianpaaGreatDoor
namespace Go.Proofs.YtfecmpebnianpaaGreatDoor
open Go.RowKit
set_option linter.unusedSimpArgs false
set_option linter.unusedVariables false
theorem sd_shut {n : Int} {tl : List Tok} {nx k : Nat} {sh : ByteArray} (h : isR tl nx sh = true) : sdR n sh k (tl.drop nx) = .ok (k, tl.drop (nx + 1)) := by
  unfold isR at h
  cases ht : tl[nx]? with
  | none => rw [ht] at h; simp at h
  | some t =>
    rw [ht] at h
    rw [drop_some ht]
    unfold sdR
    rw [if_pos h]
theorem sd_bad {n : Int} {tl : List Tok} {nx k : Nat} {sh : ByteArray} (h : isR tl nx sh = false) (h2 : nmR tl nx = false) : sdR n sh k (tl.drop nx) = .error (atR tl nx n, 9) := by
  unfold isR at h
  unfold nmR at h2
  unfold atR
  cases ht : tl[nx]? with
  | none => rw [drop_none ht]; rfl
  | some t =>
    rw [ht] at h h2
    dsimp only at h h2
    rw [drop_some ht]
    unfold sdR
    rw [if_neg (by simp [h]), if_neg (by simp [h2])]
theorem sd_go {n : Int} {tl : List Tok} {nx k : Nat} {sh : ByteArray} (h : isR tl nx sh = false) (h2 : nmR tl nx = true) : sdR n sh k (tl.drop nx) = if k = 16 then .error (atR tl nx n, 11) else sdR n sh (k + 1) (tl.drop (nx + 1)) := by
  unfold isR at h
  unfold nmR at h2
  unfold atR
  cases ht : tl[nx]? with
  | none => rw [ht] at h2; simp at h2
  | some t =>
    rw [ht] at h h2
    dsimp only at h h2
    rw [drop_some ht]
    conv =>
      lhs
      unfold sdR
    rw [if_neg (by simp [h]), if_pos h2]
/-- what names comes to -/
def nmQ (R : Nat) (v : Value) (tl : List Tok) (n o s : Int) (w : World) (Z : Except (Int × Int) (Nat × List Tok)) (i : Int) (w' : World) : Prop := match Z with
  | .ok (j, q') => i = (j : Int) ∧ ∃ nx' : Nat, q' = tl.drop nx' ∧ nx' ≤ tl.length ∧ RrW R v tl (nx' : Int) n o s 0 0 w w'
  | .error (a, e) => e ≠ 0 ∧ RrF R v tl n a e w w'
set_option maxRecDepth 100000 in
set_option maxHeartbeats 8000000 in
theorem rnames_core (R : Nat) (v : Value) (tl : List Tok) (n o s : Int) (sh : ByteArray) (Z : Except (Int × Int) (Nat × List Tok)) (w : World) (hsh : (sh.toList == []) = false) (htl : tl.length ≤ 4096) (hst : (∃ nx : Nat, Z = sdR n sh 0 (tl.drop nx) ∧ nx ≤ tl.length ∧ RrAt w R v tl (nx : Int) n o s 0 0) ∨ (∃ a e, Z = .error (a, e) ∧ e ≠ 0 ∧ RrF R v tl n a e w w)) :
    Calls Tryz.prog 75 #[.pointer (some ⟨R, 0, none⟩), .string sh] w fun x w' => ∃ i, x = .returned (.int .i64 i) ∧ Hid (nmQ R v tl n o s w Z i w') := by
  have HST : Hid ((∃ nx : Nat, Z = sdR n sh 0 (tl.drop nx) ∧ nx ≤ tl.length ∧ RrAt w R v tl (nx : Int) n o s 0 0) ∨ (∃ a e, Z = .error (a, e) ∧ e ≠ 0 ∧ RrF R v tl n a e w w)) := hst
  have HW : Hid (∀ E w1, RS R v tl n w1 E → Calls Tryz.prog 74 #[.pointer (some ⟨R, 0, none⟩), .string sh] w1 (wdP (fun nx => isR tl nx sh) R v tl n E w1)) := fun E w1 h => rword_is R v tl n sh E w1 hsh htl h
  have HN : Hid (∀ E w1, RS R v tl n w1 E → Calls Tryz.prog 74 #[.pointer (some ⟨R, 0, none⟩), .string ⟨#[]⟩] w1 (wdP (nmR tl) R v tl n E w1)) := fun E w1 h => rword_name R v tl n E w1 htl h
  clear hst hsh htl
  go_enter Tryz.func75, Tryz.ntmps75
  go_wp2
  go_loopw [5] (fun r5 wr => (∃ (k nx : Nat), r5 = .int .i64 (k : Int) ∧ Hid (Z = sdR n sh k (tl.drop nx) ∧ k ≤ 16 ∧ nx ≤ tl.length ∧ RrAt wr R v tl (nx : Int) n o s 0 0 ∧ Only (fun b => b = R) w wr)) ∨ (∃ k : Nat, r5 = .int .i64 (k : Int) ∧ Hid (k ≤ 17 ∧ ∃ a e, Z = .error (a, e) ∧ e ≠ 0 ∧ RrF R v tl n a e w wr))) (fun _ wr => rrM R tl.length wr)
  case atStart =>
    rcases HST.out with ⟨nx, h1, h2, h3⟩ | ⟨a, e, h1, h2, h3⟩
    · exact .inl ⟨0, nx, rfl, h1, by omega, h2, h3, Only.refl _ _⟩
    · exact .inr ⟨0, rfl, by omega, a, e, h1, h2, h3⟩
  case round =>
    clear HST
    rcases hrel with ⟨k, nx, rfl, HI⟩ | ⟨k, rfl, HF⟩
    · obtain ⟨w1, rfl⟩ : ∃ w1, w1 = wr := ⟨_, rfl⟩
      have KM : Hid (rrM R tl.length w1 = tl.length - nx + 2) := rrM_ok HI.out.2.2.2.1
      have HC : Hid (Calls Tryz.prog 49 #[.pointer (some ⟨R, 0, none⟩), .string sh] w1 fun x w' => x = .returned (.bool (isR tl nx sh)) ∧ Only (fun _ => False) w1 w') := ris_any R v tl nx n o s 0 sh w1 HI.out.2.2.2.1
      obtain ⟨_, _, _, _, _, _, k6⟩ := HI.out.2.2.2.1.blk.cells
      have hk16 : (k : Int) ≤ 16 := by have := HI.out.2.1; omega
      cases hb : isR tl nx sh with
      | true =>
        rw [hb] at HC
        have HE : Hid (Z = .ok (k, tl.drop (nx + 1))) := HI.out.1.trans (sd_shut hb)
        have HB : Hid (isR tl nx sh = true) := hb
        clear hb
        go_wp2_with fail
        refine (show Calls Tryz.prog 49 _ _ _ from HC.out).mono ?_
        rintro x w2 ⟨rfl, o2⟩
        have HW2 : Hid (Calls Tryz.prog 74 #[.pointer (some ⟨R, 0, none⟩), .string sh] w2 (wdP (fun nx => isR tl nx sh) R v tl n (.ok (nx, o, s)) w2)) := HW.out (.ok (nx, o, s)) w2 ⟨HI.out.2.2.2.1.only o2, HI.out.2.2.1⟩
        have O2 : Hid (Only (fun b => b = R) w w2) := HI.out.2.2.2.2.trans (o2.mono (bs' := fun b => b = R) (fun _ _ h => h.elim)) (fun _ _ g => g)
        clear HC HI o2 k6 HW HN
        go_wp2_with fail
        refine (show Calls Tryz.prog 74 _ _ _ from HW2.out).mono ?_
        rintro x w3 ⟨y, rfl, g3⟩
        clear HW2
        go_wp2
        go_ret
        refine ⟨k, rfl, ?_⟩
        show nmQ R v tl n o s w Z (k : Int) w3
        rw [show Z = _ from HE.out]
        have hr := g3.out.1
        rw [wdE_yes (b := fun nx => isR tl nx sh) HB.out] at hr
        exact ⟨rfl, nx + 1, rfl, isR_lt HB.out, hr.1, O2.out.trans g3.out.2.2 (fun _ _ g => g)⟩
      | false =>
        rw [hb] at HC
        go_wp2_with fail
        refine (show Calls Tryz.prog 49 _ _ _ from HC.out).mono ?_
        rintro x w2 ⟨rfl, o2⟩
        have H2 : Hid (RrAt w2 R v tl (nx : Int) n o s 0 0 ∧ Only (fun b => b = R) w w2) := ⟨HI.out.2.2.2.1.only o2, HI.out.2.2.2.2.trans (o2.mono (bs' := fun b => b = R) (fun _ _ h => h.elim)) (fun _ _ g => g)⟩
        have HT : Hid (Calls Tryz.prog 53 #[.pointer (some ⟨R, 0, none⟩)] w2 fun x w' => x = .returned (.int .i64 (atR tl nx n)) ∧ Only (fun _ => False) w2 w') := rat_any R v tl nx n o s 0 0 w2 H2.out.1
        obtain ⟨A, hA⟩ : ∃ A, A = atR tl nx n := ⟨_, rfl⟩
        have HA : Hid (A = atR tl nx n) := hA
        rw [← hA] at HT
        clear HC o2 k6 hA
        go_wp2_with fail
        refine (show Calls Tryz.prog 53 _ _ _ from HT.out).mono ?_
        rintro x w3 ⟨rfl, o3⟩
        have H3 : Hid (RrAt w3 R v tl (nx : Int) n o s 0 0 ∧ Only (fun b => b = R) w w3) := ⟨H2.out.1.only o3, H2.out.2.trans (o3.mono (bs' := fun b => b = R) (fun _ _ h => h.elim)) (fun _ _ g => g)⟩
        have HN2 : Hid (Calls Tryz.prog 74 #[.pointer (some ⟨R, 0, none⟩), .string ⟨#[]⟩] w3 (wdP (nmR tl) R v tl n (.ok (nx, o, s)) w3)) := HN.out (.ok (nx, o, s)) w3 ⟨H3.out.1, HI.out.2.2.1⟩
        clear HT H2 o3
        go_wp2_with fail
        refine (show Calls Tryz.prog 74 _ _ _ from HN2.out).mono ?_
        rintro x w4 ⟨y, rfl, g4⟩
        clear HN2
        have O4 : Hid (Only (fun b => b = R) w w4) := H3.out.2.trans g4.out.2.2 (fun _ _ g => g)
        have HK : Hid (k ≤ 16) := HI.out.2.1
        cases hm : nmR tl nx with
        | false =>
          have HE : Hid (Z = .error (A, 9)) := by
            show Z = _
            rw [HI.out.1, sd_bad hb hm, show A = _ from HA.out]
          have HR4 : Hid (∃ (nf : Nat) (of sf : Int), RrAt w4 R v tl (nf : Int) n of sf A 9) := by
            have hr := g4.out.1
            rw [wdE_no (b := nmR tl) hm, ← show A = _ from HA.out] at hr
            exact hr.2
          have HF : Hid (∀ c, Calls Tryz.prog 52 #[.pointer (some ⟨R, 0, none⟩), .int .i64 c, .int .i64 11] w4 fun x w' => x = .returned (.tuple #[]) ∧ w' = w4) := fun c => by
            obtain ⟨nf, of, sf, hr⟩ := HR4.out
            exact rfail_no R v tl nf n of sf A 9 c 11 w4 (by decide) hr
          clear HI hb hm g4 H3 HN HW
          by_cases hk : k = 16
          · subst hk
            go_wp2_with fail
            refine (show Calls Tryz.prog 52 _ _ _ from HF.out _).mono ?_
            rintro x w5 ⟨rfl, rfl⟩
            clear HF
            go_wp2
            go_roundw
            case rel => exact .inr ⟨17, by rfl, by omega, A, 9, HE.out, by decide, by obtain ⟨nf, of, sf, hr⟩ := HR4.out; exact ⟨nf, of, sf, hr, O4.out⟩⟩
            case measure =>
              obtain ⟨nf, of, sf, hr⟩ := HR4.out
              rw [rrM_bad (by decide) hr, show rrM _ _ _ = _ from KM.out]
              omega
          · have i1 : ¬ (16 < (k : Int) + 1) := by have := HK.out; omega
            have i2 : (k : Int) + 1 ≤ 16 := by have := HK.out; omega
            clear HF
            go_wp2
            go_roundw
            case rel => exact .inr ⟨k + 1, by go_num, by have := HK.out; omega, A, 9, HE.out, by decide, by obtain ⟨nf, of, sf, hr⟩ := HR4.out; exact ⟨nf, of, sf, hr, O4.out⟩⟩
            case measure =>
              obtain ⟨nf, of, sf, hr⟩ := HR4.out
              rw [rrM_bad (by decide) hr, show rrM _ _ _ = _ from KM.out]
              omega
        | true =>
          have HR4 : Hid (RrAt w4 R v tl ((nx + 1 : Nat) : Int) n o s 0 0 ∧ nx + 1 ≤ tl.length) := by
            have hr := g4.out.1
            rw [wdE_yes (b := nmR tl) hm] at hr
            exact hr
          have HE : Hid (Z = if k = 16 then .error (A, 11) else sdR n sh (k + 1) (tl.drop (nx + 1))) := by
            show Z = _
            rw [HI.out.1, sd_go hb hm, show A = _ from HA.out]
          have HF : Hid (∀ c, Calls Tryz.prog 52 #[.pointer (some ⟨R, 0, none⟩), .int .i64 c, .int .i64 11] w4 fun x w' => x = .returned (.tuple #[]) ∧ Hid (RrAt w' R v tl ((nx + 1 : Nat) : Int) n o s c 11 ∧ Only (fun b => b = R) w4 w')) := fun c => rfail_ok R v tl _ n o s 0 c 11 w4 HR4.out.1
          clear HI hb hm g4 H3 HN HW
          by_cases hk : k = 16
          · subst hk
            go_wp2_with fail
            refine (show Calls Tryz.prog 52 _ _ _ from HF.out _).mono ?_
            rintro x w5 ⟨rfl, g5⟩
            clear HF
            go_wp2
            go_roundw
            case rel => exact .inr ⟨17, by rfl, by omega, A, 11, by have := HE.out; simpa using this, by decide, nx + 1, o, s, g5.out.1, O4.out.trans g5.out.2 (fun _ _ g => g)⟩
            case measure =>
              rw [rrM_bad (by decide) g5.out.1, show rrM _ _ _ = _ from KM.out]
              omega
          · have i1 : ¬ (16 < (k : Int) + 1) := by have := HK.out; omega
            have i2 : (k : Int) + 1 ≤ 16 := by have := HK.out; omega
            have HK2 : Hid (¬ k = 16) := hk
            clear HF hk
            go_wp2
            go_roundw
            case rel => exact .inl ⟨k + 1, nx + 1, by go_num, by rw [show Z = _ from HE.out, if_neg HK2.out], by have := HK.out; have := HK2.out; omega, HR4.out.2, HR4.out.1, O4.out⟩
            case measure =>
              rw [rrM_ok HR4.out.1, show rrM _ _ _ = _ from KM.out]
              have := HR4.out.2
              omega
    · obtain ⟨w1, rfl⟩ : ∃ w1, w1 = wr := ⟨_, rfl⟩
      obtain ⟨_, a, e, hz, he, nf, of, sf, hr, oR⟩ := HF.out
      obtain ⟨_, _, _, _, _, _, k6⟩ := hr.blk.cells
      have he2 : (e == 0) = false := by simp [he]
      have HW2 : Hid (Calls Tryz.prog 74 #[.pointer (some ⟨R, 0, none⟩), .string sh] w1 (wdP (fun nx => isR tl nx sh) R v tl n (.error (a, e)) w1)) := HW.out (.error (a, e)) w1 ⟨he, nf, of, sf, hr⟩
      have H1 : Hid (Z = .error (a, e) ∧ Only (fun b => b = R) w w1 ∧ e ≠ 0) := ⟨hz, oR, he⟩
      clear hz he hr oR HW HN HF
      go_wp2_with fail
      refine (show Calls Tryz.prog 74 _ _ _ from HW2.out).mono ?_
      rintro x w3 ⟨y, rfl, g3⟩
      clear HW2 k6
      go_wp2
      go_ret
      refine ⟨k, rfl, ?_⟩
      show nmQ R v tl n o s w Z (k : Int) w3
      rw [H1.out.1]
      obtain ⟨_, nf, of, sf, hr⟩ := g3.out.1
      exact ⟨H1.out.2.2, nf, of, sf, hr, H1.out.2.1.trans g3.out.2.2 (fun _ _ g => g)⟩
end Go.Proofs.YtfecmpebnianpaaGreatDoor
namespace Go.Proofs.YtfecmpebnianpaaGreatDoor
open Go.RowKit
set_option linter.unusedSimpArgs false
set_option linter.unusedVariables false
def dD1 (tl : List Tok) (n : Int) (nx : Nat) : Except (Int × Int) (Nat × Int × Int) := wdE (nmR tl) tl n (.ok (nx + 1, 1, 1))
def dD2 (tl : List Tok) (n : Int) (nx : Nat) : Except (Int × Int) (Nat × Int × Int) := wdE (fun x => isR tl x ⟨#[40]⟩) tl n (dD1 tl n nx)
def dD3 (tl : List Tok) (n : Int) (nx : Nat) : Except (Int × Int) (Nat × List Tok) := match dD2 tl n nx with
  | .ok (x, _, _) => sdR n ⟨#[45, 45]⟩ 0 (tl.drop x)
  | .error p => .error p
def dD4 (tl : List Tok) (n : Int) (nx : Nat) : Except (Int × Int) (Nat × List Tok) := match dD3 tl n nx with
  | .ok (_, q) => sdR n ⟨#[41]⟩ 0 q
  | .error p => .error p
def dD5 (tl : List Tok) (n : Int) (F nx : Nat) : Except (Int × Int) (List Tre × List Tok × Int) := match dD4 tl n nx with
  | .ok (_, q) => prs n F 4 q 1 1
  | .error p => .error p
theorem dfR_steps {n : Int} {F : Nat} {tl : List Tok} {nx : Nat} {t0 : Tok} (ht : tl[nx]? = some t0) : dfR n F (tl.drop nx) 0 0 = (match dD5 tl n F nx with
    | .error p => .error p
    | .ok (l, q6, z') => match dD3 tl n nx, dD4 tl n nx with
      | .ok (i, _), .ok (j, _) => .ok (⟨true, wdT tl (.ok (nx + 1, 1, 1)), i, j, l, noT⟩, q6, z')
      | _, _ => .error (0, 0)) := by
  rw [drop_some ht]
  unfold dfR
  dsimp only
  rw [if_neg (by omega)]
  cases h1 : tl[nx + 1]? with
  | none =>
    have e1 : dD1 tl n nx = .error (n, 9) := by
      unfold dD1
      rw [wdE_no (by unfold nmR; rw [h1])]
      unfold atR
      rw [h1]
    rw [drop_none h1]
    simp [dfN, dD5, dD4, dD3, dD2, e1, wdE]
  | some t1 =>
    rw [drop_some h1]
    unfold dfN
    dsimp only
    cases hn : nmB t1 with
    | false =>
      have e1 : dD1 tl n nx = .error (t1.a, 9) := by
        unfold dD1
        rw [wdE_no (by unfold nmR; rw [h1]; exact hn)]
        unfold atR
        rw [h1]
      rw [if_pos rfl]
      simp [dD5, dD4, dD3, dD2, e1, wdE]
    | true =>
      rw [if_neg (by simp)]
      have e1 : dD1 tl n nx = .ok (nx + 1 + 1, 1, 1) := by
        unfold dD1
        exact wdE_yes (by unfold nmR; rw [h1]; exact hn)
      have et : wdT tl (.ok (nx + 1, 1, 1)) = t1.t := by unfold wdT; dsimp only; rw [h1]
      rw [et]
      cases h2 : tl[nx + 1 + 1]? with
      | none =>
        have e2 : dD2 tl n nx = .error (n, 9) := by
          unfold dD2
          rw [e1, wdE_no (by unfold isR; rw [h2])]
          unfold atR
          rw [h2]
        rw [drop_none h2]
        simp [dfQ, dD5, dD4, dD3, e2]
      | some t2 =>
        rw [drop_some h2]
        unfold dfQ
        dsimp only
        cases hb : isB t2 ⟨#[40]⟩ with
        | false =>
          have e2 : dD2 tl n nx = .error (t2.a, 9) := by
            unfold dD2
            rw [e1, wdE_no (by unfold isR; rw [h2]; exact hb)]
            unfold atR
            rw [h2]
          rw [if_pos rfl]
          simp [dD5, dD4, dD3, e2]
        | true =>
          rw [if_neg (by simp)]
          have e2 : dD2 tl n nx = .ok (nx + 1 + 1 + 1, 1, 1) := by
            unfold dD2
            rw [e1]
            exact wdE_yes (b := fun x => isR tl x ⟨#[40]⟩) (by unfold isR; rw [h2]; exact hb)
          unfold dfA
          cases h3 : sdR n ⟨#[45, 45]⟩ 0 (tl.drop (nx + 1 + 1 + 1)) with
          | error p =>
            have e3 : dD3 tl n nx = .error p := by unfold dD3; rw [e2]; exact h3
            simp [dD5, dD4, e3]
          | ok p =>
            obtain ⟨i, q4⟩ := p
            have e3 : dD3 tl n nx = .ok (i, q4) := by unfold dD3; rw [e2]; exact h3
            dsimp only
            unfold dfB
            cases h4 : sdR n ⟨#[41]⟩ 0 q4 with
            | error p =>
              have e4 : dD4 tl n nx = .error p := by unfold dD4; rw [e3]; exact h4
              simp [dD5, e4]
            | ok p =>
              obtain ⟨j, q5⟩ := p
              have e4 : dD4 tl n nx = .ok (j, q5) := by unfold dD4; rw [e3]; exact h4
              dsimp only
              unfold dfC
              cases h5 : prs n F 4 q5 1 1 with
              | error p =>
                have e5 : dD5 tl n F nx = .error p := by unfold dD5; rw [e4]; exact h5
                rw [e5]
                simp [h5]
              | ok p =>
                obtain ⟨l, q6, z'⟩ := p
                have e5 : dD5 tl n F nx = .ok (l, q6, z') := by unfold dD5; rw [e4]; exact h5
                rw [e5, e3, e4]
                simp [h5]
/-- what define answers -/
def rdP (R : Nat) (v : Value) (tl : List Tok) (n : Int) (F : Nat) (w : World) (Z : Except (Int × Int) (Fm × List Tok × Int)) (x : Ending) (w' : World) : Prop := match Z with
  | .ok (fm, q', z') => ∃ ao L cap nx' s', x = .returned (.agg #[.string fm.nm, .int .i64 (fm.i : Int), .int .i64 (fm.j : Int), .slice ao L cap]) ∧ Hid (fm.d = true ∧ fm.it = noT ∧ q' = tl.drop nx' ∧ nx' ≤ tl.length ∧ NvAt w' w.heap.size (F + 1) (bdT fm) (.slice ao L cap) ∧ 0 ≤ s' ∧ s' ≤ 1024 ∧ RrW R v tl (nx' : Int) n 0 s' 0 0 w w')
  | .error (a, e) => ∃ y i j ao L cap, x = .returned (.agg #[.string y, .int .i64 i, .int .i64 j, .slice ao L cap]) ∧ Hid (e ≠ 0 ∧ RrF R v tl n a e w w')
/-- a definition under way -/
def DfB (w : World) (P : Nat) (y : ByteArray) (i j : Int) (sl : Value) : Prop := w.heap[P]? = some (.cells #[.string y, .int .i64 i, .int .i64 j, sl] 71)
theorem DfB.on {w w' : World} {P R : Nat} {y : ByteArray} {i j : Int} {sl : Value} (h : DfB w P y i j sl) (hR : R < P) (oo : Only (fun b => b = R) w w') : DfB w' P y i j sl := (oo.block P (Array.getElem?_eq_some_iff.1 h).1 (by omega)).trans h
theorem DfB.set1 {w : World} {P : Nat} {y : ByteArray} {i j : Int} {sl : Value} (h : DfB w P y i j sl) (u : Int) : DfB (w.setCell ⟨P, 1, none⟩ (.int .i64 u)) P y u j sl := (heap_setCell_same _ _ _ _ _ _ h).trans rfl
theorem DfB.set2 {w : World} {P : Nat} {y : ByteArray} {i j : Int} {sl : Value} (h : DfB w P y i j sl) (u : Int) : DfB (w.setCell ⟨P, 2, none⟩ (.int .i64 u)) P y i u sl := (heap_setCell_same _ _ _ _ _ _ h).trans rfl
theorem DfB.set3 {w : World} {P : Nat} {y : ByteArray} {i j : Int} {sl : Value} (h : DfB w P y i j sl) (u : Value) : DfB (w.setCell ⟨P, 3, none⟩ u) P y i j u := (heap_setCell_same _ _ _ _ _ _ h).trans rfl
theorem DfB.other {w w' : World} {P Q : Nat} {y : ByteArray} {i j : Int} {sl : Value} (h : DfB w P y i j sl) (hPQ : P ≠ Q) (oo : Only (fun b => b = Q) w w') : DfB w' P y i j sl := (oo.block P (Array.getElem?_eq_some_iff.1 h).1 (by omega)).trans h
theorem DfB.cells {w : World} {P : Nat} {y : ByteArray} {i j : Int} {sl : Value} (h : DfB w P y i j sl) : (w.cell? ⟨P, 0, none⟩ = some (.string y) ∧ w.cell? ⟨P, 1, none⟩ = some (.int .i64 i) ∧ w.cell? ⟨P, 2, none⟩ = some (.int .i64 j) ∧ w.cell? ⟨P, 3, none⟩ = some sl) ∧ w.frozen? ⟨P, 0, none⟩ = false ∧ w.frozen? ⟨P, 1, none⟩ = false ∧ w.frozen? ⟨P, 2, none⟩ = false ∧ w.frozen? ⟨P, 3, none⟩ = false :=
  ⟨⟨blk_cells h 0, blk_cells h 1, blk_cells h 2, blk_cells h 3⟩, blk_froz h 0, blk_froz h 1, blk_froz h 2, blk_froz h 3⟩
theorem results_def {fn : Func} {u : Tmp} (h : fn.results = #[.cell u 71]) (tmps : Array Value) (w : World) (B : Nat) {x y z r : Value} (h0 : w.cell? ⟨B, 0, none⟩ = some x) (h1 : w.cell? ⟨B, 1, none⟩ = some y) (h2 : w.cell? ⟨B, 2, none⟩ = some z) (h3 : w.cell? ⟨B, 3, none⟩ = some r) (ha : tmps.getD u undef = .pointer (some ⟨B, 0, none⟩)) :
    (results fn tmps).run Tryz.prog w = .ok (.agg #[x, y, z, r]) w := by
  have ha' : tmps[u]?.getD undef = .pointer (some ⟨B, 0, none⟩) := by simpa using ha
  simp [results, h, ha', asAddr, go_sem, loadVar, isAgg, Tryz.underlying71, h0, h1, h2, h3]
end Go.Proofs.YtfecmpebnianpaaGreatDoor
namespace Go.Proofs.YtfecmpebnianpaaGreatDoor
open Go.RowKit
set_option linter.unusedSimpArgs false
set_option linter.unusedVariables false
abbrev dfZ : Obj := .cells #[.string ⟨#[]⟩, .int .i64 0, .int .i64 0, .slice none 0 0] 71
theorem onP {w w1 : World} {R P j : Nat} {u : Value} (h : Only (fun b => b = R) w w1) (hP : w.heap.size ≤ P) : Only (fun b => b = R) w (w1.setCell ⟨P, j, none⟩ u) := h.setCell _ _ (fun g => by simp only at g; omega)
/-- names, whatever came ahead -/
theorem rnames_st (R : Nat) (v : Value) (tl : List Tok) (n : Int) (sh : ByteArray) (Z : Except (Int × Int) (Nat × List Tok)) (w : World) (hsh : (sh.toList == []) = false) (htl : tl.length ≤ 4096) (w0 : World) (i0 : Int) (Y : Except (Int × Int) (Nat × List Tok)) (hY : nmQ R v tl n 1 1 w0 Y i0 w) (hZ1 : ∀ j q, Y = .ok (j, q) → Z = sdR n sh 0 q) (hZ2 : ∀ p, Y = .error p → Z = .error p) :
    Calls Tryz.prog 75 #[.pointer (some ⟨R, 0, none⟩), .string sh] w fun x w' => ∃ i, x = .returned (.int .i64 i) ∧ Hid (nmQ R v tl n 1 1 w Z i w') := by
  refine rnames_core R v tl n 1 1 sh Z w hsh htl ?_
  match Y with
  | .ok (j, q) =>
    obtain ⟨_, nx, h1, h2, h3⟩ := hY
    exact .inl ⟨nx, by rw [hZ1 j q rfl, h1], h2, h3.1⟩
  | .error (a, e) =>
    obtain ⟨h1, nf, of, sf, h2, _⟩ := hY
    exact .inr ⟨a, e, hZ2 _ rfl, h1, nf, of, sf, h2, Only.refl _ _⟩
theorem nmQ.keep {R : Nat} {v : Value} {tl : List Tok} {n o s : Int} {w w1 w2 : World} {Z : Except (Int × Int) (Nat × List Tok)} {i : Int} {bs : Nat → Prop} (h : nmQ R v tl n o s w Z i w1) (hb : ∀ b, b ≤ R → ¬ bs b) (oo : Only bs w1 w2) : nmQ R v tl n o s w2 Z i w2 := by
  match Z with
  | .ok (j, q) =>
    obtain ⟨h1, nx, h2, h3, h4⟩ := h
    exact ⟨h1, nx, h2, h3, h4.1.keep hb oo, Only.refl _ _⟩
  | .error (a, e) =>
    obtain ⟨h1, nf, of, sf, h2, _⟩ := h
    exact ⟨h1, nf, of, sf, h2.keep hb oo, Only.refl _ _⟩
theorem nmQ.on {R : Nat} {v : Value} {tl : List Tok} {n o s : Int} {w w1 : World} {Z : Except (Int × Int) (Nat × List Tok)} {i : Int} (h : nmQ R v tl n o s w Z i w1) : Only (fun b => b = R) w w1 := by
  match Z with
  | .ok (j, q) =>
    obtain ⟨h1, nx, h2, h3, h4⟩ := h
    exact h4.2
  | .error (a, e) =>
    obtain ⟨h1, nf, of, sf, h2, h3⟩ := h
    exact h3
theorem riQ.on {R : Nat} {v : Value} {tl : List Tok} {n : Int} {f B : Nat} {o : Int} {w w1 : World} {Z : Except (Int × Int) (List Tre × List Tok × Int)} {x : Ending} (h : riQ R v tl n f o w B Z x w1) : Only (fun b => b = R) w w1 ∧ ∃ ao L cap, x = .returned (.slice ao L cap) := by
  match Z with
  | .ok (l, q, z) =>
    obtain ⟨ao, cap, nx, h1, h2⟩ := h
    exact ⟨h2.out.2.2.2.2, ao, _, cap, h1⟩
  | .error (a, e) =>
    obtain ⟨ao, L, cap, h1, h2⟩ := h
    obtain ⟨_, _, _, _, _, h3⟩ := h2.out
    exact ⟨h3, ao, L, cap, h1⟩
set_option maxRecDepth 100000 in
set_option maxHeartbeats 8000000 in
theorem rdef_any (R : Nat) (v : Value) (tl : List Tok) (nx : Nat) (n s : Int) (F : Nat) (t0 : Tok) (w : World) (htl : tl.length ≤ 4096) (hs : 0 ≤ s) (hs1 : s ≤ 1024) (hF : 3 * tl.length + 3 ≤ F) (ht : tl[nx]? = some t0) (h : RrAt w R v tl (nx : Int) n 0 s 0 0) :
    Calls Tryz.prog 50 #[.pointer (some ⟨R, 0, none⟩)] w (rdP R v tl n F w (dfR n F (tl.drop nx) 0 0)) := by
  have hnx : nx < tl.length := (List.getElem?_eq_some_iff.1 ht).1
  have HQ : Hid (dfR n F (tl.drop nx) 0 0 = (match dD5 tl n F nx with
    | .error p => .error p
    | .ok (l, q6, z') => match dD3 tl n nx, dD4 tl n nx with
      | .ok (i, _), .ok (j, _) => .ok (⟨true, wdT tl (.ok (nx + 1, 1, 1)), i, j, l, noT⟩, q6, z')
      | _, _ => .error (0, 0))) := dfR_steps ht
  have HE : Hid (Calls Tryz.prog 73 #[.pointer (some ⟨R, 0, none⟩)] (w.alloc dfZ) fun x w' => x = .returned (.tuple #[]) ∧ Hid (RS R v tl n w' (.ok (nx + 1, 1, 1)) ∧ Only (fun b => b = R) (w.alloc dfZ) w')) := (rent_any R v tl nx n 0 s (w.alloc dfZ) (by omega) (by omega) hs hs1 (by omega) (h.only ((Only.refl (fun _ => False) w).alloc _))).mono fun x w' g => ⟨g.1, by
    rcases g.2.out with ⟨_, hr⟩ | ⟨hc, _⟩
    · exact ⟨⟨hr.1, hnx⟩, hr.2⟩
    · rcases hc with hc | hc
      · omega
      · simp [zIn] at hc⟩
  have HW1 : Hid (∀ w1, RS R v tl n w1 (.ok (nx + 1, 1, 1)) → Calls Tryz.prog 74 #[.pointer (some ⟨R, 0, none⟩), .string ⟨#[]⟩] w1 (wdP (nmR tl) R v tl n (.ok (nx + 1, 1, 1)) w1)) := fun w1 h1 => rword_name R v tl n _ w1 htl h1
  have HW2 : Hid (∀ w1, RS R v tl n w1 (dD1 tl n nx) → Calls Tryz.prog 74 #[.pointer (some ⟨R, 0, none⟩), .string ⟨#[40]⟩] w1 (wdP (fun x => isR tl x ⟨#[40]⟩) R v tl n (dD1 tl n nx) w1)) := fun w1 h1 => rword_is R v tl n ⟨#[40]⟩ _ w1 (by kernel_rfl) htl h1
  have HN1 : Hid (∀ w1, RS R v tl n w1 (dD2 tl n nx) → Calls Tryz.prog 75 #[.pointer (some ⟨R, 0, none⟩), .string ⟨#[45, 45]⟩] w1 fun x w' => ∃ i, x = .returned (.int .i64 i) ∧ Hid (nmQ R v tl n 1 1 w1 (dD3 tl n nx) i w')) := fun w1 h1 => by
    refine rnames_core R v tl n 1 1 _ _ w1 (by kernel_rfl) htl ?_
    unfold dD3
    cases hd : dD2 tl n nx with
    | error p =>
      obtain ⟨a, e⟩ := p
      rw [hd] at h1
      obtain ⟨h2, nf, of, sf, h3⟩ := h1
      exact .inr ⟨a, e, rfl, h2, nf, of, sf, h3, Only.refl _ _⟩
    | ok p =>
      obtain ⟨x, o, s'⟩ := p
      rw [hd] at h1
      have hos : o = 1 ∧ s' = 1 := by
        unfold dD2 dD1 at hd
        unfold wdE at hd
        split at hd
        · rename_i q1 q2 q3 hq
          split at hd
          · simp only [Except.ok.injEq, Prod.mk.injEq] at hd
            dsimp only at hq
            split at hq
            · simp only [Except.ok.injEq, Prod.mk.injEq] at hq
              omega
            · simp at hq
          · simp at hd
        · simp at hd
      obtain ⟨rfl, rfl⟩ := hos
      exact .inl ⟨x, rfl, h1.2, h1.1⟩
  have HN2 : Hid (∀ w0 w1 i, nmQ R v tl n 1 1 w0 (dD3 tl n nx) i w1 → Calls Tryz.prog 75 #[.pointer (some ⟨R, 0, none⟩), .string ⟨#[41]⟩] w1 fun x w' => ∃ i, x = .returned (.int .i64 i) ∧ Hid (nmQ R v tl n 1 1 w1 (dD4 tl n nx) i w')) := fun w0 w1 i h1 => rnames_st R v tl n _ _ w1 (by kernel_rfl) htl w0 i _ h1 (fun j q e => by unfold dD4; rw [e]) (fun p e => by unfold dD4; rw [e])
  have HI : Hid (∀ w0 w1 i, nmQ R v tl n 1 1 w0 (dD4 tl n nx) i w1 → Calls Tryz.prog 76 #[.pointer (some ⟨R, 0, none⟩), .string ⟨#[59]⟩] w1 (riQ R v tl n F 1 w1 w1.heap.size (dD5 tl n F nx))) := fun w0 w1 i h1 => by
    unfold dD5
    cases hd : dD4 tl n nx with
    | error p =>
      obtain ⟨a, e⟩ := p
      rw [hd] at h1
      obtain ⟨h2, nf, of, sf, h3, _⟩ := h1
      refine (ri_no R v tl nf n of sf a e _ w1 h2 h3).mono fun x w' g => ?_
      rw [g.1, g.2]
      exact ⟨none, 0, 0, rfl, h2, nf, of, sf, h3, Only.refl _ _⟩
    | ok p =>
      obtain ⟨j, q⟩ := p
      rw [hd] at h1
      obtain ⟨_, nx', hq, hx', hr⟩ := h1
      subst hq
      exact (rparts R v tl n htl (F + 1) F (by omega)).2.2.2 nx' 1 1 w1 hx' (by omega) (by omega) (by omega) (by omega) (by omega) hr.1
  obtain ⟨N, hN⟩ : ∃ N, N = w.heap.size := ⟨_, rfl⟩
  have HRN : Hid (R < N ∧ w.heap.size ≤ N ∧ N = w.heap.size) := ⟨by rw [hN]; exact h.lt, by omega, hN⟩
  have HVN : Hid ((w.alloc dfZ).heap[N]? = some dfZ) := alloc_at _ _ _ hN
  have HO1 : Hid (Only (fun b => b = R) w (w.alloc dfZ)) := (Only.refl (fun b => b = R) w).alloc _
  clear htl hs hs1 hF ht h hnx
  go_enter Tryz.func50, Tryz.ntmps50
  go_wp2_with fail
  refine (show Calls Tryz.prog 73 _ _ _ from HE.out).mono ?_
  rintro x w1 ⟨rfl, g1⟩
  rw [← hN]
  have HW1b : Hid _ := HW1.out w1 g1.out.1
  have V1 : Hid (DfB w1 N ⟨#[]⟩ 0 0 (.slice none 0 0) ∧ Only (fun b => b = R) w w1 ∧ N < w1.heap.size) := ⟨DfB.on (show DfB (w.alloc dfZ) N _ _ _ _ from HVN.out) HRN.out.1 g1.out.2, HO1.out.trans g1.out.2 (fun _ _ g => g), Nat.lt_of_lt_of_le (Array.getElem?_eq_some_iff.1 HVN.out).1 g1.out.2.size⟩
  clear HE HW1 HO1 HVN g1 hN
  go_wp2_with fail
  refine (show Calls Tryz.prog 74 _ _ _ from HW1b.out).mono ?_
  rintro x w2 ⟨y, rfl, g2⟩
  obtain ⟨P, hP⟩ : ∃ P, P = w2.heap.size := ⟨_, rfl⟩
  obtain ⟨W2, hW2⟩ : ∃ W2, W2 = w2.alloc (.cells #[.string y, .int .i64 0, .int .i64 0, .slice none 0 0] 71) := ⟨_, rfl⟩
  have oA : Only (fun _ => False) w2 W2 := by rw [hW2]; exact (Only.refl _ w2).alloc _
  have HW2b : Hid _ := HW2.out W2 (g2.out.1.only oA)
  have V2 : Hid (DfB W2 N ⟨#[]⟩ 0 0 (.slice none 0 0) ∧ Only (fun b => b = R) w W2 ∧ N < P ∧ DfB W2 P y 0 0 (.slice none 0 0) ∧ w.heap.size ≤ P) := by
    have h1 := V1.out.2.2
    have h2 := g2.out.2.2.size
    have h3 := HRN.out
    refine ⟨(oA.block N (by omega) (fun g => g)).trans (V1.out.1.on HRN.out.1 g2.out.2.2), (V1.out.2.1.trans g2.out.2.2 (fun _ _ g => g)).trans (oA.mono (bs' := fun b => b = R) (fun _ _ h => h.elim)) (fun _ _ g => g), by omega, by rw [hW2]; exact alloc_at _ _ _ hP, by omega⟩
  have HY : Hid (∀ p, dD1 tl n nx = .ok p → y = wdT tl (.ok (nx + 1, 1, 1))) := g2.out.2.1
  clear HW1b HW2 V1 g2 oA
  go_wp2_with fail
  rw [← hP, ← hW2]
  refine (show Calls Tryz.prog 74 _ _ _ from HW2b.out).mono ?_
  rintro x w3 ⟨y2, rfl, g3⟩
  have HN1b : Hid _ := HN1.out w3 g3.out.1
  have V3 : Hid (DfB w3 N ⟨#[]⟩ 0 0 (.slice none 0 0) ∧ Only (fun b => b = R) w w3 ∧ N < P ∧ DfB w3 P y 0 0 (.slice none 0 0) ∧ w.heap.size ≤ P) := ⟨V2.out.1.on HRN.out.1 g3.out.2.2, V2.out.2.1.trans g3.out.2.2 (fun _ _ g => g), V2.out.2.2.1, V2.out.2.2.2.1.on (by have := HRN.out.1; have := V2.out.2.2.1; omega) g3.out.2.2, V2.out.2.2.2.2⟩
  clear HW2b HN1 V2 g3 hP hW2
  go_wp2_with fail
  refine (show Calls Tryz.prog 75 _ _ _ from HN1b.out).mono ?_
  rintro x w4 ⟨i, rfl, g4⟩
  have V4 : Hid (DfB w4 N ⟨#[]⟩ 0 0 (.slice none 0 0) ∧ Only (fun b => b = R) w w4 ∧ N < P ∧ DfB w4 P y 0 0 (.slice none 0 0) ∧ w.heap.size ≤ P) := ⟨V3.out.1.on HRN.out.1 g4.out.on, V3.out.2.1.trans g4.out.on (fun _ _ g => g), V3.out.2.2.1, V3.out.2.2.2.1.on (by have := HRN.out.1; have := V3.out.2.2.1; omega) g4.out.on, V3.out.2.2.2.2⟩
  obtain ⟨⟨_, p1, p2, p3⟩, _, z1, z2, z3⟩ := V4.out.2.2.2.1.cells
  obtain ⟨W4, hW4⟩ : ∃ W4, W4 = w4.setCell ⟨P, 1, none⟩ (.int .i64 i) := ⟨_, rfl⟩
  have oP : Only (fun b => b = P) w4 W4 := by rw [hW4]; exact onlyR_set (Only.refl _ w4)
  have K4 := g4.out.keep (fun b hb e => by have := HRN.out.1; have := V4.out.2.2.1; omega) oP
  have HN2b : Hid _ := HN2.out W4 W4 i K4
  have V5 : Hid (DfB W4 N ⟨#[]⟩ 0 0 (.slice none 0 0) ∧ Only (fun b => b = R) w W4 ∧ N < P ∧ DfB W4 P y i 0 (.slice none 0 0) ∧ w.heap.size ≤ P) := ⟨V4.out.1.other (by have := V4.out.2.2.1; omega) oP, by rw [hW4]; exact onP V4.out.2.1 V4.out.2.2.2.2, V4.out.2.2.1, by rw [hW4]; exact V4.out.2.2.2.1.set1 i, V4.out.2.2.2.2⟩
  have H3 : Hid (∀ j q, dD3 tl n nx = .ok (j, q) → i = (j : Int)) := fun j q e => by
    have := g4.out
    rw [e] at this
    exact this.1
  clear HN1b HN2 V3 V4 g4 K4 oP
  go_wp2_with fail
  rw [← hW4]
  refine (show Calls Tryz.prog 75 _ _ _ from HN2b.out).mono ?_
  rintro x w5 ⟨j, rfl, g5⟩
  clear p1 p2 p3 z1 z2 z3 hW4
  have V6 : Hid (DfB w5 N ⟨#[]⟩ 0 0 (.slice none 0 0) ∧ Only (fun b => b = R) w w5 ∧ N < P ∧ DfB w5 P y i 0 (.slice none 0 0) ∧ w.heap.size ≤ P) := ⟨V5.out.1.on HRN.out.1 g5.out.on, V5.out.2.1.trans g5.out.on (fun _ _ g => g), V5.out.2.2.1, V5.out.2.2.2.1.on (by have := HRN.out.1; have := V5.out.2.2.1; omega) g5.out.on, V5.out.2.2.2.2⟩
  obtain ⟨⟨_, p1, p2, p3⟩, _, z1, z2, z3⟩ := V6.out.2.2.2.1.cells
  obtain ⟨W6, hW6⟩ : ∃ W6, W6 = w5.setCell ⟨P, 2, none⟩ (.int .i64 j) := ⟨_, rfl⟩
  have oP : Only (fun b => b = P) w5 W6 := by rw [hW6]; exact onlyR_set (Only.refl _ w5)
  have K5 := g5.out.keep (fun b hb e => by have := HRN.out.1; have := V6.out.2.2.1; omega) oP
  have HIb : Hid _ := HI.out W6 W6 j K5
  have V7 : Hid (DfB W6 N ⟨#[]⟩ 0 0 (.slice none 0 0) ∧ Only (fun b => b = R) w W6 ∧ N < P ∧ DfB W6 P y i j (.slice none 0 0) ∧ w.heap.size ≤ P) := ⟨V6.out.1.other (by have := V6.out.2.2.1; omega) oP, by rw [hW6]; exact onP V6.out.2.1 V6.out.2.2.2.2, V6.out.2.2.1, by rw [hW6]; exact V6.out.2.2.2.1.set2 j, V6.out.2.2.2.2⟩
  have H4 : Hid (∀ k q, dD4 tl n nx = .ok (k, q) → j = (k : Int)) := fun k q e => by
    have := g5.out
    rw [e] at this
    exact this.1
  clear HN2b HI V5 V6 g5 K5 oP
  go_wp2_with fail
  rw [← hW6]
  refine (show Calls Tryz.prog 76 _ _ _ from HIb.out).mono ?_
  intro x w7 g7
  clear p1 p2 p3 z1 z2 z3 hW6 HIb
  have G7 : Hid (riQ R v tl n F 1 W6 W6.heap.size (dD5 tl n F nx) x w7) := g7
  obtain ⟨o7, al, Ll, cl, rfl⟩ := riQ.on g7
  have V8 : Hid (DfB w7 N ⟨#[]⟩ 0 0 (.slice none 0 0) ∧ Only (fun b => b = R) w w7 ∧ N < P ∧ DfB w7 P y i j (.slice none 0 0) ∧ w.heap.size ≤ P ∧ P < W6.heap.size) := ⟨V7.out.1.on HRN.out.1 o7, V7.out.2.1.trans o7 (fun _ _ g => g), V7.out.2.2.1, V7.out.2.2.2.1.on (by have := HRN.out.1; have := V7.out.2.2.1; omega) o7, V7.out.2.2.2.2, (Array.getElem?_eq_some_iff.1 V7.out.2.2.2.1).1⟩
  obtain ⟨W8, hW8⟩ : ∃ W8, W8 = w7.setCell ⟨P, 3, none⟩ (.slice al Ll cl) := ⟨_, rfl⟩
  have oP : Only (fun b => b = P) w7 W8 := by rw [hW8]; exact onlyR_set (Only.refl _ w7)
  have V9 : Hid (DfB W8 N ⟨#[]⟩ 0 0 (.slice none 0 0) ∧ Only (fun b => b = R) w W8 ∧ DfB W8 P y i j (.slice al Ll cl) ∧ Only (fun b => b = P) w7 W8) := ⟨V8.out.1.other (by have := V8.out.2.2.1; omega) oP, by rw [hW8]; exact onP V8.out.2.1 V8.out.2.2.2.2.1, by rw [hW8]; exact V8.out.2.2.2.1.set3 _, oP⟩
  obtain ⟨⟨p0, p1, p2, p3⟩, z0, z1, z2, z3⟩ := V8.out.2.2.2.1.cells
  obtain ⟨⟨q0, q1, q2, q3⟩, y0, y1, y2, y3⟩ := V9.out.1.cells
  obtain ⟨⟨r0, r1, r2, r3⟩, _, _, _, _⟩ := V9.out.2.2.1.cells
  rw [hW8] at q0 q1 q2 q3 y0 y1 y2 y3 r0 r1 r2 r3
  have HW8 : Hid (W8 = w7.setCell ⟨P, 3, none⟩ (.slice al Ll cl)) := hW8
  clear g7 o7 oP V7 hW8
  go_wp2
  rw [← show W8 = _ from HW8.out]
  obtain ⟨s0, s1, s2, s3⟩ := set4 V9.out.1 rfl (.string y) (.int .i64 i) (.int .i64 j) (.slice al Ll cl)
  refine bodyPost_ret (results_def rfl _ _ N s0 s1 s2 s3 rfl) rfl ?_
  have oF : Only (fun b => b = R) w ((((W8.setCell ⟨N, 0, none⟩ (.string y)).setCell ⟨N, 1, none⟩ (.int .i64 i)).setCell ⟨N, 2, none⟩ (.int .i64 j)).setCell ⟨N, 3, none⟩ (.slice al Ll cl)) := onP (onP (onP (onP V9.out.2.1 HRN.out.2.1) HRN.out.2.1) HRN.out.2.1) HRN.out.2.1
  have hRP : R < P := by have := HRN.out.1; have := V8.out.2.2.1; omega
  rw [HQ.out]
  cases h5 : dD5 tl n F nx with
  | error p =>
    obtain ⟨a, e⟩ := p
    have g7 := G7.out
    rw [h5] at g7
    obtain ⟨_, _, _, _, g⟩ := g7
    obtain ⟨he, nf, of, sf, hr, _⟩ := g.out
    exact ⟨y, i, j, al, Ll, cl, rfl, he, nf, of, sf, (hr.keep (fun b hb e => by omega) V9.out.2.2.2).other HRN.out.1 (on4 W8 N _ _ _ _), oF⟩
  | ok p =>
    obtain ⟨l, q6, z'⟩ := p
    have g7 := G7.out
    rw [h5] at g7
    obtain ⟨ao, cap, nx', hx, g⟩ := g7
    cases h4 : dD4 tl n nx with
    | error p => unfold dD5 at h5; rw [h4] at h5; simp at h5
    | ok p4 =>
      obtain ⟨j', q5⟩ := p4
      cases h3 : dD3 tl n nx with
      | error p => unfold dD4 at h4; rw [h3] at h4; simp at h4
      | ok p3 =>
        obtain ⟨i', q4⟩ := p3
        have hD1 : ∃ p, dD1 tl n nx = .ok p := by
          cases h1 : dD1 tl n nx with
          | ok p => exact ⟨p, rfl⟩
          | error p => unfold dD3 dD2 at h3; rw [h1] at h3; simp [wdE] at h3
        obtain ⟨p1', hp1⟩ := hD1
        have hy : y = wdT tl (.ok (nx + 1, 1, 1)) := HY.out p1' hp1
        have hi : i = (i' : Int) := H3.out i' q4 h3
        have hj : j = (j' : Int) := H4.out j' q5 h4
        have hz : 0 ≤ z' ∧ z' ≤ 1024 := by
          unfold dD5 at h5
          rw [h4] at h5
          have := prs_ok n _ _ _ _ _ _ _ _ h5 (by omega)
          omega
        dsimp only
        refine ⟨al, Ll, cl, nx', z', by rw [← hy, ← hi, ← hj], rfl, rfl, g.out.1, g.out.2.1, ?_, hz.1, hz.2, ?_, oF⟩
        · injection hx with hx
          rw [hx]
          have hv : NvAt w7 W6.heap.size (F + 1) ⟨5, 0, ⟨#[]⟩, l⟩ (.slice ao l.length cap) := g.out.2.2.1.tree rfl
          exact ((hv.only V9.out.2.2.2 (fun b hb e => by have := V8.out.2.2.2.2.2; omega)).only (on4 W8 N _ _ _ _) (fun b hb e => by have := V8.out.2.2.2.2.2; have := V8.out.2.2.1; omega)).lower (by have := V8.out.2.2.2.2.1; have := V8.out.2.2.2.2.2; omega)
        · have hr := g.out.2.2.2.1
          rw [show (1 : Int) - 1 = 0 by omega] at hr
          exact (hr.keep (fun b hb e => by omega) V9.out.2.2.2).other HRN.out.1 (on4 W8 N _ _ _ _)
end Go.Proofs.YtfecmpebnianpaaGreatDoor
