/- The document's Name. ref15.names: are all names? ref15.Words: the words of a line. Names and numbers of the document: Reserved, Name, In. The document's reader of a source in memory: fail, at, is, name. The document's reader: count, enter, more, word. -/
import Derived.Test.YtfecmpebnianpaaGreatDoorGar
import Derived.Test.YtfecmpebnianpaaGreatDoorGao
import Derived.Test.YtfecmpebnianpaaGreatDoorGap
import Derived.Test.YtfecmpebnianpaaGreatDoorGae
import Derived.Deep.QuietTactic
import Derived.BigQuiet
namespace Go.Proofs.YtfecmpebnianpaaGreatDoor
open Go.RowKit Go.Lib
set_option linter.unusedSimpArgs false
set_option linter.unusedVariables false
theorem all_drop {l : List Nat} {k : Nat} (h : k < l.length) (P : Nat → Bool) : (l.drop k).all P = (P (l[k]'h) && (l.drop (k + 1)).all P) := by
  rw [List.drop_eq_getElem_cons h, List.all_cons]
set_option maxRecDepth 100000 in
set_option maxHeartbeats 1000000 in
theorem rName_any (s : ByteArray) (hs : s.size ≤ 4000000) (w : World) :
    Calls Tryz.prog 47 #[.string s] w fun e w' => e = .returned (.bool (nameB s)) ∧ Only (fun _ => False) w w' := by
  have HC : Hid (Calls Tryz.prog 67 #[.string s] w fun e w' => ∃ v, e = .returned v ∧ Hid (ChrAt w' w.heap.size v (chrL s) ∧ Below w.heap.size w w')) := chars_any s hs w
  have HN : Hid (∀ v w1, RdC w1 v (chrL s) → Calls Tryz.prog 69 #[v] w1 fun e w' => e = .returned (rnV (rnumL (rns s))) ∧ Only (fun _ => False) w1 w') := fun v w1 h => by
    have := rnumber_any (chrL s) (by have := chrL_len s; omega) v w1 h
    rwa [chr_runes] at this
  have HB : Hid (∀ (c : Nat) w1, Calls Tryz.prog 68 #[.int .i32 (c : Int)] w1 fun e w' => e = .returned (.bool (blk c)) ∧ w' = w1) := fun c w1 => rblank_any c w1
  obtain ⟨Z, hZ⟩ : ∃ Z, Z = nameB s := ⟨_, rfl⟩
  have hZ2 := hZ
  rw [name_eq] at hZ2
  rw [← hZ]
  have hlen := chrL_len s
  have hrun := chr_runes s
  obtain ⟨x, hx⟩ : ∃ x, x = rnumL (rns s) := ⟨_, rfl⟩
  rw [← hx] at HN hZ2
  obtain ⟨l, hl⟩ : ∃ l, l = chrL s := ⟨_, rfl⟩
  rw [← hl] at HC HN hlen hrun
  rw [← hrun] at hZ2
  have HZ : Hid (Z = (!(s.toList == [33]) && !decide ((l.map (·.r)).head? = some 34) && decide (0 < (l.map (·.r)).length) && decide ((l.map (·.r)).length ≤ 32) && (l.map (·.r)).all ofN && !x.2.2)) := hZ2
  clear hZ hZ2 hx hl hrun
  obtain ⟨xn, xm, xo⟩ := x
  simp only [rnV] at HN
  dsimp only at HZ
  go_enter Tryz.func47, Tryz.ntmps47
  go_wp2_with fail
  refine (show Calls Tryz.prog 67 _ _ _ from HC.out).mono ?_
  rintro e w1 ⟨v, rfl, g⟩
  have O1 : Hid (Only (fun _ => False) w w1) := below_only g.out.2
  have T1 : Hid (RdC w1 v l) := rdc_chr g.out.1
  clear HC g
  obtain ⟨ao, cap, rfl, hcap, fL⟩ := T1.out
  obtain rfl | ⟨t0, l', hl'⟩ : l = [] ∨ ∃ t0 l', l = t0 :: l' := by
    cases l with
    | nil => exact .inl rfl
    | cons a b => exact .inr ⟨a, b, rfl⟩
  · have HE : Hid (Z = false) := by show Z = _; rw [HZ.out]; simp
    clear HZ fL
    go_wp2
    go_ret
    exact ⟨by rw [show Z = _ from HE.out]; rfl, O1.out⟩
  · obtain ⟨L, hL⟩ : ∃ L, L = l.length := ⟨_, rfl⟩
    have HL : Hid (L = l.length) := hL
    have hL1 : 1 ≤ L := by rw [hL, hl']; simp
    have hLm : L ≤ 4000000 := by omega
    have hml : (l.map (·.r)).length = L := by rw [List.length_map, hL]
    have hhd : (l.map (·.r)).head? = some t0.r := by rw [hl']; rfl
    rw [← hL]
    have b1 : decide ((L : Int) < 1) = false := decide_eq_false (by omega)
    by_cases h32 : L ≤ 32
    · have b2 : decide ((32 : Int) < (L : Int)) = false := decide_eq_false (by omega)
      obtain ⟨g0, o0, rfl, hg0, x0, _, _, _⟩ := fL 0 t0 (by rw [hl']; rfl)
      simp only [Nat.zero_mul, Nat.add_zero] at x0
      have j0 : (0 : Int) < (L : Int) := by omega
      obtain ⟨c0, hc0⟩ : ∃ c0, c0 = t0.r := ⟨_, rfl⟩
      rw [← hc0] at x0 hhd
      by_cases h34 : c0 = 34
      · have HE : Hid (Z = false) := by show Z = _; rw [HZ.out, hhd, h34]; simp
        have s34 : ((c0 : Int) == 34) = true := by rw [h34]; rfl
        clear HZ fL h34 hc0 hhd hml hL hl'
        go_wp2
        go_ret
        exact ⟨by rw [show Z = _ from HE.out]; rfl, O1.out⟩
      · have s34 : ((c0 : Int) == 34) = false := by simp; omega
        by_cases h33 : s.toList = [33]
        · have HE : Hid (Z = false) := by show Z = _; rw [HZ.out, h33]; simp
          have s33 : (s.toList == [33]) = true := by rw [h33]; rfl
          clear HZ fL h34 hc0 hhd hml hL hl' h33
          go_wp2
          go_ret
          exact ⟨by rw [show Z = _ from HE.out]; rfl, O1.out⟩
        · have s33 : (s.toList == [33]) = false := by simpa using h33
          have HE : Hid (Z = (((l.map (·.r)).drop 0).all ofN && !xo)) := by
            show Z = _
            rw [HZ.out, hhd, s33, hml, decide_eq_false (by simpa using h34 : ¬ some c0 = some 34), decide_eq_true (by omega : 0 < L), decide_eq_true h32, List.drop_zero]
            simp
          have HF : Hid (∀ i t, l[i]? = some t → ∃ g o, some (⟨g0, o0, none⟩ : Addr) = some ⟨g, o, none⟩ ∧ g < w1.heap.size ∧ w1.cell? ⟨g, o + i * 4, none⟩ = some (.int .i32 (t.r : Int)) ∧ w1.cell? ⟨g, o + i * 4 + 1, none⟩ = some (.int .i64 (t.a : Int)) ∧ w1.cell? ⟨g, o + i * 4 + 2, none⟩ = some (.int .i64 (t.z : Int)) ∧ w1.cell? ⟨g, o + i * 4 + 3, none⟩ = some (.bool t.b)) := fL
          clear HZ fL h34 hc0 hhd hml hL hl' h33
          go_wp2
          clear b1 b2 s33 s34 x0 j0
          go_loopw [4] (fun r4 wr => ∃ k : Nat, k ≤ L ∧ r4 = .int .i64 (k : Int) ∧ wr = w1 ∧ Hid (Z = (((l.map (·.r)).drop k).all ofN && !xo))) (fun r4 _ => L - uOf r4)
          case atStart => exact ⟨0, Nat.zero_le _, rfl, rfl, HE.out⟩
          case round =>
            obtain ⟨k, hk, rfl, hwr, HI⟩ := hrel
            subst wr
            clear HE
            by_cases hlt : k < L
            · have hlt2 : k < l.length := by have : L = l.length := HL.out; omega
              obtain ⟨t, ht⟩ : ∃ t, t = l[k]'hlt2 := ⟨_, rfl⟩
              have ht2 : l[k]? = some t := by rw [ht]; exact List.getElem?_eq_getElem _
              obtain ⟨g, o, eg, hg, y0, _, _, _⟩ := HF.out k t ht2
              injection eg with eg
              injection eg with eg1 eg2
              subst eg1
              subst eg2
              have hd : ((l.map (·.r)).drop k).all ofN = (ofN t.r && ((l.map (·.r)).drop (k + 1)).all ofN) := by
                rw [all_drop (by rw [List.length_map]; exact hlt2), List.getElem_map, ← ht]
              obtain ⟨c, hc⟩ : ∃ c, c = t.r := ⟨_, rfl⟩
              rw [← hc] at y0 hd
              have HI2 : Hid (Z = (ofN c && ((l.map (·.r)).drop (k + 1)).all ofN && !xo)) := by show Z = _; rw [HI.out, hd]
              clear HI hd ht ht2 hc hlt2
              have k0 : (0 : Int) ≤ (k : Int) := Int.natCast_nonneg _
              have k1 : (k : Int) < (L : Int) := by omega
              have HBc := HB.out c w1
              have ho : ofN c = (!blk c && decide (31 < c) && !(c == 127) && !(c == 65533)) := rfl
              cases hb : blk c with
              | true =>
                rw [hb] at HBc ho
                have HE : Hid (Z = false) := by show Z = _; rw [HI2.out, ho]; simp
                have HB1 : Hid (Calls Tryz.prog 68 _ _ _) := HBc
                clear HI2 ho hb HBc
                go_wp2_with fail
                refine (show Calls Tryz.prog 68 _ _ _ from HB1.out).mono ?_
                rintro e3 wz ⟨rfl, hwz⟩
                subst wz
                go_wp2
                go_ret
                exact ⟨by rw [show Z = _ from HE.out]; rfl, O1.out⟩
              | false =>
                rw [hb] at HBc ho
                have HB1 : Hid (Calls Tryz.prog 68 _ _ _) := HBc
                clear hb HBc
                by_cases h31 : 31 < c
                · have i1 : decide ((c : Int) < 32) = false := decide_eq_false (by omega)
                  by_cases h127 : c = 127
                  · have HE : Hid (Z = false) := by show Z = _; rw [HI2.out, ho, h127]; simp
                    have i2 : ((c : Int) == 127) = true := by rw [h127]; rfl
                    clear HI2 ho h127 h31
                    go_wp2_with fail
                    refine (show Calls Tryz.prog 68 _ _ _ from HB1.out).mono ?_
                    rintro e3 wz ⟨rfl, hwz⟩
                    subst wz
                    go_wp2
                    go_ret
                    exact ⟨by rw [show Z = _ from HE.out]; rfl, O1.out⟩
                  · have i2 : ((c : Int) == 127) = false := by simp; omega
                    by_cases hfd : c = 65533
                    · have HE : Hid (Z = false) := by show Z = _; rw [HI2.out, ho, hfd]; simp
                      have i3 : ((c : Int) == 65533) = true := by rw [hfd]; rfl
                      clear HI2 ho h127 h31 hfd
                      go_wp2_with fail
                      refine (show Calls Tryz.prog 68 _ _ _ from HB1.out).mono ?_
                      rintro e3 wz ⟨rfl, hwz⟩
                      subst wz
                      go_wp2
                      go_ret
                      exact ⟨by rw [show Z = _ from HE.out]; rfl, O1.out⟩
                    · have i3 : ((c : Int) == 65533) = false := by simp; omega
                      have HE : Hid (Z = (((l.map (·.r)).drop (k + 1)).all ofN && !xo)) := by
                        show Z = _
                        rw [HI2.out, ho, show (c == 127) = false by simpa using h127, show (c == 65533) = false by simpa using hfd, decide_eq_true h31]
                        simp
                      clear HI2 ho h127 h31 hfd
                      go_wp2_with fail
                      refine (show Calls Tryz.prog 68 _ _ _ from HB1.out).mono ?_
                      rintro e3 wz ⟨rfl, hwz⟩
                      subst wz
                      go_wp2
                      go_roundw
                      case rel => exact ⟨k + 1, by omega, by go_num, by simp, HE⟩
                      case measure => simp only [uOf]; omega
                · have i1 : (c : Int) < 32 := by omega
                  have HE : Hid (Z = false) := by show Z = _; rw [HI2.out, ho, decide_eq_false h31]; simp
                  clear HI2 ho h31
                  go_wp2_with fail
                  refine (show Calls Tryz.prog 68 _ _ _ from HB1.out).mono ?_
                  rintro e3 wz ⟨rfl, hwz⟩
                  subst wz
                  go_wp2
                  go_ret
                  exact ⟨by rw [show Z = _ from HE.out]; rfl, O1.out⟩
            · have k1 : ¬ (k : Int) < (L : Int) := by omega
              have HE : Hid (Z = !xo) := by
                show Z = _
                rw [HI.out, List.drop_eq_nil_of_le (by rw [List.length_map]; have : L = l.length := HL.out; omega)]
                simp
              have HR : Hid (RdC w1 (.slice (some ⟨g0, o0, none⟩) L cap) l) := ⟨_, _, by rw [show L = l.length from HL.out], hcap, HF.out⟩
              clear HI
              go_wp2_with fail
              refine (show Calls Tryz.prog 69 _ _ _ from HN.out _ _ HR.out).mono ?_
              rintro e2 w2 ⟨rfl, o2⟩
              have O2 : Hid (Only (fun _ => False) w w2) := O1.out.trans o2 (fun _ _ x => x)
              clear HN HR o2
              go_wp2
              go_ret
              exact ⟨by rw [show Z = _ from HE.out]; rfl, O2.out⟩
    · have b2 : decide ((32 : Int) < (L : Int)) = true := decide_eq_true (by omega)
      have HE : Hid (Z = false) := by show Z = _; rw [HZ.out, hml, decide_eq_false h32]; simp
      clear HZ fL hhd hml hL hl' h32
      go_wp2
      go_ret
      exact ⟨by rw [show Z = _ from HE.out]; rfl, O1.out⟩
end Go.Proofs.YtfecmpebnianpaaGreatDoor
namespace Go.Proofs.YtfecmpebnianpaaGreatDoor
open Go.RowKit
set_option linter.unusedSimpArgs false
set_option linter.unusedVariables false
/-- texts that can be read, from some place of a block on -/
def UtV (w : World) (g o : Nat) (us : List ByteArray) : Prop := ∀ (j : Nat) (x : ByteArray), us[j]? = some x → w.cell? ⟨g, o + j, none⟩ = some (.string x)
theorem UtV.only {w w' : World} {g o : Nat} {us : List ByteArray} {bs : Nat → Prop} (h : UtV w g o us) (oo : Only bs w w') (hg : ¬ bs g) : UtV w' g o us := fun j x hx => oo.cell (h j x hx) hg
set_option maxRecDepth 100000 in
set_option maxHeartbeats 4000000 in
theorem rnames15_any {w : World} {g o cap : Nat} {us : List ByteArray} (h : UtV w g o us) (hl : us.length ≤ 1000000) (ho : o ≤ 1000000) (hs : ∀ u ∈ us, u.size ≤ 4000000) : Calls Tryz.prog 33 #[.slice (some ⟨g, o, none⟩) us.length cap] w fun e w' => e = .returned (.bool (us.all nameB)) ∧ Only (fun _ => False) w w' := by
  have HH : Hid (UtV w g o us) := h
  obtain ⟨L, hL⟩ : ∃ L, L = us.length := ⟨_, rfl⟩
  have HLL : Hid (L = us.length ∧ L ≤ 1000000) := ⟨hL, by omega⟩
  have HSZ : Hid (∀ u ∈ us, u.size ≤ 4000000) := hs
  obtain ⟨Z, hZ⟩ : ∃ Z, Z = us.all nameB := ⟨_, rfl⟩
  have HZ : Hid (Z = us.all nameB) := hZ
  rw [← hL, ← hZ]
  clear h hl hL hs hZ
  go_enter Tryz.func33, Tryz.ntmps33
  go_wp2
  go_loopw [3] (fun r wr => ∃ j : Nat, r = .int .i64 (j : Int) ∧ j ≤ L ∧ Hid (Z = (us.drop j).all nameB ∧ Only (fun _ => False) w wr)) (fun r _ => L - mnU r)
  case atStart => exact ⟨0, rfl, Nat.zero_le _, by simpa using HZ.out, Only.refl _ _⟩
  case round =>
    obtain ⟨j, rfl, hj, HI⟩ := hrel
    obtain ⟨w4, hw4⟩ : ∃ w4, w4 = wr := ⟨_, rfl⟩
    rw [← hw4] at HI ⊢
    clear hw4
    have hle := HLL.out.1
    have hlb := HLL.out.2
    by_cases hjL : j < L
    · obtain ⟨x, hx⟩ : ∃ x, us[j]? = some x := ⟨us[j]'(by omega), List.getElem?_eq_getElem (by omega)⟩
      have cx : w4.cell? ⟨g, o + j, none⟩ = some (.string x) := HI.out.2.cell (HH.out j x hx) (fun g => g)
      have hdr : us.drop j = x :: us.drop (j + 1) := by
        have hlt : j < us.length := by omega
        rw [List.drop_eq_getElem_cons hlt]
        have := List.getElem?_eq_getElem hlt
        rw [hx] at this
        injection this with this
        rw [← this]
      have HC : Hid _ := rName_any x (HSZ.out x (List.mem_of_getElem? hx)) w4
      obtain ⟨b, hb⟩ : ∃ b, b = nameB x := ⟨_, rfl⟩
      have HX : Hid (Z = (b && (us.drop (j + 1)).all nameB) ∧ Only (fun _ => False) w w4 ∧ j < L) := ⟨by rw [HI.out.1, hdr, hb]; rfl, HI.out.2, hjL⟩
      rw [← hb] at HC
      have i1 : (j : Int) < (L : Int) := by omega
      have i0 : (0 : Int) ≤ (j : Int) := by omega
      have i4 : j ≤ 1000000 := by omega
      clear hx hdr hb HI hjL hj hle hlb
      go_wp2_with fail
      refine (show Calls Tryz.prog 47 _ _ _ from HC.out).mono ?_
      rintro e w5 ⟨rfl, o5⟩
      have O5 : Hid (Only (fun _ => False) w w5) := HX.out.2.1.trans o5 (fun _ _ g => g)
      clear HC o5 cx
      cases b with
      | false =>
        have hz : Z = false := by rw [HX.out.1]; rfl
        subst hz
        go_wp2
        go_ret
        exact ⟨rfl, O5.out⟩
      | true =>
        have HF : Hid (Z = (us.drop (j + 1)).all nameB ∧ Only (fun _ => False) w w5) := ⟨by rw [HX.out.1]; rfl, O5.out⟩
        have HJ : Hid (j < L) := HX.out.2.2
        clear HX O5
        go_wp2
        go_roundw
        case rel => exact ⟨j + 1, by go_num, by have := HJ.out; omega, HF⟩
        case measure => simp only [mnU]; have := HJ.out; omega
    · obtain rfl : j = L := by omega
      have i1 : ¬ (j : Int) < (j : Int) := by omega
      have hz : Z = true := by
        have := HI.out.1
        rw [hle, List.drop_length] at this
        exact this
      have O9 : Hid (Only (fun _ => False) w w4) := HI.out.2
      subst hz
      clear HI hle hlb hj hjL
      go_wp2
      go_ret
      exact ⟨rfl, O9.out⟩
end Go.Proofs.YtfecmpebnianpaaGreatDoor
namespace Go.Proofs.YtfecmpebnianpaaGreatDoor
open Go.RowKit
set_option linter.unusedSimpArgs false
set_option linter.unusedVariables false
theorem wd_snoc : ∀ (l a : List UInt8), ∃ pre x, wdL l a = pre ++ [x] ∧ ∀ c, wdL (l ++ [c]) a = if c = 32 then pre ++ [x, []] else pre ++ [x ++ [c]]
  | [], a => ⟨[], a, rfl, fun c => by by_cases h : c = 32 <;> simp [wdL, h]⟩
  | d :: l, a => by
    by_cases h : d = 32
    · subst h
      obtain ⟨pre, x, e1, e2⟩ := wd_snoc l []
      refine ⟨a :: pre, x, by simp [wdL, e1], fun c => ?_⟩
      simp only [List.cons_append, wdL, if_true, e2 c]
      split <;> rfl
    · obtain ⟨pre, x, e1, e2⟩ := wd_snoc l (a ++ [d])
      refine ⟨pre, x, by simp only [wdL, if_neg h]; exact e1, fun c => ?_⟩
      simp only [List.cons_append, wdL, if_neg h]
      exact e2 c
theorem wd_len : ∀ (l a : List UInt8), (wdL l a).length ≤ l.length + 1
  | [], a => by simp [wdL]
  | c :: l, a => by
    unfold wdL
    split
    · have := wd_len l []
      simp only [List.length_cons]
      omega
    · have := wd_len l (a ++ [c])
      simp only [List.length_cons]
      omega
theorem wd_size : ∀ (l a : List UInt8), ∀ x ∈ wdL l a, x.length ≤ a.length + l.length
  | [], a, x, h => by
    simp only [wdL, List.mem_singleton] at h
    subst h
    omega
  | c :: l, a, x, h => by
    unfold wdL at h
    split at h
    · rcases List.mem_cons.1 h with rfl | h
      · simp only [List.length_cons]; omega
      · have := wd_size l [] x h
        simp only [List.length_cons, List.length_nil] at this ⊢
        omega
    · have := wd_size l (a ++ [c]) x h
      simp only [List.length_cons, List.length_append, List.length_nil] at this ⊢
      omega
set_option maxRecDepth 100000 in
/-- a text is put behind a row of one's own -/
theorem app_st {w : World} {B n : Nat} {v : Value} {us : List ByteArray} (ho : w.ownsRow B 9 1 v n (us.map Value.string)) (hB : B ≤ w.heap.size) (x : ByteArray) (hl : n ≤ 1000000) :
    ∃ g c w', (∀ ty, (Builtin.append_ #[39, 39] ty #[v, .slice (some ⟨w.heap.size, 0, none⟩) 1 1]).run Tryz.prog (w.alloc (.cells #[.string x] 9)) = .ok (.slice (some ⟨g, 0, none⟩) (n + 1) c) w') ∧ w'.ownsRow B 9 1 (.slice (some ⟨g, 0, none⟩) (n + 1) c) (n + 1) ((us ++ [x]).map Value.string) ∧ Only (fun k => v.ownBlock = some k) w w' := by
  obtain ⟨i0, z0, hi, hz0, hz1, hz2, hz3⟩ := st_info
  obtain ⟨W, hW⟩ : ∃ W, W = w.alloc (.cells #[.string x] 9) := ⟨_, rfl⟩
  have oo : Only (fun _ => False) w W := by rw [hW]; exact (Only.refl _ w).alloc _
  have ho2 := oo.owns ho (fun _ _ g => g)
  have hblk : W.heap[w.heap.size]? = some (.cells #[.string x] 9) := by rw [hW]; exact alloc_at _ _ _ rfl
  have key := fun ty => run_append_own_at (P := Tryz.prog) W B 39 ty 9 i0 z0 1 16 Tryz.underlying39 hi hz0 hz1 hz2 hz3 (by omega) v n (us.map Value.string) ho2 ⟨w.heap.size, 0, none⟩ 1 1 [.string x] rfl (by
      intro j u hj
      rw [addr_ad, blk_cells hblk]
      simpa using hj) (by
      intro u hu
      simp only [List.mem_cons, List.not_mem_nil, or_false] at hu
      subst hu
      rfl) (by unfold maxLen; omega) (by omega) (by have := oo.size; omega)
  obtain ⟨v', w', hr, own', hg, _, hat⟩ := key 0
  obtain ⟨a, c, rfl⟩ : ∃ g c', v' = .slice (some ⟨g, 0, none⟩) (n + 1) c' := by
    rcases own'.2 with ⟨hv, h0⟩ | ⟨g', cp, cur, hv, _⟩
    · omega
    · exact ⟨_, _, hv⟩
  refine ⟨a, c, w', fun ty => ?_, by simpa using own', (oo.mono (bs' := fun k => v.ownBlock = some k) (fun _ _ h => h.elim)).trans ((Only.refl (fun k => v.ownBlock = some k) W).grown hg (fun k e _ => e)) (fun k hk e => e)⟩
  rw [← hW, ← hr]
  rfl
theorem own_set {w : World} {B e size n g c : Nat} {xs : List Value} (h : w.ownsRow B e size (.slice (some ⟨g, 0, none⟩) n c) n xs) (j : Nat) (hj : j < n * size) (u : Value) : (w.setCell ⟨g, j, none⟩ u).ownsRow B e size (.slice (some ⟨g, 0, none⟩) n c) n (xs.set j u) := by
  refine ⟨by rw [List.length_set]; exact h.1, ?_⟩
  rcases h.2 with ⟨hv, _⟩ | ⟨g', cap, cur, hv, hb, hg, hc, hcm, hcs, ht⟩
  · cases hv
  · simp only [Value.slice.injEq, Option.some.injEq, Addr.mk.injEq, and_true, true_and] at hv
    obtain ⟨rfl, rfl⟩ := hv
    refine .inr ⟨g, c, _, rfl, hb, heap_setCell_same w g j _ _ u hg, hc, hcm, ?_, ?_⟩
    · simpa using hcs
    · rw [← ht]
      apply List.ext_getElem?
      intro q
      simp only [List.getElem?_take, List.getElem?_set, Array.getElem?_toList, Array.getElem?_set, Array.getElem?_setIfInBounds, List.length_take, Array.length_toList]
      have hm : n * size ≤ c * size := Nat.mul_le_mul_right _ hc
      by_cases e : j = q
      · subst e
        simp only [hj, if_true, hcs]
        rw [if_pos (by omega), if_pos (by omega)]
      · simp [e]
/-- the words so far, a row of one's own -/
def WoX (w : World) (B g n c : Nat) (ws : List (List UInt8)) : Prop := n = ws.length ∧ w.ownsRow B 9 1 (.slice (some ⟨g, 0, none⟩) n c) n ((ws.map bt).map Value.string)
set_option maxRecDepth 100000 in
set_option maxHeartbeats 8000000 in
theorem rwords_any (s : ByteArray) (w : World) (hs : s.size ≤ 65536) : Calls Tryz.prog 32 #[.string s] w fun e w' => ∃ g n c, e = .returned (.slice (some ⟨g, 0, none⟩) n c) ∧ Hid (WoX w' w.heap.size g n c (wdL s.data.toList []) ∧ Only (fun _ => False) w w') := by
  have HSZ : Hid (s.size ≤ 65536) := hs
  have HB0 : Hid (WoX (w.alloc (.cells #[.string ⟨#[]⟩] 9)) w.heap.size w.heap.size 1 1 (wdL (s.data.toList.take 0) []) ∧ Only (fun _ => False) w (w.alloc (.cells #[.string ⟨#[]⟩] 9))) := ⟨⟨rfl, rfl, .inr ⟨w.heap.size, 1, #[.string ⟨#[]⟩], rfl, Nat.le_refl _, alloc_at _ _ _ rfl, Nat.le_refl _, by unfold maxLen; omega, rfl, rfl⟩⟩, (Only.refl _ w).alloc _⟩
  clear hs
  go_enter Tryz.func32, Tryz.ntmps32
  go_wp2
  go_loopw [3, 4] (fun r2 r3 wr => ∃ (i g n c : Nat), r2 = .slice (some ⟨g, 0, none⟩) n c ∧ r3 = .int .i64 (i : Int) ∧ i ≤ s.size ∧ Hid (WoX wr w.heap.size g n c (wdL (s.data.toList.take i) []) ∧ Only (fun _ => False) w wr)) (fun _ r3 _ => s.size - mnU r3)
  case atStart => exact ⟨0, _, _, _, rfl, rfl, Nat.zero_le _, HB0.out⟩
  case round =>
    obtain ⟨i, g, n, c, rfl, rfl, hi, HI⟩ := hrel
    obtain ⟨w1, hw1⟩ : ∃ w1, w1 = wr := ⟨_, rfl⟩
    rw [← hw1] at HI ⊢
    clear hw1
    by_cases his : i < s.size
    · obtain ⟨pre, x, e1, e2⟩ := wd_snoc (s.data.toList.take i) []
      have hl : i < s.data.toList.length := by rw [Array.length_toList]; exact his
      have etk : s.data.toList.take (i + 1) = s.data.toList.take i ++ [s[i]'his] := by
        rw [List.take_add_one, List.getElem?_eq_getElem hl]
        rfl
      have e3 := e2 (s[i]'his)
      rw [← etk] at e3
      have hwl := wd_len (s.data.toList.take i) []
      have hws := wd_size (s.data.toList.take i) [] x (by rw [e1]; simp)
      have hsz := HSZ.out
      have htl : (s.data.toList.take i).length ≤ 65536 := by rw [List.length_take]; omega
      obtain ⟨⟨hn, ho⟩, o1⟩ := HI.out
      rw [e1] at hn ho hwl
      simp only [List.length_append, List.length_cons, List.length_nil] at hn hwl
      have i5 : (i : Int) < (s.size : Int) := by omega
      have i6 : (0 : Int) ≤ (i : Int) := by omega
      have i7 : i ≤ 65536 := by omega
      have hb : (((s[i]'his).toNat : Int) == 32) = true ↔ s[i]'his = 32 := by
        constructor
        · intro g
          have g2 : (s[i]'his).toNat = 32 := by have := eq_of_beq g; omega
          exact UInt8.toNat_inj.1 (by rw [g2]; rfl)
        · intro g
          rw [g]
          rfl
      by_cases hc : s[i]'his = 32
      · have b1 := hb.2 hc
        rw [if_pos hc] at e3
        obtain ⟨g2, c2, w2, hr, ho2, o2⟩ := app_st ho o1.size ⟨#[]⟩ (by omega)
        have HF : Hid (WoX w2 w.heap.size g2 (n + 1) c2 (wdL (s.data.toList.take (i + 1)) []) ∧ Only (fun _ => False) w w2) := by
          refine ⟨⟨by rw [e3]; simp; omega, ?_⟩, o1.trans o2 (fun k hk e => by have := (ho.lt k e).1; omega)⟩
          rw [e3]
          have e4 : (pre ++ [x, []]).map bt = (pre ++ [x]).map bt ++ [⟨#[]⟩] := by simp [bt]
          rw [e4]
          exact ho2
        have HIS : Hid (i < s.size) := his
        clear hb e1 e2 e3 hl etk hwl hws hsz htl hn ho o1 HI HB0 hi ho2 o2 hc
        go_wp2_with (at_builtin; refine wpList_append_run (by rfl) _ _ 39 (by rfl) _ _ (.slice (some ⟨g2, 0, none⟩) (n + 1) c2) (by rfl) (by rfl) hr ?_)
        go_roundw
        case rel => exact ⟨i + 1, g2, n + 1, c2, rfl, by go_num, HIS.out, HF⟩
        case measure => simp only [mnU]; have := HIS.out; omega
      · have b1 : (((s[i]'his).toNat : Int) == 32) = false := by
          rw [Bool.eq_false_iff]
          exact fun g => hc (hb.1 g)
        rw [if_neg hc] at e3
        obtain ⟨k, hk⟩ : ∃ k, k = pre.length := ⟨_, rfl⟩
        have hnk : n = k + 1 := by omega
        have hex : s.extract i (i + 1) = bt [s[i]'his] := by
          rw [← bt_self (s.extract i (i + 1))]
          congr 1
          simp only [ByteArray.data_extract, Array.toList_extract, List.extract_eq_take_drop]
          rw [List.drop_eq_getElem_cons hl]
          simp
          rfl
        have hsl : ∀ W : World, (Instr.slice 9 (.string s) (some (.int .i64 (i : Int))) (some (.int .i64 ((i : Int) + 1))) none).run Tryz.prog W = .ok (.string (s.extract i (i + 1))) W := fun W => by
          rw [show ((i : Int) + 1) = ((i + 1 : Nat) : Int) by omega, run_slice_string W 9 s _ _ _ _ Tryz.underlying9 (by omega) (by omega) (by omega)]
          rfl
        have hws2 : x.length ≤ 65536 := by simp only [List.length_nil] at hws; omega
        have a1 : ∀ W : World, (Op.stringOp .add (bt x) (s.extract i (i + 1))).run Tryz.prog W = .ok (.string (bt (x ++ [s[i]'his]))) W := fun W => add_str _ W (by rw [hex]; simp [bt, ByteArray.ext_iff]) (by rw [bt_size]; omega) (by rw [hex, bt_size]; simp)
        have cx : w1.cell? ⟨g, k, none⟩ = some (.string (bt x)) := by
          have := ho.cells (g := g) rfl k (.string (bt x)) (by rw [hk]; simp)
          rwa [addr_ad] at this
        have hfz : w1.frozen? ⟨g, k, none⟩ = false := by
          rcases ho.2 with ⟨hv, _⟩ | ⟨g', cap, cur, hv, _, hg, _⟩
          · cases hv
          · simp only [Value.slice.injEq, Option.some.injEq, Addr.mk.injEq, and_true, true_and] at hv
            obtain ⟨rfl, _⟩ := hv
            exact blk_froz hg k
        obtain ⟨T, hT⟩ : ∃ T, T = bt (x ++ [s[i]'his]) := ⟨_, rfl⟩
        rw [← hT] at a1
        obtain ⟨bx, hbx⟩ : ∃ bx, bx = s.extract i (i + 1) := ⟨_, rfl⟩
        rw [← hbx] at a1 hsl
        obtain ⟨X, hX⟩ : ∃ X, X = bt x := ⟨_, rfl⟩
        rw [← hX] at a1 cx
        clear hbx hX
        have ho2 := own_set ho k (by omega) (.string T)
        have hB := (ho.lt g rfl).1
        have HF : Hid (WoX (w1.setCell ⟨g, k, none⟩ (.string T)) w.heap.size g n c (wdL (s.data.toList.take (i + 1)) []) ∧ Only (fun _ => False) w (w1.setCell ⟨g, k, none⟩ (.string T))) := by
          have o2 : Only (fun b => b = g) w1 (w1.setCell ⟨g, k, none⟩ (.string T)) := (Only.refl _ w1).setCell _ _ (fun _ => rfl)
          refine ⟨⟨by rw [e3, hnk, hk]; simp, ?_⟩, o1.trans o2 (fun b hb e => by omega)⟩
          have e4 : (((pre ++ [x]).map bt).map Value.string).set k (.string T) = ((pre ++ [x ++ [s[i]'his]]).map bt).map Value.string := by
            rw [hT, hk]
            simp
          rw [e4] at ho2
          rw [e3]
          exact ho2
        have HFD : Hid (Only (fun _ => False) w w1) := o1
        have HIS : Hid (i < s.size) := his
        have i8 : IntKind.i64.wrap ((n : Int) - 1) = (k : Int) := by rw [IntKind.wrap_i64]; omega
        have i9 : n ≤ 65537 := by omega
        have i14 : IntKind.i64.wrap ((i : Int) + 1) = (i : Int) + 1 := by rw [IntKind.wrap_i64]; omega
        have i10 : (k : Int) < (n : Int) := by omega
        have i11 : (0 : Int) ≤ (k : Int) := by omega
        have i12 : k < n := by omega
        have i13 : 1 ≤ n := by omega
        clear hb e1 e2 e3 hl etk hwl hws hsz htl ho o1 HI HB0 hi ho2 hc hT hk hex hnk hn
        clear hws2
        go_wp2
        go_region_with (fail)
        all_goals
          have HG : Hid (WoX (w1.setCell ⟨g, k, none⟩ (.string T)).drew w.heap.size g n c (wdL (s.data.toList.take (i + 1)) []) ∧ Only (fun _ => False) w (w1.setCell ⟨g, k, none⟩ (.string T)).drew) := ⟨HF.out.1, HF.out.2.drew⟩
          clear HF HFD a1 hsl cx hfz i8 i9 i10 i11 i12 i13 i14 b1
          go_wp2
          go_roundw
          case rel => exact ⟨i + 1, g, n, c, rfl, by go_num, HIS.out, HG⟩
          case measure => simp only [mnU]; have := HIS.out; omega
    · obtain rfl : i = s.size := by omega
      have i5 : ¬ (s.size : Int) < (s.size : Int) := by omega
      have HF : Hid (WoX w1 w.heap.size g n c (wdL s.data.toList []) ∧ Only (fun _ => False) w w1) := by
        have := HI.out
        rwa [show s.data.toList.take s.size = s.data.toList from List.take_of_length_le (by rw [Array.length_toList]; exact Nat.le_refl _)] at this
      clear HI HB0 his hi
      go_wp2
      go_ret
      exact ⟨g, n, c, rfl, HF.out⟩
end Go.Proofs.YtfecmpebnianpaaGreatDoor
namespace Go.Proofs.YtfecmpebnianpaaGreatDoor
open Go.RowKit
set_option linter.unusedSimpArgs false
set_option linter.unusedVariables false
set_option maxRecDepth 100000 in
set_option maxHeartbeats 4000000 in
theorem rreserved_any (s : ByteArray) (w : World) : Calls Tryz.prog 105 #[.string s] w fun x w' => x = .returned (.bool (resB s)) ∧ w' = w := by
  go_enter Tryz.func105, Tryz.ntmps105
  go_wp2
  all_goals
    go_ret
    refine ⟨?_, rfl⟩
    first
      | (exfalso; simp_all; done)
      | (unfold resB; simp only [*, Bool.or_true, Bool.or_false, Bool.true_or, Bool.false_or]; done)
      | (unfold resB; simp_all; done)
      | (simp only [Ending.returned.injEq, Value.bool.injEq]; unfold resB; ac_rfl)
      | (unfold resB; simp [Bool.or_comm, Bool.or_left_comm, Bool.or_assoc]; done)
end Go.Proofs.YtfecmpebnianpaaGreatDoor
namespace Go.Proofs.YtfecmpebnianpaaGreatDoor
open Go.RowKit
set_option linter.unusedSimpArgs false
set_option linter.unusedVariables false
/-- the document's reader at block R: its tokens lie behind v -/
def RrB (w : World) (R : Nat) (v : Value) (nx n o s fa e : Int) : Prop := w.heap[R]? = some (.cells #[v, .int .i64 nx, .int .i64 n, .int .i64 o, .int .i64 s, .int .i64 fa, .int .i64 e] 123)
structure RrAt (w : World) (R : Nat) (v : Value) (tl : List Tok) (nx n o s fa e : Int) : Prop where
  blk : RrB w R v nx n o s fa e
  tks : TkR w R v tl
theorem RrAt.only {w w' : World} {R : Nat} {v : Value} {tl : List Tok} {nx n o s fa e : Int} (h : RrAt w R v tl nx n o s fa e) (oo : Only (fun _ => False) w w') : RrAt w' R v tl nx n o s fa e :=
  ⟨(oo.block R (Array.getElem?_eq_some_iff.1 h.blk).1 (fun g => g)).trans h.blk, h.tks.only oo⟩
theorem RrAt.upd {w w' : World} {R : Nat} {v : Value} {tl : List Tok} {nx n o s fa e nx' n' o' s' fa' e' : Int} (h : RrAt w R v tl nx n o s fa e) (oo : Only (fun b => b = R) w w') (g : RrB w' R v nx' n' o' s' fa' e') : RrAt w' R v tl nx' n' o' s' fa' e' :=
  ⟨g, h.tks.onlyR (fun b hb e => by omega) oo⟩
theorem RrAt.lt {w : World} {R : Nat} {v : Value} {tl : List Tok} {nx n o s fa e : Int} (h : RrAt w R v tl nx n o s fa e) : R < w.heap.size := (Array.getElem?_eq_some_iff.1 h.blk).1
/-- the cells of the reader -/
theorem RrB.cells {w : World} {R : Nat} {v : Value} {nx n o s fa e : Int} (h : RrB w R v nx n o s fa e) : w.cell? ⟨R, 0, none⟩ = some v ∧ w.cell? ⟨R, 1, none⟩ = some (.int .i64 nx) ∧ w.cell? ⟨R, 2, none⟩ = some (.int .i64 n) ∧ w.cell? ⟨R, 3, none⟩ = some (.int .i64 o) ∧ w.cell? ⟨R, 4, none⟩ = some (.int .i64 s) ∧ w.cell? ⟨R, 5, none⟩ = some (.int .i64 fa) ∧ w.cell? ⟨R, 6, none⟩ = some (.int .i64 e) :=
  ⟨blk_cells h 0, blk_cells h 1, blk_cells h 2, blk_cells h 3, blk_cells h 4, blk_cells h 5, blk_cells h 6⟩
theorem RrB.froz {w : World} {R : Nat} {v : Value} {nx n o s fa e : Int} (h : RrB w R v nx n o s fa e) (j : Nat) : w.frozen? ⟨R, j, none⟩ = false := blk_froz h j
theorem RrB.set1 {w : World} {R : Nat} {v : Value} {nx n o s fa e : Int} (h : RrB w R v nx n o s fa e) (y : Int) : RrB (w.setCell ⟨R, 1, none⟩ (.int .i64 y)) R v y n o s fa e := (heap_setCell_same _ _ _ _ _ _ h).trans rfl
theorem RrB.set3 {w : World} {R : Nat} {v : Value} {nx n o s fa e : Int} (h : RrB w R v nx n o s fa e) (y : Int) : RrB (w.setCell ⟨R, 3, none⟩ (.int .i64 y)) R v nx n y s fa e := (heap_setCell_same _ _ _ _ _ _ h).trans rfl
theorem RrB.set4 {w : World} {R : Nat} {v : Value} {nx n o s fa e : Int} (h : RrB w R v nx n o s fa e) (y : Int) : RrB (w.setCell ⟨R, 4, none⟩ (.int .i64 y)) R v nx n o y fa e := (heap_setCell_same _ _ _ _ _ _ h).trans rfl
theorem RrB.set5 {w : World} {R : Nat} {v : Value} {nx n o s fa e : Int} (h : RrB w R v nx n o s fa e) (y : Int) : RrB (w.setCell ⟨R, 5, none⟩ (.int .i64 y)) R v nx n o s y e := (heap_setCell_same _ _ _ _ _ _ h).trans rfl
theorem RrB.set6 {w : World} {R : Nat} {v : Value} {nx n o s fa e : Int} (h : RrB w R v nx n o s fa e) (y : Int) : RrB (w.setCell ⟨R, 6, none⟩ (.int .i64 y)) R v nx n o s fa y := (heap_setCell_same _ _ _ _ _ _ h).trans rfl
theorem onlyR_set {w w1 : World} {R j : Nat} {u : Value} (h : Only (fun b => b = R) w w1) : Only (fun b => b = R) w (w1.setCell ⟨R, j, none⟩ u) := h.setCell _ _ (fun _ => rfl)
set_option maxRecDepth 100000 in
theorem rfail_no (R : Nat) (v : Value) (tl : List Tok) (nx n o s fa e a k : Int) (w : World) (he : e ≠ 0) (h : RrAt w R v tl nx n o s fa e) :
    Calls Tryz.prog 52 #[.pointer (some ⟨R, 0, none⟩), .int .i64 a, .int .i64 k] w fun x w' => x = .returned (.tuple #[]) ∧ w' = w := by
  obtain ⟨_, _, _, _, _, _, k6⟩ := h.blk.cells
  clear h
  have he2 : (e == 0) = false := by simp [he]
  go_enter Tryz.func52, Tryz.ntmps52
  go_wp2
  go_end0
  exact ⟨rfl, rfl⟩
set_option maxRecDepth 100000 in
theorem rfail_ok (R : Nat) (v : Value) (tl : List Tok) (nx n o s fa a k : Int) (w : World) (h : RrAt w R v tl nx n o s fa 0) :
    Calls Tryz.prog 52 #[.pointer (some ⟨R, 0, none⟩), .int .i64 a, .int .i64 k] w fun x w' => x = .returned (.tuple #[]) ∧ Hid (RrAt w' R v tl nx n o s a k ∧ Only (fun b => b = R) w w') := by
  obtain ⟨_, _, _, _, _, k5, k6⟩ := h.blk.cells
  have z5 := h.blk.froz 5
  have z6 := h.blk.froz 6
  have H0 : Hid (RrAt w R v tl nx n o s fa 0) := h
  clear h
  go_enter Tryz.func52, Tryz.ntmps52
  go_wp2
  go_end0
  have OO : Only (fun b => b = R) w ((w.setCell ⟨R, 6, none⟩ (.int .i64 k)).setCell ⟨R, 5, none⟩ (.int .i64 a)) := onlyR_set (onlyR_set (Only.refl _ w))
  exact ⟨rfl, H0.out.upd OO ((H0.out.blk.set6 k).set5 a), OO⟩
/-- where the next token begins -/
def atR (tl : List Tok) (nx : Nat) (n : Int) : Int := match tl[nx]? with | some t => t.a | none => n
set_option maxRecDepth 100000 in
theorem rat_any (R : Nat) (v : Value) (tl : List Tok) (nx : Nat) (n o s fa e : Int) (w : World) (h : RrAt w R v tl (nx : Int) n o s fa e) :
    Calls Tryz.prog 53 #[.pointer (some ⟨R, 0, none⟩)] w fun x w' => x = .returned (.int .i64 (atR tl nx n)) ∧ Only (fun _ => False) w w' := by
  obtain ⟨k0, k1, k2, _, _, _, _⟩ := h.blk.cells
  obtain ⟨ao, cap, rfl, hcap, hq⟩ := h.tks
  clear h
  obtain ⟨L, hL⟩ : ∃ L, L = tl.length := ⟨_, rfl⟩
  rw [← hL] at k0
  unfold atR
  by_cases hn : nx < tl.length
  · obtain ⟨g, k, rfl, _, c0, c1, c2, c3⟩ := hq nx _ (List.getElem?_eq_getElem hn)
    rw [List.getElem?_eq_getElem hn]
    dsimp only
    obtain ⟨y, hy⟩ : ∃ y, y = (tl[nx]'hn).a := ⟨_, rfl⟩
    rw [← hy] at c3 ⊢
    have i1 : (nx : Int) < (L : Int) := by omega
    have i0 : (0 : Int) ≤ (nx : Int) := by omega
    clear c0 c1 c2 hq hcap hy hn hL
    go_enter Tryz.func53, Tryz.ntmps53
    go_wp2
    go_quiet (fail)
    go_wp2
    go_quiet (fail)
    go_wp2
    go_ret
    exact ⟨rfl, ((Only.refl _ w).drewN _).drewN _⟩
  · rw [List.getElem?_eq_none (by omega)]
    have i1 : ¬ (nx : Int) < (L : Int) := by omega
    have i2 : (L : Int) ≤ (nx : Int) := by omega
    clear hq hcap hL hn
    go_enter Tryz.func53, Tryz.ntmps53
    go_wp2
    go_quiet (fail)
    go_wp2
    go_ret
    exact ⟨rfl, (Only.refl _ w).drewN _⟩
/-- is the next token this word? is it a name? -/
def isR (tl : List Tok) (nx : Nat) (sh : ByteArray) : Bool := match tl[nx]? with | some t => isB t sh | none => false
def nmR (tl : List Tok) (nx : Nat) : Bool := match tl[nx]? with | some t => nmB t | none => false
set_option maxRecDepth 100000 in
theorem ris_no (R : Nat) (v : Value) (tl : List Tok) (nx n o s fa e : Int) (sh : ByteArray) (w : World) (he : e ≠ 0) (h : RrAt w R v tl nx n o s fa e) :
    Calls Tryz.prog 49 #[.pointer (some ⟨R, 0, none⟩), .string sh] w fun x w' => x = .returned (.bool false) ∧ Only (fun _ => False) w w' := by
  obtain ⟨_, _, _, _, _, _, k6⟩ := h.blk.cells
  clear h
  have he2 : (e == 0) = false := by simp [he]
  go_enter Tryz.func49, Tryz.ntmps49
  go_wp2
  go_quiet (fail)
  go_wp2
  go_ret
  exact ⟨rfl, (Only.refl _ w).drewN _⟩
set_option maxRecDepth 100000 in
theorem rname_no (R : Nat) (v : Value) (tl : List Tok) (nx n o s fa e : Int) (w : World) (he : e ≠ 0) (h : RrAt w R v tl nx n o s fa e) :
    Calls Tryz.prog 78 #[.pointer (some ⟨R, 0, none⟩)] w fun x w' => x = .returned (.bool false) ∧ Only (fun _ => False) w w' := by
  obtain ⟨_, _, _, _, _, _, k6⟩ := h.blk.cells
  clear h
  have he2 : (e == 0) = false := by simp [he]
  go_enter Tryz.func78, Tryz.ntmps78
  go_wp2
  go_quiet (fail)
  go_wp2
  go_ret
  exact ⟨rfl, (Only.refl _ w).drewN _⟩
set_option maxRecDepth 100000 in
set_option maxHeartbeats 4000000 in
theorem ris_any (R : Nat) (v : Value) (tl : List Tok) (nx : Nat) (n o s fa : Int) (sh : ByteArray) (w : World) (h : RrAt w R v tl (nx : Int) n o s fa 0) :
    Calls Tryz.prog 49 #[.pointer (some ⟨R, 0, none⟩), .string sh] w fun x w' => x = .returned (.bool (isR tl nx sh)) ∧ Only (fun _ => False) w w' := by
  obtain ⟨k0, k1, _, _, _, _, k6⟩ := h.blk.cells
  obtain ⟨ao, cap, rfl, hcap, hq⟩ := h.tks
  clear h
  obtain ⟨L, hL⟩ : ∃ L, L = tl.length := ⟨_, rfl⟩
  rw [← hL] at k0
  unfold isR
  by_cases hn : nx < tl.length
  · obtain ⟨g, k, rfl, _, c0, c1, c2, c3⟩ := hq nx _ (List.getElem?_eq_getElem hn)
    rw [List.getElem?_eq_getElem hn]
    dsimp only
    obtain ⟨⟨tk, tt, tn, ta⟩, hy⟩ : ∃ y, y = tl[nx]'hn := ⟨_, rfl⟩
    rw [← hy] at c0 c1 c2 c3 ⊢
    have i1 : (nx : Int) < (L : Int) := by omega
    have i0 : (0 : Int) ≤ (nx : Int) := by omega
    have i3 : decide ((nx : Int) < (L : Int)) = true := by simp; omega
    dsimp only at c0 c1
    simp only [isB]
    clear c2 c3 hq hcap hy hn hL
    by_cases h1 : tk = 1
    · subst h1
      cases hb : tt.toList == sh.toList with
      | false =>
        go_enter Tryz.func49, Tryz.ntmps49
        go_wp2
        go_quiet (fail)
        go_wp2
        go_ret
        exact ⟨rfl, (Only.refl _ w).drewN _⟩
      | true =>
        go_enter Tryz.func49, Tryz.ntmps49
        go_wp2
        go_quiet (fail)
        go_wp2
        go_ret
        exact ⟨rfl, (Only.refl _ w).drewN _⟩
    · have h2 : (tk == 1) = false := by simp [h1]
      rw [h2]
      clear h1
      go_enter Tryz.func49, Tryz.ntmps49
      go_wp2
      go_quiet (fail)
      go_wp2
      go_ret
      exact ⟨rfl, (Only.refl _ w).drewN _⟩
  · rw [List.getElem?_eq_none (by omega)]
    have i3 : decide (nx < L) = false := by simp; omega
    clear hq hcap hL hn
    go_enter Tryz.func49, Tryz.ntmps49
    go_wp2
    go_quiet (fail)
    go_wp2
    go_ret
    exact ⟨rfl, (Only.refl _ w).drewN _⟩
set_option maxRecDepth 100000 in
set_option maxHeartbeats 4000000 in
theorem rname_any (R : Nat) (v : Value) (tl : List Tok) (nx : Nat) (n o s fa : Int) (w : World) (h : RrAt w R v tl (nx : Int) n o s fa 0) :
    Calls Tryz.prog 78 #[.pointer (some ⟨R, 0, none⟩)] w fun x w' => x = .returned (.bool (nmR tl nx)) ∧ Only (fun _ => False) w w' := by
  obtain ⟨k0, k1, _, _, _, _, k6⟩ := h.blk.cells
  obtain ⟨ao, cap, rfl, hcap, hq⟩ := h.tks
  clear h
  obtain ⟨L, hL⟩ : ∃ L, L = tl.length := ⟨_, rfl⟩
  rw [← hL] at k0
  unfold nmR
  by_cases hn : nx < tl.length
  · obtain ⟨g, k, rfl, _, c0, c1, c2, c3⟩ := hq nx _ (List.getElem?_eq_getElem hn)
    rw [List.getElem?_eq_getElem hn]
    dsimp only
    obtain ⟨⟨tk, tt, tn, ta⟩, hy⟩ : ∃ y, y = tl[nx]'hn := ⟨_, rfl⟩
    rw [← hy] at c0 c1 c2 c3 ⊢
    have i1 : (nx : Int) < (L : Int) := by omega
    have i0 : (0 : Int) ≤ (nx : Int) := by omega
    have i3 : decide ((nx : Int) < (L : Int)) = true := by simp; omega
    dsimp only at c0 c1
    simp only [nmB]
    have HR : Hid (∀ w1, Calls Tryz.prog 105 #[.string tt] w1 fun x w' => x = .returned (.bool (resB tt)) ∧ w' = w1) := rreserved_any tt
    clear c2 c3 hq hcap hy hn hL
    by_cases h1 : tk = 1
    · subst h1
      obtain ⟨rb, hrb⟩ : ∃ rb, rb = resB tt := ⟨_, rfl⟩
      rw [← hrb] at HR ⊢
      clear hrb
      cases rb
      · go_enter Tryz.func78, Tryz.ntmps78
        go_wp2
        go_quiet (first | (go_at_call 105; refine Calls.quiet_of_same (HR.out _)))
        go_wp2
        go_ret
        exact ⟨rfl, (Only.refl _ w).drewN _⟩
      · go_enter Tryz.func78, Tryz.ntmps78
        go_wp2
        go_quiet (first | (go_at_call 105; refine Calls.quiet_of_same (HR.out _)))
        go_wp2
        go_ret
        exact ⟨rfl, (Only.refl _ w).drewN _⟩
    · have h2 : (tk == 1) = false := by simp [h1]
      rw [h2]
      clear h1
      go_enter Tryz.func78, Tryz.ntmps78
      go_wp2
      go_quiet (fail)
      go_wp2
      go_ret
      exact ⟨rfl, (Only.refl _ w).drewN _⟩
  · rw [List.getElem?_eq_none (by omega)]
    have i3 : decide (nx < L) = false := by simp; omega
    clear hq hcap hL hn
    go_enter Tryz.func78, Tryz.ntmps78
    go_wp2
    go_quiet (fail)
    go_wp2
    go_ret
    exact ⟨rfl, (Only.refl _ w).drewN _⟩
end Go.Proofs.YtfecmpebnianpaaGreatDoor
namespace Go.Proofs.YtfecmpebnianpaaGreatDoor
open Go.RowKit
set_option linter.unusedSimpArgs false
set_option linter.unusedVariables false
/-- the reader as it is left: behind an error, or not -/
def RrW (R : Nat) (v : Value) (tl : List Tok) (nx n o s fa e : Int) (w w' : World) : Prop := RrAt w' R v tl nx n o s fa e ∧ Only (fun b => b = R) w w'
theorem RrW.later {R : Nat} {v : Value} {tl : List Tok} {nx n o s fa e : Int} {w0 w w' : World} (h : RrW R v tl nx n o s fa e w w') (oo : Only (fun b => b = R) w0 w) : RrW R v tl nx n o s fa e w0 w' := ⟨h.1, oo.trans h.2 (fun _ _ g => g)⟩
set_option maxRecDepth 100000 in
set_option maxHeartbeats 2000000 in
/-- outside of brackets nothing is counted -/
theorem rcount_out (R : Nat) (v : Value) (tl : List Tok) (nx : Nat) (n s fa e : Int) (w : World) (hx : nx ≤ 1000000) (h : RrAt w R v tl (nx : Int) n 0 s fa e) :
    Calls Tryz.prog 79 #[.pointer (some ⟨R, 0, none⟩)] w fun x w' => x = .returned (.tuple #[]) ∧ Hid (RrW R v tl ((nx + 1 : Nat) : Int) n 0 s fa e w w') := by
  obtain ⟨_, k1, _, k3, _, _, _⟩ := h.blk.cells
  have z1 := h.blk.froz 1
  have H0 : Hid (RrAt w R v tl (nx : Int) n 0 s fa e) := h
  clear h
  go_enter Tryz.func79, Tryz.ntmps79
  go_wp2
  go_end0
  have OO : Only (fun b => b = R) w (w.setCell ⟨R, 1, none⟩ (.int .i64 ((nx : Int) + 1))) := onlyR_set (Only.refl _ w)
  refine ⟨rfl, ?_, OO⟩
  try rw [show ((nx + 1 : Nat) : Int) = (nx : Int) + 1 by omega]
  exact H0.out.upd OO (H0.out.blk.set1 _)
set_option maxRecDepth 100000 in
set_option maxHeartbeats 2000000 in
theorem rcount_in (R : Nat) (v : Value) (tl : List Tok) (nx : Nat) (n o s fa e : Int) (w : World) (ho : 0 < o) (hs : 0 ≤ s) (hs1 : s < 1024) (hx : nx ≤ 1000000) (h : RrAt w R v tl (nx : Int) n o s fa e) :
    Calls Tryz.prog 79 #[.pointer (some ⟨R, 0, none⟩)] w fun x w' => x = .returned (.tuple #[]) ∧ Hid (RrW R v tl ((nx + 1 : Nat) : Int) n o (s + 1) fa e w w') := by
  obtain ⟨_, k1, _, k3, k4, _, _⟩ := h.blk.cells
  have z1 := h.blk.froz 1
  have z4 := h.blk.froz 4
  have H0 : Hid (RrAt w R v tl (nx : Int) n o s fa e) := h
  have i1 : ¬ (1024 < s + 1) := by omega
  have i2 : s + 1 ≤ 1024 := by omega
  clear h
  go_enter Tryz.func79, Tryz.ntmps79
  go_wp2
  go_end0
  have OO : Only (fun b => b = R) w ((w.setCell ⟨R, 4, none⟩ (.int .i64 (s + 1))).setCell ⟨R, 1, none⟩ (.int .i64 ((nx : Int) + 1))) := onlyR_set (onlyR_set (Only.refl _ w))
  refine ⟨rfl, ?_, OO⟩
  try rw [show ((nx + 1 : Nat) : Int) = (nx : Int) + 1 by omega]
  exact H0.out.upd OO ((H0.out.blk.set4 _).set1 _)
set_option maxRecDepth 100000 in
set_option maxHeartbeats 2000000 in
/-- one too many: a fault, if there was none -/
theorem rcount_over (R : Nat) (v : Value) (tl : List Tok) (nx : Nat) (n o s fa e : Int) (w : World) (ho : 0 < o) (hs : 1024 ≤ s) (hs1 : s ≤ 100000) (hx : nx ≤ 1000000) (h : RrAt w R v tl (nx : Int) n o s fa e) :
    Calls Tryz.prog 79 #[.pointer (some ⟨R, 0, none⟩)] w fun x w' => x = .returned (.tuple #[]) ∧ Hid (RrW R v tl ((nx + 1 : Nat) : Int) n o (s + 1) (if e = 0 then atR tl nx n else fa) (if e = 0 then 11 else e) w w') := by
  obtain ⟨_, k1, _, k3, k4, _, _⟩ := h.blk.cells
  have z1 := h.blk.froz 1
  have z4 := h.blk.froz 4
  have i1 : 1024 < s + 1 := by omega
  obtain ⟨W0, hW0⟩ : ∃ W0, W0 = w.setCell ⟨R, 4, none⟩ (.int .i64 (s + 1)) := ⟨_, rfl⟩
  have O0 : Only (fun b => b = R) w W0 := by rw [hW0]; exact onlyR_set (Only.refl _ w)
  have A0 : RrAt W0 R v tl (nx : Int) n o (s + 1) fa e := h.upd O0 (by rw [hW0]; exact h.blk.set4 _)
  have HT : Hid (Calls Tryz.prog 53 #[.pointer (some ⟨R, 0, none⟩)] W0 fun x w' => x = .returned (.int .i64 (atR tl nx n)) ∧ Only (fun _ => False) W0 w') := rat_any R v tl nx n o (s + 1) fa e W0 A0
  have HF : Hid (∀ W2, Only (fun _ => False) W0 W2 → Calls Tryz.prog 52 #[.pointer (some ⟨R, 0, none⟩), .int .i64 (atR tl nx n), .int .i64 11] W2 fun x w' => x = .returned (.tuple #[]) ∧ Hid (RrW R v tl (nx : Int) n o (s + 1) (if e = 0 then atR tl nx n else fa) (if e = 0 then 11 else e) w w')) := fun W2 o2 => by
    have A2 := A0.only o2
    have O2 := O0.trans (o2.mono (bs' := fun b => b = R) (fun _ _ h => h.elim)) (fun _ _ g => g)
    by_cases he : e = 0
    · subst he
      exact (rfail_ok R v tl nx n o (s + 1) fa (atR tl nx n) 11 W2 A2).mono fun x w' g => ⟨g.1, g.2.out.1, O2.trans g.2.out.2 (fun _ _ g => g)⟩
    · rw [if_neg he, if_neg he]
      exact (rfail_no R v tl nx n o (s + 1) fa e (atR tl nx n) 11 W2 he A2).mono fun x w' g => ⟨g.1, by rw [g.2]; exact ⟨A2, O2⟩⟩
  obtain ⟨A, hA⟩ : ∃ A, A = atR tl nx n := ⟨_, rfl⟩
  obtain ⟨F, hF⟩ : ∃ A, A = (if e = 0 then atR tl nx n else fa) := ⟨_, rfl⟩
  obtain ⟨E, hE⟩ : ∃ A, A = (if e = 0 then (11 : Int) else e) := ⟨_, rfl⟩
  rw [← hF, ← hE] at HF ⊢
  rw [← hA] at HT HF
  clear A0 O0 hA hF hE h
  go_enter Tryz.func79, Tryz.ntmps79
  go_wp2_with fail
  rw [← hW0]
  refine (show Calls Tryz.prog 53 _ _ _ from HT.out).mono ?_
  rintro x w1 ⟨rfl, o1⟩
  have HF2 : Hid _ := HF.out w1 o1
  clear HT k1 k3 k4 z1 z4 HF o1
  go_wp2_with fail
  refine (show Calls Tryz.prog 52 _ _ _ from HF2.out).mono ?_
  rintro x w2 ⟨rfl, g2⟩
  obtain ⟨_, k1, _, _, _, _, _⟩ := g2.out.1.blk.cells
  have z1 := g2.out.1.blk.froz 1
  clear HF2 hW0
  go_wp2
  go_end0
  have OO : Only (fun b => b = R) w2 (w2.setCell ⟨R, 1, none⟩ (.int .i64 ((nx : Int) + 1))) := onlyR_set (Only.refl _ w2)
  refine ⟨rfl, ?_, g2.out.2.trans OO (fun _ _ g => g)⟩
  try rw [show ((nx + 1 : Nat) : Int) = (nx : Int) + 1 by omega]
  exact g2.out.1.upd OO (g2.out.1.blk.set1 _)
/-- how far what is open is counted -/
def zIn (o z : Int) : Int := if o = 0 then 0 else z
set_option maxRecDepth 100000 in
set_option maxHeartbeats 2000000 in
theorem renter_ok (R : Nat) (v : Value) (tl : List Tok) (nx : Nat) (n o s fa : Int) (w : World) (ho : 0 ≤ o) (ho1 : o < 32) (hs : 0 ≤ s) (hs1 : zIn o s < 1024) (hx : nx ≤ 1000000) (h : RrAt w R v tl (nx : Int) n o s fa 0) :
    Calls Tryz.prog 73 #[.pointer (some ⟨R, 0, none⟩)] w fun x w' => x = .returned (.tuple #[]) ∧ Hid (RrW R v tl ((nx + 1 : Nat) : Int) n (o + 1) (zIn o s + 1) fa 0 w w') := by
  obtain ⟨_, _, _, k3, k4, _, _⟩ := h.blk.cells
  have z3 := h.blk.froz 3
  have z4 := h.blk.froz 4
  have i1 : ¬ (32 < o + 1) := by omega
  have i3 : o + 1 ≤ 32 := by omega
  obtain ⟨W1, hW1⟩ : ∃ W1, W1 = w.setCell ⟨R, 3, none⟩ (.int .i64 (o + 1)) := ⟨_, rfl⟩
  have O1 : Only (fun b => b = R) w W1 := by rw [hW1]; exact onlyR_set (Only.refl _ w)
  have A1 : RrAt W1 R v tl (nx : Int) n (o + 1) s fa 0 := h.upd O1 (by rw [hW1]; exact h.blk.set3 _)
  by_cases h0 : o = 0
  · subst h0
    simp only [zIn, if_true] at hs1 ⊢
    obtain ⟨W2, hW2⟩ : ∃ W2, W2 = W1.setCell ⟨R, 4, none⟩ (.int .i64 0) := ⟨_, rfl⟩
    have O2 : Only (fun b => b = R) w W2 := by rw [hW2]; exact onlyR_set O1
    have A2 : RrAt W2 R v tl (nx : Int) n (0 + 1) 0 fa 0 := A1.upd (by rw [hW2]; exact onlyR_set (Only.refl _ W1)) (by rw [hW2]; exact A1.blk.set4 _)
    have HC : Hid (Calls Tryz.prog 79 #[.pointer (some ⟨R, 0, none⟩)] W2 fun x w' => x = .returned (.tuple #[]) ∧ Hid (RrW R v tl ((nx + 1 : Nat) : Int) n (0 + 1) (0 + 1) fa 0 w w')) := (rcount_in R v tl nx n (0 + 1) 0 fa 0 W2 (by omega) (by omega) (by omega) hx A2).mono fun x w' g => ⟨g.1, RrW.later g.2.out O2⟩
    rw [hW1] at hW2
    clear h A1 O1 A2 O2 hW1
    go_enter Tryz.func73, Tryz.ntmps73
    go_wp2_with fail
    rw [show (w.setCell ⟨R, 3, none⟩ (.int .i64 1)).setCell ⟨R, 4, none⟩ (.int .i64 0) = W2 from hW2.symm]
    refine (show Calls Tryz.prog 79 _ _ _ from HC.out).mono ?_
    rintro x w2 ⟨rfl, g2⟩
    clear HC
    go_wp2
    go_end0
    exact ⟨rfl, g2⟩
  · have e0 : zIn o s = s := if_neg h0
    rw [e0] at hs1 ⊢
    have HC : Hid (Calls Tryz.prog 79 #[.pointer (some ⟨R, 0, none⟩)] W1 fun x w' => x = .returned (.tuple #[]) ∧ Hid (RrW R v tl ((nx + 1 : Nat) : Int) n (o + 1) (s + 1) fa 0 w w')) := (rcount_in R v tl nx n (o + 1) s fa 0 W1 (by omega) hs hs1 hx A1).mono fun x w' g => ⟨g.1, RrW.later g.2.out O1⟩
    have i4 : (o + 1 == 1) = false := by simp; omega
    clear h A1 O1
    go_enter Tryz.func73, Tryz.ntmps73
    go_wp2_with fail
    rw [← hW1]
    refine (show Calls Tryz.prog 79 _ _ _ from HC.out).mono ?_
    rintro x w2 ⟨rfl, g2⟩
    clear HC
    go_wp2
    go_end0
    exact ⟨rfl, g2⟩
/-- a reader with a fault -/
def RrF (R : Nat) (v : Value) (tl : List Tok) (n a e : Int) (w w' : World) : Prop := ∃ (nx : Nat) (o s : Int), RrAt w' R v tl (nx : Int) n o s a e ∧ Only (fun b => b = R) w w'
theorem RrF.later {R : Nat} {v : Value} {tl : List Tok} {n a e : Int} {w0 w w' : World} (h : RrF R v tl n a e w w') (oo : Only (fun b => b = R) w0 w) : RrF R v tl n a e w0 w' := by
  obtain ⟨nx, o, s, h1, h2⟩ := h
  exact ⟨nx, o, s, h1, oo.trans h2 (fun _ _ g => g)⟩
set_option maxRecDepth 100000 in
set_option maxHeartbeats 2000000 in
theorem renter_deep (R : Nat) (v : Value) (tl : List Tok) (nx : Nat) (n s fa : Int) (w : World) (hs : 0 ≤ s) (hs1 : s ≤ 10000) (hx : nx ≤ 1000000) (h : RrAt w R v tl (nx : Int) n 32 s fa 0) :
    Calls Tryz.prog 73 #[.pointer (some ⟨R, 0, none⟩)] w fun x w' => x = .returned (.tuple #[]) ∧ Hid (RrF R v tl n (atR tl nx n) 11 w w') := by
  obtain ⟨_, _, _, k3, k4, _, _⟩ := h.blk.cells
  have z3 := h.blk.froz 3
  obtain ⟨W1, hW1⟩ : ∃ W1, W1 = w.setCell ⟨R, 3, none⟩ (.int .i64 33) := ⟨_, rfl⟩
  have O1 : Only (fun b => b = R) w W1 := by rw [hW1]; exact onlyR_set (Only.refl _ w)
  have A1 : RrAt W1 R v tl (nx : Int) n 33 s fa 0 := h.upd O1 (by rw [hW1]; exact h.blk.set3 _)
  have HT : Hid (Calls Tryz.prog 53 #[.pointer (some ⟨R, 0, none⟩)] W1 fun x w' => x = .returned (.int .i64 (atR tl nx n)) ∧ Only (fun _ => False) W1 w') := rat_any R v tl nx n 33 s fa 0 W1 A1
  have HF : Hid (∀ W2, Only (fun _ => False) W1 W2 → Calls Tryz.prog 52 #[.pointer (some ⟨R, 0, none⟩), .int .i64 (atR tl nx n), .int .i64 11] W2 fun x w' => x = .returned (.tuple #[]) ∧ Hid (RrW R v tl (nx : Int) n 33 s (atR tl nx n) 11 w w')) := fun W2 o2 => (rfail_ok R v tl nx n 33 s fa (atR tl nx n) 11 W2 (A1.only o2)).mono fun x w' g => ⟨g.1, g.2.out.1, (O1.trans (o2.mono (bs' := fun b => b = R) (fun _ _ h => h.elim)) (fun _ _ g => g)).trans g.2.out.2 (fun _ _ g => g)⟩
  have HC : Hid (∀ w2, RrW R v tl (nx : Int) n 33 s (atR tl nx n) 11 w w2 → Calls Tryz.prog 79 #[.pointer (some ⟨R, 0, none⟩)] w2 fun x w' => x = .returned (.tuple #[]) ∧ Hid (RrF R v tl n (atR tl nx n) 11 w w')) := fun w2 g2 => by
    by_cases h1 : s < 1024
    · exact (rcount_in R v tl nx n 33 s _ 11 w2 (by omega) hs h1 hx g2.1).mono fun x w' g => ⟨g.1, nx + 1, 33, s + 1, g.2.out.1, g2.2.trans g.2.out.2 (fun _ _ g => g)⟩
    · exact (rcount_over R v tl nx n 33 s _ 11 w2 (by omega) (by omega) (by omega) hx g2.1).mono fun x w' g => ⟨g.1, nx + 1, 33, s + 1, by have := g.2.out.1; simpa using this, g2.2.trans g.2.out.2 (fun _ _ g => g)⟩
  obtain ⟨A, hA⟩ : ∃ A, A = atR tl nx n := ⟨_, rfl⟩
  rw [← hA] at HT HF HC ⊢
  clear h A1 O1 hA
  go_enter Tryz.func73, Tryz.ntmps73
  go_wp2_with fail
  rw [← hW1]
  refine (show Calls Tryz.prog 53 _ _ _ from HT.out).mono ?_
  rintro x w1 ⟨rfl, o1⟩
  have HF2 : Hid _ := HF.out w1 o1
  clear HT k3 k4 z3 HF o1
  go_wp2_with fail
  refine (show Calls Tryz.prog 52 _ _ _ from HF2.out).mono ?_
  rintro x w2 ⟨rfl, g2⟩
  obtain ⟨_, _, _, k3, _, _, _⟩ := g2.out.1.blk.cells
  have HC2 : Hid _ := HC.out w2 g2.out
  clear HF2 HC hW1 g2
  go_wp2_with fail
  refine (show Calls Tryz.prog 79 _ _ _ from HC2.out).mono ?_
  rintro x w3 ⟨rfl, g3⟩
  clear HC2
  go_wp2
  go_end0
  exact ⟨rfl, g3⟩
set_option maxRecDepth 100000 in
set_option maxHeartbeats 2000000 in
theorem renter_full (R : Nat) (v : Value) (tl : List Tok) (nx : Nat) (n o fa : Int) (w : World) (ho : 0 < o) (ho1 : o < 32) (hx : nx ≤ 1000000) (h : RrAt w R v tl (nx : Int) n o 1024 fa 0) :
    Calls Tryz.prog 73 #[.pointer (some ⟨R, 0, none⟩)] w fun x w' => x = .returned (.tuple #[]) ∧ Hid (RrF R v tl n (atR tl nx n) 11 w w') := by
  obtain ⟨_, _, _, k3, k4, _, _⟩ := h.blk.cells
  have z3 := h.blk.froz 3
  have i1 : ¬ (32 < o + 1) := by omega
  have i3 : o + 1 ≤ 32 := by omega
  have i4 : (o + 1 == 1) = false := by simp; omega
  obtain ⟨W1, hW1⟩ : ∃ W1, W1 = w.setCell ⟨R, 3, none⟩ (.int .i64 (o + 1)) := ⟨_, rfl⟩
  have O1 : Only (fun b => b = R) w W1 := by rw [hW1]; exact onlyR_set (Only.refl _ w)
  have A1 : RrAt W1 R v tl (nx : Int) n (o + 1) 1024 fa 0 := h.upd O1 (by rw [hW1]; exact h.blk.set3 _)
  have HC : Hid (Calls Tryz.prog 79 #[.pointer (some ⟨R, 0, none⟩)] W1 fun x w' => x = .returned (.tuple #[]) ∧ Hid (RrF R v tl n (atR tl nx n) 11 w w')) := (rcount_over R v tl nx n (o + 1) 1024 fa 0 W1 (by omega) (by omega) (by omega) hx A1).mono fun x w' g => ⟨g.1, nx + 1, o + 1, 1024 + 1, by have := g.2.out.1; simpa using this, O1.trans g.2.out.2 (fun _ _ g => g)⟩
  clear h A1 O1
  go_enter Tryz.func73, Tryz.ntmps73
  go_wp2_with fail
  rw [← hW1]
  refine (show Calls Tryz.prog 79 _ _ _ from HC.out).mono ?_
  rintro x w2 ⟨rfl, g2⟩
  clear HC
  go_wp2
  go_end0
  exact ⟨rfl, g2⟩
set_option maxRecDepth 100000 in
theorem rmore_no (R : Nat) (v : Value) (tl : List Tok) (nx n o s fa e : Int) (sh : ByteArray) (w : World) (he : e ≠ 0) (h : RrAt w R v tl nx n o s fa e) :
    Calls Tryz.prog 104 #[.pointer (some ⟨R, 0, none⟩), .string sh] w fun x w' => x = .returned (.bool false) ∧ w' = w := by
  obtain ⟨_, _, _, _, _, _, k6⟩ := h.blk.cells
  clear h
  have he2 : (e == 0) = false := by simp [he]
  go_enter Tryz.func104, Tryz.ntmps104
  go_wp2
  go_ret
  exact ⟨rfl, rfl⟩
set_option maxRecDepth 100000 in
theorem rmore_go (R : Nat) (v : Value) (tl : List Tok) (nx : Nat) (n o s fa : Int) (sh : ByteArray) (w : World) (hb : isR tl nx sh = false) (h : RrAt w R v tl (nx : Int) n o s fa 0) :
    Calls Tryz.prog 104 #[.pointer (some ⟨R, 0, none⟩), .string sh] w fun x w' => x = .returned (.bool true) ∧ Only (fun _ => False) w w' := by
  obtain ⟨_, _, _, _, _, _, k6⟩ := h.blk.cells
  have HS : Hid (Calls Tryz.prog 49 #[.pointer (some ⟨R, 0, none⟩), .string sh] w fun x w' => x = .returned (.bool false) ∧ Only (fun _ => False) w w') := by
    have := ris_any R v tl nx n o s fa sh w h
    rwa [hb] at this
  clear h hb
  go_enter Tryz.func104, Tryz.ntmps104
  go_wp2_with fail
  refine (show Calls Tryz.prog 49 _ _ _ from HS.out).mono ?_
  rintro x w1 ⟨rfl, o1⟩
  have O1 : Hid (Only (fun _ => False) w w1) := o1
  clear HS o1
  go_wp2
  go_ret
  exact ⟨rfl, O1.out⟩
set_option maxRecDepth 100000 in
theorem rmore_shut (R : Nat) (v : Value) (tl : List Tok) (nx : Nat) (n o s fa : Int) (sh : ByteArray) (w : World) (ho : 0 ≤ o) (ho1 : o ≤ 1000) (hx : nx ≤ 1000000) (hb : isR tl nx sh = true) (h : RrAt w R v tl (nx : Int) n o s fa 0) :
    Calls Tryz.prog 104 #[.pointer (some ⟨R, 0, none⟩), .string sh] w fun x w' => x = .returned (.bool false) ∧ Hid (RrW R v tl ((nx + 1 : Nat) : Int) n (o - 1) s fa 0 w w') := by
  obtain ⟨_, k1, _, k3, _, _, k6⟩ := h.blk.cells
  have z1 := h.blk.froz 1
  have z3 := h.blk.froz 3
  have HS : Hid (Calls Tryz.prog 49 #[.pointer (some ⟨R, 0, none⟩), .string sh] w fun x w' => x = .returned (.bool true) ∧ Only (fun _ => False) w w') := by
    have := ris_any R v tl nx n o s fa sh w h
    rwa [hb] at this
  have H0 : Hid (RrAt w R v tl (nx : Int) n o s fa 0) := h
  clear h hb
  go_enter Tryz.func104, Tryz.ntmps104
  go_wp2_with fail
  refine (show Calls Tryz.prog 49 _ _ _ from HS.out).mono ?_
  rintro x w1 ⟨rfl, o1⟩
  have H1 : Hid (RrAt w1 R v tl (nx : Int) n o s fa 0) := H0.out.only o1
  have O1 : Hid (Only (fun b => b = R) w w1) := o1.mono (bs' := fun b => b = R) (fun _ _ h => h.elim)
  clear HS o1 k1 k3 k6 z1 z3 H0
  obtain ⟨_, k1, _, k3, _, _, _⟩ := H1.out.blk.cells
  have z1 := H1.out.blk.froz 1
  have z3 := H1.out.blk.froz 3
  go_wp2
  go_ret
  have OO : Only (fun b => b = R) w1 ((w1.setCell ⟨R, 1, none⟩ (.int .i64 ((nx : Int) + 1))).setCell ⟨R, 3, none⟩ (.int .i64 (o - 1))) := onlyR_set (onlyR_set (Only.refl _ w1))
  refine ⟨rfl, ?_, O1.out.trans OO (fun _ _ g => g)⟩
  try rw [show ((nx + 1 : Nat) : Int) = (nx : Int) + 1 by omega]
  exact H1.out.upd OO ((H1.out.blk.set1 _).set3 _)
end Go.Proofs.YtfecmpebnianpaaGreatDoor
