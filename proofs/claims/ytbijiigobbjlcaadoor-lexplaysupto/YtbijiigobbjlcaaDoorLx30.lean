/- Bad: the place of the first byte that belongs to no character; and LexComments. -/
import Derived.Test.YtbijiigobbjlcaaDoorLx29
namespace Go.Proofs.YtbijiigobbjlcaaDoor
open Go.RowKit Go.Lib
set_option linter.unusedSimpArgs false
set_option linter.unusedVariables false
def badL : List Chr → Int
  | [] => -1
  | c :: l => if c.b = true then (c.a : Int) else badL l
theorem badL_st (s : ByteArray) : ∀ (l : List (Nat × Nat)), (∀ x ∈ l, x.1 < s.size) → badL (l.map (chr1 s)) = if stL s l < s.size then (stL s l : Int) else -1
  | [], _ => by simp [badL, stL]
  | (i, c) :: l, h => by
    have hi := h (i, c) (List.mem_cons_self ..)
    rw [List.map_cons, badL, stL]
    unfold chr1
    by_cases hb : c = 65533 ∧ preB (s.extract i s.size) rpB = false
    · rw [if_pos hb, if_pos rfl, if_pos hb, if_pos hi]
    · rw [if_neg hb, if_neg (by simp), if_neg hb]
      exact badL_st s l (fun x hx => h x (List.mem_cons_of_mem _ hx))
theorem crs_lt (s : ByteArray) : ∀ (b pos : Nat), ∀ x ∈ crs s b pos, x.1 < s.size
  | 0, pos, x, hx => by simp [crs] at hx
  | b + 1, pos, x, hx => by
    by_cases hp : pos < s.size
    · rw [show crs s (b + 1) pos = (pos, (Utf8.decode s pos).1) :: crs s b (pos + (Utf8.decode s pos).2) by simp [crs, hp]] at hx
      rcases List.mem_cons.1 hx with rfl | hx
      · exact hp
      · exact crs_lt s b _ x hx
    · rw [crs_end hp] at hx
      simp at hx
theorem crs_len (s : ByteArray) : ∀ (b pos : Nat), pos ≤ s.size → (crs s b pos).length ≤ s.size - pos
  | 0, pos, _ => by simp [crs]
  | b + 1, pos, h => by
    by_cases hp : pos < s.size
    · rw [show crs s (b + 1) pos = (pos, (Utf8.decode s pos).1) :: crs s b (pos + (Utf8.decode s pos).2) by simp [crs, hp], List.length_cons]
      have := wid_pos s pos hp
      have := decode_wd s pos hp
      have := crs_len s b (pos + (Utf8.decode s pos).2) (by omega)
      omega
    · rw [crs_end hp]
      simp
theorem chrL_len (s : ByteArray) : (chrL s).length ≤ s.size := by
  have := crs_len s s.size 0 (Nat.zero_le _)
  unfold chrL chs
  rw [List.length_map]
  omega
def badR (s : ByteArray) : Int := if stR s < s.size then (stR s : Int) else -1
theorem badR_eq (s : ByteArray) : badL (chrL s) = badR s := badL_st s _ (crs_lt s _ _)
theorem badL_drop {l : List Chr} {i : Nat} {t : Chr} (h : l[i]? = some t) : badL (l.drop i) = if t.b = true then (t.a : Int) else badL (l.drop (i + 1)) := by
  have hi := (List.getElem?_eq_some_iff.1 h).1
  have : l.drop i = t :: l.drop (i + 1) := by
    rw [← (List.getElem?_eq_some_iff.1 h).2]
    exact List.drop_eq_getElem_cons hi
  rw [this, badL]
theorem chr_only {w w' : World} {B : Nat} {v : Value} {l : List Chr} (h : ChrAt w B v l) (o : Only (fun _ => False) w w') : ChrAt w' B v l := ⟨h.1, owns_only h.2 o⟩
set_option maxRecDepth 100000 in
set_option maxHeartbeats 1000000 in
theorem bad_any (s : ByteArray) (hs : s.size ≤ 4000000) (w : World) : Calls Tryd.prog 19 #[.string s] w fun e w' => e = .returned (.int .i64 (badR s)) ∧ Only (fun _ => False) w w' := by
  have HC : Hid (Calls Tryd.prog 25 #[.string s] w fun e w' => ∃ v, e = .returned v ∧ Hid (ChrAt w' w.heap.size v (chrL s) ∧ Below w.heap.size w w')) := chars_any s hs w
  have hlen := chrL_len s
  rw [← badR_eq]
  obtain ⟨l, hl⟩ : ∃ l, l = chrL s := ⟨_, rfl⟩
  rw [← hl] at HC hlen ⊢
  clear hl
  obtain ⟨Z, hZ⟩ : ∃ Z, Z = badL l := ⟨_, rfl⟩
  have HZ : Hid (Z = badL l) := hZ
  rw [← hZ]
  clear hZ
  go_enter Tryd.func19, Tryd.ntmps19
  go_wp2_with fail
  refine (show Calls Tryd.prog 25 _ _ _ from HC.out).mono ?_
  rintro e w1 ⟨v, rfl, g⟩
  have O1 : Hid (Only (fun _ => False) w w1) := below_only g.out.2
  have T1 : Hid (ChrAt w1 w.heap.size v l) := g.out.1
  obtain ⟨ao, cap, rfl⟩ := g.out.1.1
  clear HC g
  go_wp2
  go_loopw [4] (fun r4 wr => ∃ k : Nat, k ≤ l.length ∧ r4 = .int .i64 (k : Int) ∧ wr = w1 ∧ Hid (Z = badL (l.drop k))) (fun r4 _ => l.length - uOf r4)
  case atStart => exact ⟨0, Nat.zero_le _, rfl, rfl, HZ.out⟩
  case round =>
    obtain ⟨k, hk, rfl, rfl, HI⟩ := hrel
    clear HZ
    by_cases hlt : k < l.length
    · obtain ⟨t, ht⟩ : ∃ t, t = l[k]'hlt := ⟨_, rfl⟩
      have ht2 : l[k]? = some t := by rw [ht]; exact List.getElem?_eq_getElem _
      obtain ⟨g, cap', hv, _, _, c0, c1, c2, c3⟩ := chr_cells T1.out ht2
      injection hv with hv1 hv2 hv3
      subst hv1
      have hd := badL_drop ht2
      obtain ⟨tr, ta, tz, tb⟩ := t
      dsimp only at c0 c1 c2 c3 hd
      have k0 : (0 : Int) ≤ (k : Int) := Int.natCast_nonneg _
      obtain ⟨L, hL⟩ : ∃ L, L = l.length := ⟨_, rfl⟩
      rw [← hL]
      have k1 : (k : Int) < (L : Int) := by omega
      cases tb with
      | true =>
        have HE : Hid (Z = (ta : Int)) := by
          show Z = _
          rw [HI.out, hd, if_pos rfl]
        clear HI hd ht ht2 T1 hL hlen hv2 hv3
        go_wp2
        go_ret
        exact ⟨by rw [show Z = _ from HE.out]; rfl, O1.out⟩
      | false =>
        have HE : Hid (Z = badL (l.drop (k + 1))) := by
          show Z = _
          rw [HI.out, hd, if_neg (by simp)]
        have HLL : Hid (L = l.length) := hL
        have hl4 : L ≤ 4000000 := by omega
        clear HI hd ht ht2 hL hlen hv2 hv3
        go_wp2
        go_roundw
        case rel => exact ⟨k + 1, by omega, by go_num, by simp, HE⟩
        case measure => simp only [uOf]; omega
    · have HE : Hid (Z = -1) := by
        show Z = _
        rw [HI.out, List.drop_eq_nil_of_le (by omega)]
        rfl
      have k1 : ¬ (k : Int) < (l.length : Int) := by omega
      clear HI
      go_wp2
      go_ret
      exact ⟨by rw [show Z = _ from HE.out]; rfl, O1.out⟩
end Go.Proofs.YtbijiigobbjlcaaDoor
