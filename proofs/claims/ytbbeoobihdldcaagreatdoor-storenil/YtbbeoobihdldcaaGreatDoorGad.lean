/-              -/
import Derived.Test.YtbbeoobihdldcaaGreatDoorGac
import Derived.Laws.IdiomStrings
import Derived.Laws.Concat
import Derived.Laws.Runes
namespace Go.Proofs.YtbbeoobihdldcaaGreatDoor
open Go.RowKit
set_option linter.unusedSimpArgs false
set_option linter.unusedVariables false
def blk (c : Nat) : Bool := c == 9 || c == 10 || c == 13 || c == 32 || c == 160 || c == 12288
set_option maxRecDepth 100000 in
set_option maxHeartbeats 1000000 in
theorem blank_any (c : Nat) (w : World) : Calls Tryz.prog 222 #[.int .i32 (c : Nat)] w fun e w' => e = .returned (.bool (blk c)) ∧ w' = w := by
 by_cases h9 : c = 9
 ·subst h9
  rw [show blk 9 = true from rfl]
  go_enter Tryz.func222, Tryz.ntmps222
  go_wp2
  go_ret
  exact ⟨rfl, rfl⟩
 ·have i9 : ¬ (c : Int) = 9 := by omega
  by_cases h10 : c = 10
  ·subst h10
   rw [show blk 10 = true from rfl]
   go_enter Tryz.func222, Tryz.ntmps222
   go_wp2
   go_ret
   exact ⟨rfl, rfl⟩
  ·have i10 : ¬ (c : Int) = 10 := by omega
   by_cases h13 : c = 13
   ·subst h13
    rw [show blk 13 = true from rfl]
    go_enter Tryz.func222, Tryz.ntmps222
    go_wp2
    go_ret
    exact ⟨rfl, rfl⟩
   ·have i13 : ¬ (c : Int) = 13 := by omega
    by_cases h32 : c = 32
    ·subst h32
     rw [show blk 32 = true from rfl]
     go_enter Tryz.func222, Tryz.ntmps222
     go_wp2
     go_ret
     exact ⟨rfl, rfl⟩
    ·have i32 : ¬ (c : Int) = 32 := by omega
     by_cases h160 : c = 160
     ·subst h160
      rw [show blk 160 = true from rfl]
      go_enter Tryz.func222, Tryz.ntmps222
      go_wp2
      go_ret
      exact ⟨rfl, rfl⟩
     ·have i160 : ¬ (c : Int) = 160 := by omega
      by_cases h12288 : c = 12288
      ·subst h12288
       rw [show blk 12288 = true from rfl]
       go_enter Tryz.func222, Tryz.ntmps222
       go_wp2
       go_ret
       exact ⟨rfl, rfl⟩
      ·have i12288 : ¬ (c : Int) = 12288 := by omega
       rw [show blk c = false by simp [blk, h9, h10, h13, h32, h160, h12288]]
       go_enter Tryz.func222, Tryz.ntmps222
       go_wp2
       go_ret
       exact ⟨rfl, rfl⟩
def ofN (c : Nat) : Bool := !blk c && decide (31 < c) && !(c == 127) && !(c == 65533)
set_option maxRecDepth 100000 in
set_option maxHeartbeats 1000000 in
theorem ofname_any (c : Nat) (w : World) : Calls Tryz.prog 211 #[.int .i32 (c : Nat)] w fun e w' => e = .returned (.bool (ofN c)) ∧ w' = w := by
 have H : Hid (Calls Tryz.prog 222 #[.int .i32 (c : Nat)] w fun e w' => e = .returned (.bool (blk c)) ∧ w' = w) := blank_any c w
 unfold ofN
 cases hb : blk c with
 | true =>
   rw [hb] at H
   simp only [Bool.not_true, Bool.false_and]
   clear hb
   go_enter Tryz.func211, Tryz.ntmps211
   go_wp2_with (go_at_call 222; refine (show Calls Tryz.prog 222 _ _ _ from H.out).mono ?_; rintro e wz ⟨rfl, rfl⟩)
   go_ret
   exact ⟨rfl, rfl⟩
 | false =>
   rw [hb] at H
   simp only [Bool.not_false, Bool.true_and]
   clear hb
   by_cases h1 : 31 < c
   ·have i1 : (31 : Int) < (c : Int) := by omega
    by_cases h2 : c = 127
    ·subst h2
     have e : (decide (31 < 127) && !(127 == 127) && !((127 : Nat) == 65533)) = false := rfl
     rw [e]
     go_enter Tryz.func211, Tryz.ntmps211
     go_wp2_with (go_at_call 222; refine (show Calls Tryz.prog 222 _ _ _ from H.out).mono ?_; rintro e wz ⟨rfl, rfl⟩)
     go_ret
     exact ⟨rfl, rfl⟩
    ·have i2 : ¬ (c : Int) = 127 := by omega
     by_cases h3 : c = 65533
     ·subst h3
      have e : (decide (31 < 65533) && !((65533 : Nat) == 127) && !((65533 : Nat) == 65533)) = false := rfl
      rw [e]
      go_enter Tryz.func211, Tryz.ntmps211
      go_wp2_with (go_at_call 222; refine (show Calls Tryz.prog 222 _ _ _ from H.out).mono ?_; rintro e wz ⟨rfl, rfl⟩)
      go_ret
      exact ⟨rfl, rfl⟩
     ·have i3 : ¬ (c : Int) = 65533 := by omega
      have e : (decide (31 < c) && !(c == 127) && !(c == 65533)) = true := by simp [h1, h2, h3]
      rw [e]
      have j2 : ((c : Int) != 127) = true := by simpa using i2
      have j3 : ((c : Int) != 65533) = true := by simpa using i3
      go_enter Tryz.func211, Tryz.ntmps211
      go_wp2_with (go_at_call 222; refine (show Calls Tryz.prog 222 _ _ _ from H.out).mono ?_; rintro e wz ⟨rfl, rfl⟩)
      go_ret
      exact ⟨rfl, rfl⟩
   ·have i1 : ¬ (31 : Int) < (c : Int) := by omega
    have e : (decide (31 < c) && !(c == 127) && !(c == 65533)) = false := by simp [h1]
    rw [e]
    go_enter Tryz.func211, Tryz.ntmps211
    go_wp2_with (go_at_call 222; refine (show Calls Tryz.prog 222 _ _ _ from H.out).mono ?_; rintro e wz ⟨rfl, rfl⟩)
    go_ret
    exact ⟨rfl, rfl⟩
def nmL : List Nat → Nat → Bool
 | [], k => decide (0 < k)
 | c :: l, k => if 32 < k + 1 ∨ ofN c = false then false else nmL l (k + 1)
def quB : ByteArray := ⟨#[34]⟩
def nmdB (s : ByteArray) : Bool := if s.toList == [33] then false else if preB s quB then false else nmL (rns s) 0
set_option maxRecDepth 100000 in
set_option maxHeartbeats 2000000 in
theorem named_any (s : ByteArray) (w : World) : Calls Tryz.prog 201 #[.string s] w fun e w' => e = .returned (.bool (nmdB s)) ∧ Only (fun _ => False) w w' := by
 have HP : Hid (Calls Tryz.prog 206 #[.string s, .string ⟨#[34]⟩] w fun e w' => e = .returned (.bool (preB s quB)) ∧ w' = w) := hasprefix_any s quB w
 have HO : Hid (∀ w1 (c : Nat), Calls Tryz.prog 211 #[.int .i32 (c : Nat)] w1 fun e w' => e = .returned (.bool (ofN c)) ∧ w' = w1) := fun w1 c => ofname_any c w1
 have O0 : Hid (Only (fun _ => False) w w) := Only.refl _ _
 unfold nmdB
 cases h1 : s.toList == [33] with
 | true =>
   simp only [if_true]
   go_enter Tryz.func201, Tryz.ntmps201
   go_wp2
   go_ret
   exact ⟨rfl, O0.out⟩
 | false =>
   simp only [Bool.false_eq_true, if_false]
   cases h2 : preB s quB with
   | true =>
     rw [h2] at HP
     simp only [if_true]
     go_enter Tryz.func201, Tryz.ntmps201
     go_wp2_with (go_at_call 206; refine (show Calls Tryz.prog 206 _ _ _ from HP.out).mono ?_; rintro e wz ⟨rfl, rfl⟩)
     go_ret
     exact ⟨rfl, O0.out⟩
   | false =>
     rw [h2] at HP
     simp only [Bool.false_eq_true, if_false]
     obtain ⟨Z, hZ⟩ : ∃ Z, Z = nmL (rns s) 0 := ⟨_, rfl⟩
     have HZ : Hid (Z = nmL ((crs s s.size 0).map (·.2)) 0) := hZ
     rw [← hZ]
     clear hZ h2
     go_enter Tryz.func201, Tryz.ntmps201
     go_wp2_with (go_at_call 206; refine (show Calls Tryz.prog 206 _ _ _ from HP.out).mono ?_; rintro e wz ⟨rfl, rfl⟩)
     clear HP h1
     go_loopw [3] (fun k w' => ∃ (m pos b : Nat), w' = wz.iter s pos ∧ k = .int .i64 (m : Nat) ∧ Hid (Z = nmL ((crs s b pos).map (·.2)) m ∧ s.size ≤ pos + b ∧ m ≤ 32)) (fun _ w' => s.size - w'.iterPos wz.heap.size)
     case atStart => exact ⟨0, 0, s.size, rfl, rfl, HZ.out, by omega, by omega⟩
     case round =>
      obtain ⟨m, pos, b, rfl, rfl, HI⟩ := hrel
      clear HZ
      by_cases hp : pos < s.size
      ·have hnx : ∀ ty, (Instr.next (.pointer (some ⟨wz.heap.size, 0, none⟩)) true ty).run Tryz.prog (wz.iter s pos) = _ := fun ty => run_next_any wz s pos ty hp
       have hwd := wid_pos s pos hp
       obtain ⟨b', hb', hcr⟩ := crs_go hp HI.out.2.1
       obtain ⟨c, hc⟩ : ∃ c, c = (Utf8.decode s pos).1 := ⟨_, rfl⟩
       obtain ⟨wd, hw⟩ : ∃ c, c = (Utf8.decode s pos).2 := ⟨_, rfl⟩
       rw [← hc, ← hw] at hnx hcr
       rw [← hw] at hwd
       have hm := HI.out.2.2
       have HZ2 : Hid (Z = nmL (c :: (crs s b' (pos + wd)).map (·.2)) m ∧ s.size ≤ pos + wd + b') := ⟨by rw [HI.out.1, hcr]; rfl, by have := HI.out.2.1; omega⟩
       have OI : Hid (Only (fun _ => False) wz (wz.iter s (pos + wd))) := (Only.refl _ wz).iter s _
       have em : IntKind.i64.wrap ((m : Int) + 1) = ((m + 1 : Nat) : Int) := by rw [IntKind.wrap_i64]; omega
       clear HI hc hw hcr hb'
       by_cases hbig : 32 < m + 1
       ·have i1 : (32 : Int) < ((m + 1 : Nat) : Int) := by omega
        have HE : Hid (Z = false) := by rw [HZ2.out.1, nmL, if_pos (.inl hbig)]; rfl
        clear HZ2
        go_wp2
        go_ret
        have hz : Z = false := HE.out
        subst hz
        exact ⟨rfl, OI.out⟩
       ·have i1 : ¬ (32 : Int) < ((m + 1 : Nat) : Int) := by omega
        have HO1 : Hid (Calls Tryz.prog 211 #[.int .i32 (c : Nat)] (wz.iter s (pos + wd)) fun e w' => e = .returned (.bool (ofN c)) ∧ w' = wz.iter s (pos + wd)) := HO.out _ c
        cases ho : ofN c with
        | false =>
          rw [ho] at HO1
          have HE : Hid (Z = false) := by rw [HZ2.out.1, nmL, if_pos (.inr ho)]; rfl
          clear HZ2 ho
          go_wp2_with (go_at_call 211; refine (show Calls Tryz.prog 211 _ _ _ from HO1.out).mono ?_; rintro e wz ⟨rfl, rfl⟩)
          go_ret
          have hz : Z = false := HE.out
          subst hz
          exact ⟨rfl, OI.out⟩
        | true =>
          rw [ho] at HO1
          have HN : Hid (Z = nmL ((crs s b' (pos + wd)).map (·.2)) (m + 1) ∧ s.size ≤ pos + wd + b' ∧ m + 1 ≤ 32) := ⟨by rw [HZ2.out.1, nmL, if_neg (by rintro (g | g); exact hbig g; rw [ho] at g; cases g)], HZ2.out.2, by omega⟩
          clear HZ2 ho
          go_wp2_with (go_at_call 211; refine (show Calls Tryz.prog 211 _ _ _ from HO1.out).mono ?_; rintro e wz ⟨rfl, rfl⟩)
          go_roundw
          case rel => exact ⟨m + 1, pos + wd, b', rfl, by first | rfl | go_num, HN.out⟩
          case measure => simp; omega
      ·have hnx : ∀ ty, (Instr.next (.pointer (some ⟨wz.heap.size, 0, none⟩)) true ty).run Tryz.prog (wz.iter s pos) = _ := fun ty => run_next_end wz s pos ty hp
       have HE : Hid (Z = decide (0 < m)) := by rw [HI.out.1, crs_end hp]; rfl
       have OI : Hid (Only (fun _ => False) wz (wz.iter s pos)) := (Only.refl _ wz).iter s _
       clear HI
       by_cases h0 : 0 < m
       ·have i1 : (0 : Int) < (m : Int) := by omega
        go_wp2
        go_ret
        exact ⟨by rw [HE.out]; simp [h0], OI.out⟩
       ·have i1 : ¬ (0 : Int) < (m : Int) := by omega
        go_wp2
        go_ret
        exact ⟨by rw [HE.out]; simp [h0], OI.out⟩
def nameB (s : ByteArray) : Bool := decide ((numR s).2 = 9) && nmdB s
set_option maxRecDepth 100000 in
set_option maxHeartbeats 1000000 in
theorem name_any (s : ByteArray) (w : World) (h : Nog w) : Calls Tryz.prog 194 #[.string s] w fun e w' => e = .returned (.bool (nameB s)) ∧ Only (fun _ => False) w w' := by
 have H1 : Hid (Calls Tryz.prog 200 #[.string s] w fun e w' => e = .returned (.tuple #[.int .i64 (numR s).1, .int .i64 (numR s).2]) ∧ Only (fun _ => False) w w') := number_any s w h
 have H2 : Hid (∀ w1, Calls Tryz.prog 201 #[.string s] w1 fun e w' => e = .returned (.bool (nmdB s)) ∧ Only (fun _ => False) w1 w') := fun w1 => named_any s w1
 unfold nameB
 obtain ⟨n, hn⟩ : ∃ x, x = (numR s).1 := ⟨_, rfl⟩
 obtain ⟨k, hk⟩ : ∃ x, x = (numR s).2 := ⟨_, rfl⟩
 obtain ⟨z, hz⟩ : ∃ x, x = nmdB s := ⟨_, rfl⟩
 rw [← hn, ← hk] at H1
 rw [← hk, ← hz]
 rw [← hz] at H2
 clear hn hk hz h
 by_cases h9 : k = 9
 ·subst h9
  simp only [decide_true, Bool.true_and]
  go_enter Tryz.func194, Tryz.ntmps194
  go_wp2_with fail
  refine (show Calls Tryz.prog 200 _ _ _ from H1.out).mono ?_
  rintro e w1 ⟨rfl, o1⟩
  have H3 : Hid (Calls Tryz.prog 201 _ _ _) := H2.out w1
  have O1 : Hid (Only (fun _ => False) w w1) := o1
  clear H1 H2 o1
  go_wp2_with fail
  refine (show Calls Tryz.prog 201 _ _ _ from H3.out).mono ?_
  rintro e w2 ⟨rfl, o2⟩
  have O2 : Hid (Only (fun _ => False) w w2) := O1.out.trans o2 (fun _ _ g => g)
  clear H3 o2
  go_wp2
  go_ret
  exact ⟨rfl, O2.out⟩
 ·have e : (decide (k = 9) && z) = false := by simp [h9]
  rw [e]
  go_enter Tryz.func194, Tryz.ntmps194
  go_wp2_with fail
  refine (show Calls Tryz.prog 200 _ _ _ from H1.out).mono ?_
  rintro e w1 ⟨rfl, o1⟩
  have O1 : Hid (Only (fun _ => False) w w1) := o1
  clear H1 H2 o1
  go_wp2
  go_ret
  exact ⟨rfl, O1.out⟩
end Go.Proofs.YtbbeoobihdldcaaGreatDoor
namespace Go.Proofs.YtbbeoobihdldcaaGreatDoor
open Go.RowKit
set_option linter.unusedSimpArgs false
set_option linter.unusedVariables false
def OkR (r : Nat) : Prop := ∃ d, d < 10 ∧ (r = 48 + d ∨ r = 1632 + d ∨ r = 65296 + d)
def encR (r : Nat) : List UInt8 := (Utf8.encode (r : Int)).data.toList
def encL (l : List Nat) : List UInt8 := l.flatMap encR
def mkS (l : List Nat) : ByteArray := ⟨(encL l).toArray⟩
theorem ten {d : Nat} (h : d < 10) : d = 0 ∨ d = 1 ∨ d = 2 ∨ d = 3 ∨ d = 4 ∨ d = 5 ∨ d = 6 ∨ d = 7 ∨ d = 8 ∨ d = 9 := by omega
theorem enc48 {d : Nat} (h : d < 10) : encR (48 + d) = [UInt8.ofNat (48 + d)] := by
 rcases ten h with rfl | rfl | rfl | rfl | rfl | rfl | rfl | rfl | rfl | rfl <;> rfl
theorem enc16 {d : Nat} (h : d < 10) : encR (1632 + d) = [217, UInt8.ofNat (160 + d)] := by
 rcases ten h with rfl | rfl | rfl | rfl | rfl | rfl | rfl | rfl | rfl | rfl <;> rfl
theorem enc65 {d : Nat} (h : d < 10) : encR (65296 + d) = [239, 188, UInt8.ofNat (144 + d)] := by
 rcases ten h with rfl | rfl | rfl | rfl | rfl | rfl | rfl | rfl | rfl | rfl <;> rfl
theorem get_mid (pre post : List UInt8) (k : Nat) (hk : k < post.length) : (ByteArray.mk (pre ++ post).toArray).get! (pre.length + k) = post[k] := by
 simp [ByteArray.get!, hk]
theorem size_mk (l : List UInt8) : (ByteArray.mk l.toArray).size = l.length := by simp [ByteArray.size]
theorem decode_mid (pre post : List UInt8) {r : Nat} (h : OkR r) : Utf8.decode ⟨(pre ++ (encR r ++ post)).toArray⟩ pre.length = (r, (encR r).length) := by
 obtain ⟨d, hd, h⟩ := h
 have g := fun k hk => get_mid pre (encR r ++ post) k hk
 have sz := size_mk (pre ++ (encR r ++ post))
 obtain ⟨s, hs⟩ : ∃ s, s = ByteArray.mk (pre ++ (encR r ++ post)).toArray := ⟨_, rfl⟩
 rw [← hs] at g sz ⊢
 clear hs
 rcases h with rfl | rfl | rfl
 ·rw [enc48 hd] at g sz ⊢
  have g0 := g 0 (by simp)
  clear g
  simp only [Nat.add_zero] at g0
  rcases ten hd with rfl | rfl | rfl | rfl | rfl | rfl | rfl | rfl | rfl | rfl <;> simp [Utf8.decode, g0]
 ·rw [enc16 hd] at g sz ⊢
  have g0 := g 0 (by simp)
  have g1 := g 1 (by simp)
  clear g
  simp only [Nat.add_zero] at g0
  simp only [List.length_append, List.length_cons, List.length_nil] at sz
  have k1 : pre.length + 1 < s.size := by omega
  rcases ten hd with rfl | rfl | rfl | rfl | rfl | rfl | rfl | rfl | rfl | rfl <;> simp [Utf8.decode, g0, g1, k1]
 ·rw [enc65 hd] at g sz ⊢
  have g0 := g 0 (by simp)
  have g1 := g 1 (by simp)
  have g2 := g 2 (by simp)
  clear g
  simp only [Nat.add_zero] at g0
  simp only [List.length_append, List.length_cons, List.length_nil] at sz
  have k1 : pre.length + 1 < s.size := by omega
  have k2 : pre.length + 2 < s.size := by omega
  rcases ten hd with rfl | rfl | rfl | rfl | rfl | rfl | rfl | rfl | rfl | rfl <;> simp [Utf8.decode, Utf8.valid, g0, g1, g2, k1, k2]
theorem enc_pos {r : Nat} (h : OkR r) : 1 ≤ (encR r).length := by
 obtain ⟨d, hd, h⟩ := h
 rcases h with rfl | rfl | rfl
 ·rw [enc48 hd]; simp
 ·rw [enc16 hd]; simp
 ·rw [enc65 hd]; simp
theorem crs_enc (l : List Nat) : ∀ (pre : List UInt8) (b : Nat), (∀ r ∈ l, OkR r) → (encL l).length ≤ b → (crs ⟨(pre ++ encL l).toArray⟩ b pre.length).map (·.2) = l := by
 induction l with
 | nil =>
   intro pre b _ _
   rw [crs_end]
   ·rfl
   ·rw [size_mk]; simp [encL]
 | cons r l ih =>
   intro pre b h hb
   have hr := h r (List.mem_cons_self ..)
   have hp := enc_pos hr
   have e : encL (r :: l) = encR r ++ encL l := by simp [encL]
   rw [e] at hb ⊢
   rw [List.length_append] at hb
   cases b with
   | zero => omega
   | succ b =>
     have hd := decode_mid pre (encL l) hr
     have hsz : pre.length < (ByteArray.mk (pre ++ (encR r ++ encL l)).toArray).size := by rw [size_mk]; simp only [List.length_append]; omega
     have i2 := ih (pre ++ encR r) b (fun x hx => h x (List.mem_cons_of_mem _ hx)) (by omega)
     rw [List.append_assoc, List.length_append] at i2
     obtain ⟨s, hs⟩ : ∃ s, s = ByteArray.mk (pre ++ (encR r ++ encL l)).toArray := ⟨_, rfl⟩
     rw [← hs] at hd hsz i2 ⊢
     rw [crs, if_pos hsz, hd, List.map_cons, i2]
theorem rns_mk {l : List Nat} (h : ∀ r ∈ l, OkR r) : rns (mkS l) = l := by
 have := crs_enc l [] (mkS l).size h (by unfold mkS; rw [size_mk]; exact Nat.le_refl _)
 exact this
def dg (n d : Nat) : Nat := if n ≤ 1152921504606846976 then n * 10 + d else n
def valD (ds : List Nat) : Nat := ds.foldl dg 0
theorem nat_in {nt : Nat} (hn : nt = 48 ∨ nt = 1632 ∨ nt = 65296) {d : Nat} (hd : d < 10) : inS ((nt + d : Nat) : Int) (nt : Int) = true ∧ scr ((nt + d : Nat) : Int) = some (nt : Int) ∧ ∀ n, dig n (nt + d) (nt : Int) = dg n d := by
 refine ⟨by simp only [inS, decide_eq_true_eq]; omega, ?_, fun n => ?_⟩
 ·unfold scr
  rcases hn with rfl | rfl | rfl
  ·rw [if_pos (by simp only [inS, decide_eq_true_eq]; omega)]; rfl
  ·rw [if_neg (by simp only [inS, decide_eq_true_eq]; omega), if_pos (by simp only [inS, decide_eq_true_eq]; omega)]; rfl
  ·rw [if_neg (by simp only [inS, decide_eq_true_eq]; omega), if_neg (by simp only [inS, decide_eq_true_eq]; omega), if_pos (by simp only [inS, decide_eq_true_eq]; omega)]; rfl
 ·unfold dig dg
  split
  ·congr 1
   omega
  ·rfl
theorem natL_go {nt : Nat} (hn : nt = 48 ∨ nt = 1632 ∨ nt = 65296) (post : List Nat) : ∀ (ds : List Nat) (n : Nat), (∀ d ∈ ds, d < 10) → natL (ds.map (nt + ·) ++ post) (nt : Int) true n = natL post (nt : Int) true (ds.foldl dg n)
 | [], n, _ => rfl
 | d :: ds, n, h => by
   obtain ⟨h1, _, h3⟩ := nat_in hn (h d (List.mem_cons_self ..))
   rw [List.map_cons, List.cons_append, natL, if_pos h1, h3, natL_go hn post ds _ (fun x hx => h x (List.mem_cons_of_mem _ hx))]
   rfl
theorem natL_all {nt : Nat} (hn : nt = 48 ∨ nt = 1632 ∨ nt = 65296) (post : List Nat) {ds : List Nat} (h : ∀ d ∈ ds, d < 10) (hne : ds ≠ []) : natL (ds.map (nt + ·) ++ post) 0 false 0 = natL post (nt : Int) true (valD ds) := by
 cases ds with
 | nil => exact absurd rfl hne
 | cons d ds =>
   obtain ⟨_, h2, h3⟩ := nat_in hn (h d (List.mem_cons_self ..))
   rw [List.map_cons, List.cons_append, natL, h2]
   simp only
   rw [h3, natL_go hn post ds _ (fun x hx => h x (List.mem_cons_of_mem _ hx))]
   rfl
theorem okR_map {nt : Nat} (hn : nt = 48 ∨ nt = 1632 ∨ nt = 65296) {ds : List Nat} (h : ∀ d ∈ ds, d < 10) : ∀ r ∈ ds.map (nt + ·), OkR r := by
 intro r hr
 obtain ⟨d, hd, rfl⟩ := List.mem_map.1 hr
 refine ⟨d, h d hd, ?_⟩
 rcases hn with rfl | rfl | rfl
 ·exact .inl rfl
 ·exact .inr (.inl rfl)
 ·exact .inr (.inr rfl)
theorem dg_fold : ∀ (ds : List Nat) (a p : Nat), (∀ d ∈ ds, d < 10) → (a = p ∨ (1152921504606846976 < a ∧ 1152921504606846976 < p)) → (ds.foldl dg a = ds.foldl (fun n d => n * 10 + d) p ∨ (1152921504606846976 < ds.foldl dg a ∧ 1152921504606846976 < ds.foldl (fun n d => n * 10 + d) p))
 | [], a, p, _, h => h
 | d :: ds, a, p, hd, h => by
   rw [List.foldl_cons, List.foldl_cons]
   refine dg_fold ds _ _ (fun x hx => hd x (List.mem_cons_of_mem _ hx)) ?_
   unfold dg
   rcases h with rfl | ⟨h1, h2⟩
   ·split
    ·exact .inl rfl
    ·exact .inr ⟨by omega, by omega⟩
   ·rw [if_neg (by omega)]
    exact .inr ⟨h1, by omega⟩
def valX (ds : List Nat) : Nat := ds.foldl (fun n d => n * 10 + d) 0
theorem val_fits {ds : List Nat} (h : ∀ d ∈ ds, d < 10) : (valX ds ≤ 1152921504606846976 → valD ds = valX ds) ∧ (1152921504606846976 < valX ds → 1152921504606846976 < valD ds) := by
 have := dg_fold ds 0 0 h (.inl rfl)
 unfold valX valD
 constructor
 ·intro g; omega
 ·intro g; omega
def numD (neg : Bool) (v : Nat) : Int × Int := if neg = true ∧ v ≤ 1152921504606846976 then (-(v : Int), 0) else if neg = false ∧ v ≤ 1152921504606846975 then ((v : Int), 0) else (0, 11)
end Go.Proofs.YtbbeoobihdldcaaGreatDoor
namespace Go.Proofs.YtbbeoobihdldcaaGreatDoor
open Go.RowKit
set_option linter.unusedSimpArgs false
set_option linter.unusedVariables false
def mnB (neg : Bool) : ByteArray := if neg then ⟨#[45]⟩ else ⟨#[]⟩
theorem ba_ext {a b : ByteArray} (h : a.data = b.data) : a = b := by cases a; cases b; simp at h; rw [h]
theorem app_data (a b : ByteArray) : (a ++ b).data = a.data ++ b.data := by simp
theorem app_mk (a b : List UInt8) : (ByteArray.mk a.toArray) ++ (ByteArray.mk b.toArray) = ByteArray.mk (a ++ b).toArray := ba_ext (by rw [app_data]; simp)
theorem pre_hy (b : UInt8) (t : List UInt8) : preB ⟨(b :: t).toArray⟩ hyB = (b == 45) := by
 have h1 : hyB.size = 1 := rfl
 have h2 : hyB.toList = [45] := by rw [ByteArray.toList_eq]; rfl
 have h3 : ((ByteArray.mk (b :: t).toArray).extract 0 1).toList = [b] := by
  rw [ByteArray.toList_eq, ByteArray.data_extract]
  simp
 unfold preB
 rw [h1, h2, h3, size_mk]
 simp
theorem pre_mi {b : UInt8} (t : List UInt8) (hb : b ≠ 226) : preB ⟨(b :: t).toArray⟩ miB = false := by
 have h1 : miB.size = 3 := rfl
 have h2 : miB.toList = [226, 136, 146] := by rw [ByteArray.toList_eq]; rfl
 have h3 : ((ByteArray.mk (b :: t).toArray).extract 0 3).toList = b :: t.take 2 := by
  rw [ByteArray.toList_eq, ByteArray.data_extract]
  simp
 unfold preB
 rw [h1, h2, h3]
 simp [hb]
theorem enc_head {r : Nat} (h : OkR r) : ∃ b t, encR r = b :: t ∧ b ≠ 45 ∧ b ≠ 226 := by
 obtain ⟨d, hd, h⟩ := h
 rcases h with rfl | rfl | rfl
 ·rw [enc48 hd]
  rcases ten hd with rfl | rfl | rfl | rfl | rfl | rfl | rfl | rfl | rfl | rfl <;> exact ⟨_, _, rfl, by decide, by decide⟩
 ·rw [enc16 hd]; exact ⟨_, _, rfl, by decide, by decide⟩
 ·rw [enc65 hd]; exact ⟨_, _, rfl, by decide, by decide⟩
theorem sgn_word (neg : Bool) {l : List Nat} (h : ∀ r ∈ l, OkR r) (hne : l ≠ []) : sgn (mnB neg ++ mkS l) = (mkS l, neg) := by
 cases neg with
 | true =>
   have e : mnB true ++ mkS l = ⟨(45 :: encL l).toArray⟩ := app_mk [45] (encL l)
   rw [e]
   unfold sgn
   rw [pre_hy, if_pos (by rfl), size_mk]
   refine Prod.ext (ba_ext ?_) rfl
   rw [ByteArray.data_extract]
   simp [mkS]
 | false =>
   have e : mnB false ++ mkS l = mkS l := app_mk [] (encL l)
   rw [e]
   cases l with
   | nil => exact absurd rfl hne
   | cons r l =>
     obtain ⟨b, t, hb, h1, h2⟩ := enc_head (h r (List.mem_cons_self ..))
     have e2 : mkS (r :: l) = ⟨(b :: (t ++ encL l)).toArray⟩ := by
      unfold mkS encL
      rw [List.flatMap_cons, hb]
      rfl
     rw [e2]
     unfold sgn
     rw [pre_hy, if_neg (by simpa using h1), pre_mi _ h2, if_neg (by simp)]
theorem num_word (neg : Bool) {nt : Nat} (hn : nt = 48 ∨ nt = 1632 ∨ nt = 65296) {ds : List Nat} (h : ∀ d ∈ ds, d < 10) (hne : ds ≠ []) : numR (mnB neg ++ mkS (ds.map (nt + ·))) = numD neg (valD ds) := by
 have ho := okR_map hn h
 have hs := sgn_word neg ho (by simpa using hne)
 have hl : natL (rns (mkS (ds.map (nt + ·)))) 0 false 0 = (valD ds, true) := by
  rw [rns_mk ho]
  have := natL_all hn [] h hne
  rw [List.append_nil] at this
  exact this
 unfold numR
 rw [hs]
 simp only [hl]
 unfold numD
 cases neg <;> simp
theorem num_mixed (neg : Bool) {ds : List Nat} (h : ∀ d ∈ ds, d < 10) (hne : ds ≠ []) : (numR (mnB neg ++ mkS (ds.map (1632 + ·) ++ [48]))).2 = 9 := by
 have ho : ∀ r ∈ ds.map (1632 + ·) ++ [48], OkR r := by
  intro r hr
  rcases List.mem_append.1 hr with hr | hr
  ·exact okR_map (.inr (.inl rfl)) h r hr
  ·simp only [List.mem_cons, List.not_mem_nil, or_false] at hr
   exact ⟨0, by omega, .inl hr⟩
 have hs := sgn_word neg ho (by simp)
 have hl : natL (rns (mkS (ds.map (1632 + ·) ++ [48]))) 0 false 0 = (0, false) := by
  rw [rns_mk ho]
  have := natL_all (.inr (.inl rfl) : 1632 = 48 ∨ 1632 = 1632 ∨ 1632 = 65296) [48] h hne
  rw [this]
  rfl
 unfold numR
 rw [hs]
 simp only [hl]
 rfl
theorem numD_err (neg : Bool) (v : Nat) : (numD neg v).2 = 0 ∨ (numD neg v).2 = 11 := by
 unfold numD
 split
 ·exact .inl rfl
 ·split
  ·exact .inl rfl
  ·exact .inr rfl
theorem name_word (neg : Bool) {nt : Nat} (hn : nt = 48 ∨ nt = 1632 ∨ nt = 65296) {ds : List Nat} (h : ∀ d ∈ ds, d < 10) (hne : ds ≠ []) : nameB (mnB neg ++ mkS (ds.map (nt + ·))) = false := by
 unfold nameB
 rw [num_word neg hn h hne]
 have := numD_err neg (valD ds)
 have : ¬ (numD neg (valD ds)).2 = 9 := by omega
 simp [this]
theorem numD_fits {n : Int} {v : Nat} (h1 : -9223372036854775808 ≤ n) (h2 : n ≤ 9223372036854775807) (hv : (n.natAbs ≤ 1152921504606846976 → v = n.natAbs) ∧ (1152921504606846976 < n.natAbs → 1152921504606846976 < v)) :
  ((-1152921504606846976 ≤ n ∧ n ≤ 1152921504606846975) → numD (decide (n < 0)) v = (n, 0)) ∧ (¬ (-1152921504606846976 ≤ n ∧ n ≤ 1152921504606846975) → numD (decide (n < 0)) v = (0, 11)) := by
 unfold numD
 constructor
 ·intro hf
  have e := hv.1 (by omega)
  by_cases hn : n < 0
  ·rw [if_pos (by simp [hn]; omega)]
   refine Prod.ext ?_ rfl
   show -(v : Int) = n
   omega
  ·rw [if_neg (by simp [hn]), if_pos (by simp [hn]; omega)]
   refine Prod.ext ?_ rfl
   show (v : Int) = n
   omega
 ·intro hf
  by_cases hn : n < 0
  ·have e := hv.2 (by omega)
   rw [if_neg (by simp [hn]; omega), if_neg (by simp [hn])]
  ·by_cases hb : n.natAbs ≤ 1152921504606846976
   ·have e := hv.1 hb
    rw [if_neg (by simp [hn]), if_neg (by simp [hn]; omega)]
   ·have e := hv.2 (by omega)
    rw [if_neg (by simp [hn]), if_neg (by simp [hn]; omega)]
end Go.Proofs.YtbbeoobihdldcaaGreatDoor
namespace Go.Proofs.YtbbeoobihdldcaaGreatDoor
open Go.RowKit
set_option linter.unusedSimpArgs false
set_option linter.unusedVariables false
end Go.Proofs.YtbbeoobihdldcaaGreatDoor
namespace Go.Proofs.YtbbeoobihdldcaaGreatDoor
open Go.RowKit
set_option linter.unusedSimpArgs false
set_option linter.unusedVariables false
theorem val_go : ∀ (ds : List Nat) (a : Nat), ds.foldl (fun n d => n * 10 + d) a = a * 10 ^ ds.length + valX ds := by
 intro ds
 induction ds with
 | nil => intro a; simp [valX]
 | cons d ds ih =>
   intro a
   unfold valX
   rw [List.foldl_cons, List.foldl_cons, ih, ih, List.length_cons, Nat.pow_succ, Nat.add_mul, Nat.zero_mul, Nat.zero_add, Nat.add_assoc, Nat.mul_assoc, Nat.mul_comm 10]
theorem val_cons (d : Nat) (ds : List Nat) : valX (d :: ds) = d * 10 ^ ds.length + valX ds := by
 have := val_go ds (0 * 10 + d)
 rw [Nat.zero_mul, Nat.zero_add] at this
 rw [← this]
 unfold valX
 rw [List.foldl_cons, Nat.zero_mul, Nat.zero_add]
theorem mk_size (ds : List Nat) : (∀ d ∈ ds, d < 10) → (mkS (ds.map (48 + ·))).size = ds.length := by
 intro h
 unfold mkS
 rw [size_mk]
 induction ds with
 | nil => rfl
 | cons d ds ih =>
   unfold encL
   rw [List.map_cons, List.flatMap_cons, enc48 (h d (List.mem_cons_self ..)), List.length_append, List.length_cons]
   have := ih (fun x hx => h x (List.mem_cons_of_mem _ hx))
   unfold encL at this
   rw [this]
   simp
   omega
structure Dg (U u : Nat) (ds : List Nat) : Prop where
 lt : ∀ d ∈ ds, d < 10
 sum : u * 10 ^ ds.length + valX ds = U
 len : ds.length ≤ 20
 room : u < 10 ^ (20 - ds.length)
theorem Dg.none {U : Nat} (h : U < 100000000000000000000) : Dg U U [] := ⟨by simp, by simp [valX], by simp, by simpa using h⟩
theorem Dg.more {U u : Nat} {ds : List Nat} (h : Dg U u ds) (hu : 0 < u ∨ ds = []) : Dg U (u / 10) (u % 10 :: ds) := by
 have hl : ds.length < 20 := by
  rcases hu with hu | rfl
  ·rcases Nat.lt_or_ge ds.length 20 with g | g
   ·exact g
   ·have := h.room
    rw [show 20 - ds.length = 0 by omega] at this
    simp at this
    omega
  ·simp
 refine ⟨?_, ?_, by rw [List.length_cons]; omega, ?_⟩
 ·intro d hd
  rcases List.mem_cons.1 hd with rfl | hd
  ·exact Nat.mod_lt _ (by omega)
  ·exact h.lt d hd
 ·rw [val_cons, List.length_cons, Nat.pow_succ, ← Nat.add_assoc, ← h.sum, Nat.mul_comm (10 ^ ds.length) 10, ← Nat.mul_assoc, ← Nat.add_mul]
  congr 2
  omega
 ·rw [List.length_cons]
  have := h.room
  rw [show 20 - ds.length = (20 - (ds.length + 1)) + 1 by omega, Nat.pow_succ] at this
  exact Nat.div_lt_of_lt_mul (by rw [Nat.mul_comm]; exact this)
theorem Dg.size {U u : Nat} {ds : List Nat} (h : Dg U u ds) : (mkS (ds.map (48 + ·))).size ≤ 20 := by
 rw [mk_size ds h.lt]; exact h.len
theorem Dg.le {U u : Nat} {ds : List Nat} (h : Dg U u ds) : u ≤ U := by
 have h1 := h.sum
 have h2 : u * 1 ≤ u * 10 ^ ds.length := Nat.mul_le_mul_left _ (Nat.pos_of_ne_zero (by simp))
 omega
def uOf : Value → Nat
 | .int _ m => m.toNat
 | _ => 0
end Go.Proofs.YtbbeoobihdldcaaGreatDoor
namespace Go.Proofs.YtbbeoobihdldcaaGreatDoor
open Go.RowKit
set_option linter.unusedSimpArgs false
set_option linter.unusedVariables false
structure Ds (N : Nat) (k : Nat) (ds : List Nat) : Prop where
 lt : ∀ d ∈ ds, d < 10
 val : valX ds = N
 ne : ds ≠ []
 len : ds.length ≤ 20 + k
theorem Ds.nought {N k : Nat} {ds : List Nat} (h : Ds N k ds) : Ds N (k + 1) (0 :: ds) :=
 ⟨fun d hd => by
  rcases List.mem_cons.1 hd with rfl | hd
  ·omega
  ·exact h.lt d hd, by rw [val_cons, Nat.zero_mul, Nat.zero_add, h.val], by simp, by rw [List.length_cons]; have := h.len; omega⟩
theorem Dg.ds {N : Nat} {ds : List Nat} (h : Dg N 0 ds) (hne : ds ≠ []) : Ds N 0 ds := ⟨h.lt, by have := h.sum; rw [Nat.zero_mul, Nat.zero_add] at this; exact this, hne, h.len⟩
structure Asks (n : Int) (ds : List Nat) (R : Int × Int) : Prop where
 r1 : numR (mnB (decide (n < 0)) ++ mkS (ds.map (48 + ·))) = R
 r2 : numR (mnB (decide (n < 0)) ++ mkS (ds.map (1632 + ·))) = R
 r3 : numR (mnB (decide (n < 0)) ++ mkS (ds.map (65296 + ·))) = R
 r4 : (numR (mnB (decide (n < 0)) ++ mkS (ds.map (1632 + ·) ++ [48]))).2 = 9
 n1 : nameB (mnB (decide (n < 0)) ++ mkS (ds.map (48 + ·))) = false
 n3 : nameB (mnB (decide (n < 0)) ++ mkS (ds.map (65296 + ·))) = false
theorem Ds.asks {n : Int} {k : Nat} {ds : List Nat} (h : Ds n.natAbs k ds) (h1 : -9223372036854775808 ≤ n) (h2 : n ≤ 9223372036854775807) :
  ((-1152921504606846976 ≤ n ∧ n ≤ 1152921504606846975) → Asks n ds (n, 0)) ∧ (¬ (-1152921504606846976 ≤ n ∧ n ≤ 1152921504606846975) → Asks n ds (0, 11)) := by
 have hv := val_fits h.lt
 rw [h.val] at hv
 have hf := numD_fits h1 h2 hv
 refine ⟨fun g => ?_, fun g => ?_⟩
 ·have e := hf.1 g
  exact ⟨by rw [num_word _ (.inl rfl) h.lt h.ne, e], by rw [num_word _ (.inr (.inl rfl)) h.lt h.ne, e], by rw [num_word _ (.inr (.inr rfl)) h.lt h.ne, e], num_mixed _ h.lt h.ne, name_word _ (.inl rfl) h.lt h.ne, name_word _ (.inr (.inr rfl)) h.lt h.ne⟩
 ·have e := hf.2 g
  exact ⟨by rw [num_word _ (.inl rfl) h.lt h.ne, e], by rw [num_word _ (.inr (.inl rfl)) h.lt h.ne, e], by rw [num_word _ (.inr (.inr rfl)) h.lt h.ne, e], num_mixed _ h.lt h.ne, name_word _ (.inl rfl) h.lt h.ne, name_word _ (.inr (.inr rfl)) h.lt h.ne⟩
end Go.Proofs.YtbbeoobihdldcaaGreatDoor
namespace Go.Proofs.YtbbeoobihdldcaaGreatDoor
open Go.RowKit
set_option linter.unusedSimpArgs false
set_option linter.unusedVariables false
end Go.Proofs.YtbbeoobihdldcaaGreatDoor
namespace Go.Proofs.YtbbeoobihdldcaaGreatDoor
open Go.RowKit
set_option linter.unusedSimpArgs false
set_option linter.unusedVariables false
end Go.Proofs.YtbbeoobihdldcaaGreatDoor
namespace Go.Proofs.YtbbeoobihdldcaaGreatDoor
open Go.RowKit
set_option linter.unusedSimpArgs false
set_option linter.unusedVariables false
end Go.Proofs.YtbbeoobihdldcaaGreatDoor
namespace Go.Proofs.YtbbeoobihdldcaaGreatDoor
open Go.RowKit
set_option linter.unusedSimpArgs false
set_option linter.unusedVariables false
end Go.Proofs.YtbbeoobihdldcaaGreatDoor
namespace Go.Proofs.YtbbeoobihdldcaaGreatDoor
open Go.RowKit
set_option linter.unusedSimpArgs false
set_option linter.unusedVariables false
end Go.Proofs.YtbbeoobihdldcaaGreatDoor
namespace Go.Proofs.YtbbeoobihdldcaaGreatDoor
open Go.RowKit
set_option linter.unusedSimpArgs false
set_option linter.unusedVariables false
end Go.Proofs.YtbbeoobihdldcaaGreatDoor
namespace Go.Proofs.YtbbeoobihdldcaaGreatDoor
open Go.RowKit
set_option linter.unusedSimpArgs false
set_option linter.unusedVariables false
end Go.Proofs.YtbbeoobihdldcaaGreatDoor
