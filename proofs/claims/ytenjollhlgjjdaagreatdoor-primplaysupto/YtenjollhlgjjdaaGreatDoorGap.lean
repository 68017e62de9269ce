import Derived.Test.YtenjollhlgjjdaaGreatDoorGaa
import Derived.Test.YtenjollhlgjjdaaGreatDoorGao
import Derived.Test.YtenjollhlgjjdaaGreatDoorGam
import Derived.Deep.RegionHeld3
import Derived.Test.YtenjollhlgjjdaaGreatDoorGan
import Derived.Test.YtenjollhlgjjdaaGreatDoorGaj
import Derived.Test.YtenjollhlgjjdaaGreatDoorGac
import Derived.Lib.ItoaMem
import Derived.Laws.IdiomStrings
import Derived.Laws.Cover4
/-        -/
set_option linter.unusedSimpArgs false
set_option linter.unusedVariables false
set_option maxRecDepth 100000
set_option maxHeartbeats 40000000
namespace Go.Proofs.YtenjollhlgjjdaaGreatDoor
open Go.RowKit Go.Lib
def RkC (name : ByteArray) (rk : Int → Int → Int × Int) : Prop := ∀ (n m : Int) (w : World), cfit n = true → cfit m = true → Cz 50 #[.string name, .int .i64 n, .int .i64 m] w fun e w' => e = .returned (.tuple #[.int .i64 (rk n m).1, .int .i64 (rk n m).2]) ∧ w' = w
def arK (op n m : Int) : Int × Int := (arN op n m, arE op n m)
def ngK (n _ : Int) : Int × Int := (arN 45 0 n, arE 45 0 n)
def abK (n _ : Int) : Int × Int := if n < 0 then (arN 45 0 n, arE 45 0 n) else (n, 0)
def miK (n m : Int) : Int × Int := (min n m, 0)
def maK (n m : Int) : Int × Int := (max n m, 0)
theorem rk_add : RkC ⟨#[43]⟩ (arK 43) := by
 intro n m w hn hm
 have HR : Hid _ := arith_any 43 n m w (by omega)
 obtain ⟨x, hx⟩ : ∃ x, x = arN 43 n m := ⟨_, rfl⟩
 obtain ⟨y, hy⟩ : ∃ y, y = arE 43 n m := ⟨_, rfl⟩
 unfold arK
 dsimp only
 rw [← hx, ← hy] at HR ⊢
 clear hx hy hn hm
 go_enter Tryz.func50, Tryz.ntmps50
 go_wp2_with fail
 refine (show Cz 80 _ _ _ from HR.out).mono ?_
 rintro e w1 ⟨rfl, hw⟩
 obtain rfl := hw.symm
 go_wp2
 go_ret2
 exact ⟨rfl, rfl⟩
theorem rk_sub : RkC ⟨#[45]⟩ (arK 45) := by
 intro n m w hn hm
 have HR : Hid _ := arith_any 45 n m w (by omega)
 obtain ⟨x, hx⟩ : ∃ x, x = arN 45 n m := ⟨_, rfl⟩
 obtain ⟨y, hy⟩ : ∃ y, y = arE 45 n m := ⟨_, rfl⟩
 unfold arK
 dsimp only
 rw [← hx, ← hy] at HR ⊢
 clear hx hy hn hm
 go_enter Tryz.func50, Tryz.ntmps50
 go_wp2_with fail
 refine (show Cz 80 _ _ _ from HR.out).mono ?_
 rintro e w1 ⟨rfl, hw⟩
 obtain rfl := hw.symm
 go_wp2
 go_ret2
 exact ⟨rfl, rfl⟩
theorem rk_mul : RkC ⟨#[42]⟩ (arK 42) := by
 intro n m w hn hm
 have HR : Hid _ := arith_any 42 n m w (by omega)
 obtain ⟨x, hx⟩ : ∃ x, x = arN 42 n m := ⟨_, rfl⟩
 obtain ⟨y, hy⟩ : ∃ y, y = arE 42 n m := ⟨_, rfl⟩
 unfold arK
 dsimp only
 rw [← hx, ← hy] at HR ⊢
 clear hx hy hn hm
 go_enter Tryz.func50, Tryz.ntmps50
 go_wp2_with fail
 refine (show Cz 80 _ _ _ from HR.out).mono ?_
 rintro e w1 ⟨rfl, hw⟩
 obtain rfl := hw.symm
 go_wp2
 go_ret2
 exact ⟨rfl, rfl⟩
theorem rk_div : RkC ⟨#[47]⟩ (arK 47) := by
 intro n m w hn hm
 have HR : Hid _ := arith_any 47 n m w (by omega)
 obtain ⟨x, hx⟩ : ∃ x, x = arN 47 n m := ⟨_, rfl⟩
 obtain ⟨y, hy⟩ : ∃ y, y = arE 47 n m := ⟨_, rfl⟩
 unfold arK
 dsimp only
 rw [← hx, ← hy] at HR ⊢
 clear hx hy hn hm
 go_enter Tryz.func50, Tryz.ntmps50
 go_wp2_with fail
 refine (show Cz 80 _ _ _ from HR.out).mono ?_
 rintro e w1 ⟨rfl, hw⟩
 obtain rfl := hw.symm
 go_wp2
 go_ret2
 exact ⟨rfl, rfl⟩
theorem rk_mod : RkC ⟨#[109, 111, 100]⟩ (arK 37) := by
 intro n m w hn hm
 have HR : Hid _ := arith_any 37 n m w (by omega)
 obtain ⟨x, hx⟩ : ∃ x, x = arN 37 n m := ⟨_, rfl⟩
 obtain ⟨y, hy⟩ : ∃ y, y = arE 37 n m := ⟨_, rfl⟩
 unfold arK
 dsimp only
 rw [← hx, ← hy] at HR ⊢
 clear hx hy hn hm
 go_enter Tryz.func50, Tryz.ntmps50
 go_wp2_with fail
 refine (show Cz 80 _ _ _ from HR.out).mono ?_
 rintro e w1 ⟨rfl, hw⟩
 obtain rfl := hw.symm
 go_wp2
 go_ret2
 exact ⟨rfl, rfl⟩
theorem rk_neg : RkC ⟨#[110, 101, 103]⟩ ngK := by
 intro n m w hn hm
 have HR : Hid _ := arith_any 45 0 n w (by omega)
 obtain ⟨x, hx⟩ : ∃ x, x = arN 45 0 n := ⟨_, rfl⟩
 obtain ⟨y, hy⟩ : ∃ y, y = arE 45 0 n := ⟨_, rfl⟩
 unfold ngK
 dsimp only
 rw [← hx, ← hy] at HR ⊢
 clear hx hy hn hm
 go_enter Tryz.func50, Tryz.ntmps50
 go_wp2_with fail
 refine (show Cz 80 _ _ _ from HR.out).mono ?_
 rintro e w1 ⟨rfl, hw⟩
 obtain rfl := hw.symm
 go_wp2
 go_ret2
 exact ⟨rfl, rfl⟩
theorem rk_abs : RkC ⟨#[97, 98, 115]⟩ abK := by
 intro n m w hn hm
 have HR : Hid _ := arith_any 45 0 n w (by omega)
 obtain ⟨x, hx⟩ : ∃ x, x = arN 45 0 n := ⟨_, rfl⟩
 obtain ⟨y, hy⟩ : ∃ y, y = arE 45 0 n := ⟨_, rfl⟩
 unfold abK
 rw [← hx, ← hy] at HR ⊢
 clear hx hy hn hm
 by_cases h : n < 0
 ·rw [if_pos h]
  dsimp only
  go_enter Tryz.func50, Tryz.ntmps50
  go_wp2_with fail
  refine (show Cz 80 _ _ _ from HR.out).mono ?_
  rintro e w1 ⟨rfl, hw⟩
  obtain rfl := hw.symm
  go_wp2
  go_ret2
  exact ⟨rfl, rfl⟩
 ·rw [if_neg h]
  dsimp only
  go_enter Tryz.func50, Tryz.ntmps50
  go_wp2
  go_ret2
  exact ⟨rfl, rfl⟩
theorem rk_min : RkC ⟨#[109, 105, 110]⟩ miK := by
 intro n m w hn hm
 unfold miK
 dsimp only
 clear hn hm
 go_enter Tryz.func50, Tryz.ntmps50
 go_wp2
 go_ret2
 refine ⟨?_, rfl⟩
 first | rfl | (congr 3; simp only [Int.min_def, Int.max_def]; split <;> split <;> omega)
theorem rk_max : RkC ⟨#[109, 97, 120]⟩ maK := by
 intro n m w hn hm
 unfold maK
 dsimp only
 clear hn hm
 go_enter Tryz.func50, Tryz.ntmps50
 go_wp2
 go_ret2
 refine ⟨?_, rfl⟩
 first | rfl | (congr 3; simp only [Int.min_def, Int.max_def]; split <;> split <;> omega)
def nmR (rk : Int → Int → Int × Int) (n m : Int) : Except Int Vt := if (rk n m).2 = 0 then .ok (inT (rk n m).1) else .error (rk n m).2
theorem sd_fit {d : Nat} {t : Vt} (h : sdB d t = true) (hk : t.k = 1) : cfit t.n = true := by
 cases d with
 | zero => unfold sdB msB at h; simp [okV] at h
 | succ d =>
   unfold sdB msB at h
   simp only [Bool.and_eq_true] at h
   have h1 := h.1.1
   simp only [okV] at h1
   rw [if_neg (by omega)] at h1
   unfold alB at h1
   rw [if_pos hk] at h1
   unfold cfit
   simpa using h1
theorem ar_b (op n m : Int) : -9223372036854775808 ≤ (arK op n m).1 ∧ (arK op n m).1 ≤ 9223372036854775807 := by
 show -9223372036854775808 ≤ arN op n m ∧ arN op n m ≤ 9223372036854775807
 unfold arN
 split
 ·rename_i h
  unfold arE at h
  split at h
  ·split at h
   ·omega
   ·split at h
    ·rename_i h3
     have := cfit_true h3
     omega
    ·omega
  ·omega
 ·omega
theorem ng_b (n m : Int) : -9223372036854775808 ≤ (ngK n m).1 ∧ (ngK n m).1 ≤ 9223372036854775807 := ar_b 45 0 n
theorem ab_b (n m : Int) (h : cfit n = true) : -9223372036854775808 ≤ (abK n m).1 ∧ (abK n m).1 ≤ 9223372036854775807 := by
 unfold abK
 split
 ·exact ar_b 45 0 n
 ·have := cfit_true h
  show -9223372036854775808 ≤ n ∧ n ≤ 9223372036854775807
  omega
theorem mi_b (n m : Int) (h : cfit n = true) (g : cfit m = true) : -9223372036854775808 ≤ (miK n m).1 ∧ (miK n m).1 ≤ 9223372036854775807 := by
 have := cfit_true h
 have := cfit_true g
 show -9223372036854775808 ≤ min n m ∧ min n m ≤ 9223372036854775807
 omega
theorem ma_b (n m : Int) (h : cfit n = true) (g : cfit m = true) : -9223372036854775808 ≤ (maK n m).1 ∧ (maK n m).1 ≤ 9223372036854775807 := by
 have := cfit_true h
 have := cfit_true g
 show -9223372036854775808 ≤ max n m ∧ max n m ≤ 9223372036854775807
 omega
def DcP (r : Except Int (List Vt)) (D : Nat) (w : World) (e : Ending) (w' : World) : Prop :=
 match r with
 | .error n => e = .returned (.tuple #[.slice none 0 0, .int .i64 n]) ∧ (n == 0) = false ∧ Oz w w'
 | .ok ls => ∃ a c, e = .returned (.tuple #[.slice a ls.length c, .int .i64 0]) ∧ Hid ((∃ S, VsAt w' S D ls (.slice a ls.length c)) ∧ Oz w w')
def R1P (t : Vt) (w : World) (e : Ending) (w' : World) : Prop := ∃ a c, e = .returned (.slice a 1 c) ∧ Hid ((∃ S, VsAt w' S 2 [t] (.slice a 1 c)) ∧ Oz w w')
theorem row_1 {W : World} {Q : Nat} {k n : Int} {s : ByteArray} (hc : W.cell? ⟨Q, 0, none⟩ = some (.int .i64 k) ∧ W.cell? ⟨Q, 1, none⟩ = some (.int .i64 n) ∧ W.cell? ⟨Q, 2, none⟩ = some (.string s) ∧ W.cell? ⟨Q, 3, none⟩ = some (.slice none 0 0)) : VsAt W (fun b => b = Q) 2 [⟨k, n, s, []⟩] (.slice (some ⟨Q, 0, none⟩) 1 1) :=
 ⟨_, _, rfl, by simp, fun j y hy => by
     have hj : j = 0 := by have := (List.getElem?_eq_some_iff.1 hy).1; simp at this; exact this
     subst hj
     simp at hy
     subst hy
     exact ⟨Q, 0, _, rfl, rfl, hc, ⟨none, 0, rfl, Nat.zero_le _, fun i x hx => by simp at hx⟩⟩⟩
theorem row_new (w : World) (k n : Int) (s : ByteArray) : (w.alloc (.cells #[.int .i64 k, .int .i64 n, .string s, .slice none 0 0] 38)).cell? ⟨w.heap.size, 0, none⟩ = some (.int .i64 k) ∧ (w.alloc (.cells #[.int .i64 k, .int .i64 n, .string s, .slice none 0 0] 38)).cell? ⟨w.heap.size, 1, none⟩ = some (.int .i64 n) ∧ (w.alloc (.cells #[.int .i64 k, .int .i64 n, .string s, .slice none 0 0] 38)).cell? ⟨w.heap.size, 2, none⟩ = some (.string s) ∧ (w.alloc (.cells #[.int .i64 k, .int .i64 n, .string s, .slice none 0 0] 38)).cell? ⟨w.heap.size, 3, none⟩ = some (.slice none 0 0) := by
 have hb : (w.alloc (.cells #[.int .i64 k, .int .i64 n, .string s, .slice none 0 0] 38)).heap[w.heap.size]? = some (.cells #[.int .i64 k, .int .i64 n, .string s, .slice none 0 0] 38) := valloc_at _ _ _ rfl
 exact ⟨blk_cells hb 0, blk_cells hb 1, blk_cells hb 2, blk_cells hb 3⟩
theorem num_any (n : Int) (w : World) : Cz 65 #[.int .i64 n] w fun e w' => R1P (inT n) w e w' := by
 have HP : Hid (R1P (inT n) w (.returned (.slice (some ⟨w.heap.size, 0, none⟩) 1 1)) (w.alloc (.cells #[.int .i64 1, .int .i64 n, .string ⟨#[]⟩, .slice none 0 0] 38))) := ⟨_, _, rfl, ⟨⟨_, row_1 (row_new w 1 n ⟨#[]⟩)⟩, (Only.refl _ _).alloc _⟩⟩
 go_enter Tryz.func65, Tryz.ntmps65
 go_wp2
 go_ret
 exact HP.out
theorem str_any (s : ByteArray) (w : World) : Cz 67 #[.string s] w fun e w' => R1P (stT s) w e w' := by
 have HP : Hid (R1P (stT s) w (.returned (.slice (some ⟨w.heap.size, 0, none⟩) 1 1)) (w.alloc (.cells #[.int .i64 2, .int .i64 0, .string s, .slice none 0 0] 38))) := ⟨_, _, rfl, ⟨⟨_, row_1 (row_new w 2 0 s)⟩, (Only.refl _ _).alloc _⟩⟩
 go_enter Tryz.func67, Tryz.ntmps67
 go_wp2
 go_ret
 exact HP.out
theorem flag_any (b : Bool) (w : World) : Cz 41 #[.bool b] w fun e w' => R1P (boT b) w e w' := by
 cases b with
 | true =>
   have HP : Hid (R1P (boT true) w (.returned (.slice (some ⟨w.heap.size, 0, none⟩) 1 1)) (w.alloc (.cells #[.int .i64 3, .int .i64 1, .string ⟨#[]⟩, .slice none 0 0] 38))) := ⟨_, _, rfl, ⟨⟨_, row_1 (row_new w 3 1 ⟨#[]⟩)⟩, (Only.refl _ _).alloc _⟩⟩
   go_enter Tryz.func41, Tryz.ntmps41
   go_wp2
   go_ret
   exact HP.out
 | false =>
   have HP : Hid (R1P (boT false) w (.returned (.slice (some ⟨w.heap.size, 0, none⟩) 1 1)) (w.alloc (.cells #[.int .i64 3, .int .i64 0, .string ⟨#[]⟩, .slice none 0 0] 38))) := ⟨_, _, rfl, ⟨⟨_, row_1 (row_new w 3 0 ⟨#[]⟩)⟩, (Only.refl _ _).alloc _⟩⟩
   go_enter Tryz.func41, Tryz.ntmps41
   go_wp2
   go_ret
   exact HP.out
theorem rmv_no {s : ByteArray} (h0 : (s.toList == [100, 117, 112]) = false) (h1 : (s.toList == [100, 114, 111, 112]) = false) (h2 : (s.toList == [115, 119, 97, 112]) = false) (h3 : (s.toList == [111, 118, 101, 114]) = false) (h4 : (s.toList == [114, 111, 116]) = false) (h5 : (s.toList == [110, 105, 112]) = false) (h6 : (s.toList == [116, 117, 99, 107]) = false) (v : Value) (hv : ∃ a n c, v = .slice a n c) (w : World) : Cz 39 #[.string s, v] w fun e w' => e = .returned (.tuple #[.slice none 0 0, .bool false]) ∧ w' = w := by
 obtain ⟨a, n, c, rfl⟩ := hv
 go_enter Tryz.func39, Tryz.ntmps39
 go_wp2
 go_ret2
 exact ⟨rfl, rfl⟩
theorem dc_er {n : Int} {D : Nat} {w w' : World} (h : ¬ n = 0) (o : Oz w w') : DcP (.error n) D w (.returned (.tuple #[.slice none 0 0, .int .i64 n])) w' := ⟨rfl, by simpa using h, o⟩
theorem dc_1 {t : Vt} {w w1 w' : World} {a : Option Addr} {c : Nat} (h : Hid ((∃ S, VsAt w' S 2 [t] (.slice a 1 c)) ∧ Oz w1 w')) (o : Oz w w1) : DcP (oneR (.ok t)) 2 w (.returned (.tuple #[.slice a 1 c, .int .i64 0])) w' := ⟨a, c, rfl, ⟨h.out.1, o.trans h.out.2 (fun _ _ g => g)⟩⟩
theorem ab_0 {n : Int} (h : cfit n = true) : arN 43 n 0 = n ∧ arE 43 n 0 = 0 := by
 have e : arE 43 n 0 = 0 := by
  unfold arE copN
  rw [show cisOp 43 = true from rfl, h, show cfit 0 = true from rfl]
  simp [h]
 refine ⟨?_, e⟩
 unfold arN
 rw [if_pos e]
 unfold copN
 simp
def RaC (z0 : ByteArray) (z1 : Int) : Prop := ∀ (g o c : Nat) (n m : Int) (w : World) (h0 : w.cell? ⟨g, o + 1, none⟩ = some (.int .i64 n)) (h1 : w.cell? ⟨g, o + 4 + 1, none⟩ = some (.int .i64 m)), Cz 73 #[.string z0, .slice (some ⟨g, o, none⟩) 2 c] w fun e w' => DcP (oneR (nmR (arK z1) n m)) 2 w e w'
theorem raC_gen : ∀ x ∈ ([([43], 43), ([45], 45), ([42], 42), ([47], 47), ([109, 111, 100], 37)] : List (List UInt8 × Int)), RaC ⟨x.1.toArray⟩ x.2 := by
 intro x hx g o c n m w h0 h1
 obtain ⟨l, k⟩ := x
 simp only [List.mem_cons, Prod.mk.injEq, List.not_mem_nil, or_false] at hx
 have hk : 0 ≤ k ∧ k < 256 := by rcases hx with ⟨_, rfl⟩|⟨_, rfl⟩|⟨_, rfl⟩|⟨_, rfl⟩|⟨_, rfl⟩ <;> decide
 show Cz 73 #[.string ⟨l.toArray⟩, _] w fun e w' => DcP (oneR (nmR (arK k) n m)) 2 w e w'
 have HR : Hid _ := rarith_any k n m w (by omega)
 have HN : Hid (∀ n w, Cz 65 #[.int .i64 n] w fun e w' => R1P (inT n) w e w') := num_any
 obtain ⟨r1, hr1⟩ : ∃ r, r = arN k n m := ⟨_, rfl⟩
 obtain ⟨r2, hr2⟩ : ∃ r, r = arE k n m := ⟨_, rfl⟩
 have hK : nmR (arK k) n m = if r2 = 0 then .ok (inT r1) else .error r2 := by rw [hr1, hr2]; rfl
 rw [hK]
 rw [← hr1, ← hr2] at HR
 have O0 : Hid (Oz w w) := Only.refl _ _
 clear hr1 hr2 hK hk
 rcases hx with ⟨rfl, rfl⟩|⟨rfl, rfl⟩|⟨rfl, rfl⟩|⟨rfl, rfl⟩|⟨rfl, rfl⟩
 all_goals
  by_cases hz : r2 = 0
  ·rw [if_pos hz]
   subst hz
   go_enter Tryz.func73, Tryz.ntmps73
   go_wp2_with fail
   refine (show Cz 102 _ _ _ from HR.out).mono ?_
   rintro e w1 ⟨rfl, hw⟩
   obtain rfl := hw.symm
   clear HR
   go_wp2_with fail
   refine (show Cz 65 _ _ _ from HN.out _ _).mono ?_
   rintro e w2 ⟨a2, c2, rfl, G2⟩
   clear HN
   go_wp2
   go_ret2
   exact dc_1 G2 O0.out
  ·rw [if_neg hz]
   go_enter Tryz.func73, Tryz.ntmps73
   go_wp2_with fail
   refine (show Cz 102 _ _ _ from HR.out).mono ?_
   rintro e w1 ⟨rfl, hw⟩
   obtain rfl := hw.symm
   clear HR
   go_wp2
   go_ret2
   exact dc_er hz O0.out
theorem rar_add (g o c : Nat) (n m : Int) (w : World) (h0 : w.cell? ⟨g, o + 1, none⟩ = some (.int .i64 n)) (h1 : w.cell? ⟨g, o + 4 + 1, none⟩ = some (.int .i64 m)) : Cz 73 #[.string ⟨#[43]⟩, .slice (some ⟨g, o, none⟩) 2 c] w fun e w' => DcP (oneR (nmR (arK 43) n m)) 2 w e w' := raC_gen (_, _) (by decide) g o c n m w h0 h1
theorem rar_sub (g o c : Nat) (n m : Int) (w : World) (h0 : w.cell? ⟨g, o + 1, none⟩ = some (.int .i64 n)) (h1 : w.cell? ⟨g, o + 4 + 1, none⟩ = some (.int .i64 m)) : Cz 73 #[.string ⟨#[45]⟩, .slice (some ⟨g, o, none⟩) 2 c] w fun e w' => DcP (oneR (nmR (arK 45) n m)) 2 w e w' := raC_gen (_, _) (by decide) g o c n m w h0 h1
theorem rar_mul (g o c : Nat) (n m : Int) (w : World) (h0 : w.cell? ⟨g, o + 1, none⟩ = some (.int .i64 n)) (h1 : w.cell? ⟨g, o + 4 + 1, none⟩ = some (.int .i64 m)) : Cz 73 #[.string ⟨#[42]⟩, .slice (some ⟨g, o, none⟩) 2 c] w fun e w' => DcP (oneR (nmR (arK 42) n m)) 2 w e w' := raC_gen (_, _) (by decide) g o c n m w h0 h1
theorem rar_div (g o c : Nat) (n m : Int) (w : World) (h0 : w.cell? ⟨g, o + 1, none⟩ = some (.int .i64 n)) (h1 : w.cell? ⟨g, o + 4 + 1, none⟩ = some (.int .i64 m)) : Cz 73 #[.string ⟨#[47]⟩, .slice (some ⟨g, o, none⟩) 2 c] w fun e w' => DcP (oneR (nmR (arK 47) n m)) 2 w e w' := raC_gen (_, _) (by decide) g o c n m w h0 h1
theorem rar_mod (g o c : Nat) (n m : Int) (w : World) (h0 : w.cell? ⟨g, o + 1, none⟩ = some (.int .i64 n)) (h1 : w.cell? ⟨g, o + 4 + 1, none⟩ = some (.int .i64 m)) : Cz 73 #[.string ⟨#[109, 111, 100]⟩, .slice (some ⟨g, o, none⟩) 2 c] w fun e w' => DcP (oneR (nmR (arK 37) n m)) 2 w e w' := raC_gen (_, _) (by decide) g o c n m w h0 h1
theorem rar_neg (g o c : Nat) (n : Int) (w : World) (h0 : w.cell? ⟨g, o + 1, none⟩ = some (.int .i64 n)) : Cz 73 #[.string ⟨#[110, 101, 103]⟩, .slice (some ⟨g, o, none⟩) 1 c] w fun e w' => DcP (oneR (nmR ngK n n)) 2 w e w' := by
 have HR : Hid _ := rarith_any 45 0 n w (by omega)
 have HN : Hid (∀ n w, Cz 65 #[.int .i64 n] w fun e w' => R1P (inT n) w e w') := num_any
 obtain ⟨r1, hr1⟩ : ∃ r, r = arN 45 0 n := ⟨_, rfl⟩
 obtain ⟨r2, hr2⟩ : ∃ r, r = arE 45 0 n := ⟨_, rfl⟩
 have hK : nmR ngK n n = if r2 = 0 then .ok (inT r1) else .error r2 := by rw [hr1, hr2]; rfl
 rw [hK]
 rw [← hr1, ← hr2] at HR
 have O0 : Hid (Oz w w) := Only.refl _ _
 clear hr1 hr2 hK
 by_cases hz : r2 = 0
 ·rw [if_pos hz]
  subst hz
  go_enter Tryz.func73, Tryz.ntmps73
  go_wp2_with fail
  refine (show Cz 102 _ _ _ from HR.out).mono ?_
  rintro e w1 ⟨rfl, hw⟩
  obtain rfl := hw.symm
  clear HR
  go_wp2_with fail
  refine (show Cz 65 _ _ _ from HN.out _ _).mono ?_
  rintro e w2 ⟨a2, c2, rfl, G2⟩
  clear HN
  go_wp2
  go_ret2
  exact dc_1 G2 O0.out
 ·rw [if_neg hz]
  go_enter Tryz.func73, Tryz.ntmps73
  go_wp2_with fail
  refine (show Cz 102 _ _ _ from HR.out).mono ?_
  rintro e w1 ⟨rfl, hw⟩
  obtain rfl := hw.symm
  clear HR
  go_wp2
  go_ret2
  exact dc_er hz O0.out
theorem rar_absm (g o c : Nat) (n : Int) (w : World) (h0 : w.cell? ⟨g, o + 1, none⟩ = some (.int .i64 n)) (hneg : n < 0) : Cz 73 #[.string ⟨#[97, 98, 115]⟩, .slice (some ⟨g, o, none⟩) 1 c] w fun e w' => DcP (oneR (nmR abK n n)) 2 w e w' := by
 have HR : Hid _ := rarith_any 45 0 n w (by omega)
 have HN : Hid (∀ n w, Cz 65 #[.int .i64 n] w fun e w' => R1P (inT n) w e w') := num_any
 obtain ⟨r1, hr1⟩ : ∃ r, r = arN 45 0 n := ⟨_, rfl⟩
 obtain ⟨r2, hr2⟩ : ∃ r, r = arE 45 0 n := ⟨_, rfl⟩
 have hK : nmR abK n n = if r2 = 0 then .ok (inT r1) else .error r2 := by rw [hr1, hr2]; unfold nmR abK; rw [if_pos hneg]
 rw [hK]
 rw [← hr1, ← hr2] at HR
 have O0 : Hid (Oz w w) := Only.refl _ _
 clear hr1 hr2 hK
 by_cases hz : r2 = 0
 ·rw [if_pos hz]
  subst hz
  go_enter Tryz.func73, Tryz.ntmps73
  go_wp2_with fail
  refine (show Cz 102 _ _ _ from HR.out).mono ?_
  rintro e w1 ⟨rfl, hw⟩
  obtain rfl := hw.symm
  clear HR
  go_wp2_with fail
  refine (show Cz 65 _ _ _ from HN.out _ _).mono ?_
  rintro e w2 ⟨a2, c2, rfl, G2⟩
  clear HN
  go_wp2
  go_ret2
  exact dc_1 G2 O0.out
 ·rw [if_neg hz]
  go_enter Tryz.func73, Tryz.ntmps73
  go_wp2_with fail
  refine (show Cz 102 _ _ _ from HR.out).mono ?_
  rintro e w1 ⟨rfl, hw⟩
  obtain rfl := hw.symm
  clear HR
  go_wp2
  go_ret2
  exact dc_er hz O0.out
theorem rar_absp (g o c : Nat) (n : Int) (w : World) (h0 : w.cell? ⟨g, o + 1, none⟩ = some (.int .i64 n)) (hf : cfit n = true) (hpos : ¬ n < 0) : Cz 73 #[.string ⟨#[97, 98, 115]⟩, .slice (some ⟨g, o, none⟩) 1 c] w fun e w' => DcP (oneR (nmR abK n n)) 2 w e w' := by
 have HR : Hid _ := rarith_any 43 n 0 w (by omega)
 have HN : Hid (∀ n w, Cz 65 #[.int .i64 n] w fun e w' => R1P (inT n) w e w') := num_any
 obtain ⟨r1, hr1⟩ : ∃ r, r = arN 43 n 0 := ⟨_, rfl⟩
 obtain ⟨r2, hr2⟩ : ∃ r, r = arE 43 n 0 := ⟨_, rfl⟩
 have hK : nmR abK n n = if r2 = 0 then .ok (inT r1) else .error r2 := by rw [hr1, hr2, (ab_0 hf).1, (ab_0 hf).2]; unfold nmR abK; rw [if_neg hpos]
 rw [hK]
 rw [← hr1, ← hr2] at HR
 have O0 : Hid (Oz w w) := Only.refl _ _
 clear hr1 hr2 hK
 by_cases hz : r2 = 0
 ·rw [if_pos hz]
  subst hz
  go_enter Tryz.func73, Tryz.ntmps73
  go_wp2_with fail
  refine (show Cz 102 _ _ _ from HR.out).mono ?_
  rintro e w1 ⟨rfl, hw⟩
  obtain rfl := hw.symm
  clear HR
  go_wp2_with fail
  refine (show Cz 65 _ _ _ from HN.out _ _).mono ?_
  rintro e w2 ⟨a2, c2, rfl, G2⟩
  clear HN
  go_wp2
  go_ret2
  exact dc_1 G2 O0.out
 ·rw [if_neg hz]
  go_enter Tryz.func73, Tryz.ntmps73
  go_wp2_with fail
  refine (show Cz 102 _ _ _ from HR.out).mono ?_
  rintro e w1 ⟨rfl, hw⟩
  obtain rfl := hw.symm
  clear HR
  go_wp2
  go_ret2
  exact dc_er hz O0.out
theorem rar_min (g o c : Nat) (n m : Int) (w : World) (h0 : w.cell? ⟨g, o + 1, none⟩ = some (.int .i64 n)) (h1 : w.cell? ⟨g, o + 4 + 1, none⟩ = some (.int .i64 m)) : Cz 73 #[.string ⟨#[109, 105, 110]⟩, .slice (some ⟨g, o, none⟩) 2 c] w fun e w' => DcP (oneR (nmR miK n m)) 2 w e w' := by
 have HN : Hid (∀ n w, Cz 65 #[.int .i64 n] w fun e w' => R1P (inT n) w e w') := num_any
 have O0 : Hid (Oz w w) := Only.refl _ _
 show Calls _ _ _ _ fun e w' => DcP (oneR (.ok (inT (min n m)))) 2 w e w'
 go_enter Tryz.func73, Tryz.ntmps73
 go_wp2_with fail
 refine (show Cz 65 _ _ _ from HN.out _ _).mono ?_
 rintro e w2 ⟨a2, c2, rfl, G2⟩
 clear HN
 go_wp2
 go_ret2
 exact dc_1 G2 O0.out
theorem rar_max (g o c : Nat) (n m : Int) (w : World) (h0 : w.cell? ⟨g, o + 1, none⟩ = some (.int .i64 n)) (h1 : w.cell? ⟨g, o + 4 + 1, none⟩ = some (.int .i64 m)) : Cz 73 #[.string ⟨#[109, 97, 120]⟩, .slice (some ⟨g, o, none⟩) 2 c] w fun e w' => DcP (oneR (nmR maK n m)) 2 w e w' := by
 have HN : Hid (∀ n w, Cz 65 #[.int .i64 n] w fun e w' => R1P (inT n) w e w') := num_any
 have O0 : Hid (Oz w w) := Only.refl _ _
 show Calls _ _ _ _ fun e w' => DcP (oneR (.ok (inT (max n m)))) 2 w e w'
 go_enter Tryz.func73, Tryz.ntmps73
 go_wp2_with fail
 refine (show Cz 65 _ _ _ from HN.out _ _).mono ?_
 rintro e w2 ⟨a2, c2, rfl, G2⟩
 clear HN
 go_wp2
 go_ret2
 exact dc_1 G2 O0.out
theorem rar_lt (g o c : Nat) (n m : Int) (w : World) (h0 : w.cell? ⟨g, o + 1, none⟩ = some (.int .i64 n)) (h1 : w.cell? ⟨g, o + 4 + 1, none⟩ = some (.int .i64 m)) : Cz 73 #[.string ⟨#[60]⟩, .slice (some ⟨g, o, none⟩) 2 c] w fun e w' => DcP (oneR (.ok (boT (decide (n < m))))) 2 w e w' := by
 have HN : Hid (∀ b w, Cz 41 #[.bool b] w fun e w' => R1P (boT b) w e w') := flag_any
 have O0 : Hid (Oz w w) := Only.refl _ _
 go_enter Tryz.func73, Tryz.ntmps73
 go_wp2_with fail
 refine (show Cz 41 _ _ _ from HN.out _ _).mono ?_
 rintro e w2 ⟨a2, c2, rfl, G2⟩
 clear HN
 go_wp2
 go_ret2
 exact dc_1 G2 O0.out
theorem rar_gt (g o c : Nat) (n m : Int) (w : World) (h0 : w.cell? ⟨g, o + 1, none⟩ = some (.int .i64 n)) (h1 : w.cell? ⟨g, o + 4 + 1, none⟩ = some (.int .i64 m)) : Cz 73 #[.string ⟨#[62]⟩, .slice (some ⟨g, o, none⟩) 2 c] w fun e w' => DcP (oneR (.ok (boT (decide (n > m))))) 2 w e w' := by
 have HN : Hid (∀ b w, Cz 41 #[.bool b] w fun e w' => R1P (boT b) w e w') := flag_any
 have O0 : Hid (Oz w w) := Only.refl _ _
 go_enter Tryz.func73, Tryz.ntmps73
 go_wp2_with fail
 refine (show Cz 41 _ _ _ from HN.out _ _).mono ?_
 rintro e w2 ⟨a2, c2, rfl, G2⟩
 clear HN
 go_wp2
 go_ret2
 exact dc_1 G2 O0.out
def byN (s : ByteArray) (a : Nat) : Nat := (s.get! a).toNat
theorem get_bang (s : ByteArray) (a : Nat) (h : a < s.size) : s[a]'h = s.get! a := by
 cases s with
 | mk d =>
   show d[a]'h = d[a]!
   exact (getElem!_pos d a h).symm
theorem rns_tx {q : List Nat} (h : VL q) : rns (tx q) = q := by
 unfold rns chs
 rw [crs_tx0 h]
 have : ∀ (q : List Nat) (a : Nat), (pl a q).map (·.2) = q := by
  intro q
  induction q with
  | nil => intro a; rfl
  | cons c q ih => intro a; simp only [pl, List.map_cons, ih]
 exact this q 0
def qB (b : UInt8) : List UInt8 := if b.toNat = 10 then [92, 110] else if b.toNat = 34 ∨ b.toNat = 92 then [92, b] else [b]
theorem qB_enc {c : Nat} (hc : Vr c) : (encodeRune (c : Int)).flatMap qB = enL (quC c) := by
 unfold Vr at hc
 have hi : ∀ n : Nat, 128 ≤ n → n < 256 → qB n.toUInt8 = [n.toUInt8] := fun n h1 h2 => by
  unfold qB
  rw [byte_of h2, if_neg (by omega), if_neg (by omega)]
 have hq : 128 ≤ c → quC c = [c] := fun h => by unfold quC; rw [if_neg (by omega), if_neg (by omega)]
 have hs : enL [c] = encodeRune (c : Int) := by simp [enL]
 by_cases h1 : c ≤ 127
 ·rw [enc1 h1, List.flatMap_cons, List.flatMap_nil, List.append_nil]
  unfold qB quC
  rw [byte_of (by omega)]
  by_cases h10 : c = 10
  ·rw [if_pos h10, if_pos h10]; rfl
  ·rw [if_neg h10, if_neg h10]
   by_cases h2 : c = 34 ∨ c = 92
   ·rw [if_pos h2, if_pos h2, show enL [92, c] = encodeRune ((92 : Nat) : Int) ++ encodeRune (c : Int) by simp [enL], enc1 h1, enc1 (by decide)]
    rfl
   ·rw [if_neg h2, if_neg h2, hs, enc1 h1]
 ·rw [hq (by omega), hs]
  by_cases h2 : c ≤ 2047
  ·rw [enc2 (by omega) h2]
   simp only [List.flatMap_cons, List.flatMap_nil, hi _ (by omega : 128 ≤ 192 + c / 64) (by omega), hi _ (by omega : 128 ≤ 128 + c % 64) (by omega)]
   rfl
  ·by_cases h3 : c ≤ 65535
   ·rw [enc3 (by omega)]
    simp only [List.flatMap_cons, List.flatMap_nil, hi _ (by omega : 128 ≤ 224 + c / 4096) (by omega), hi _ (by omega : 128 ≤ 128 + c / 64 % 64) (by omega), hi _ (by omega : 128 ≤ 128 + c % 64) (by omega)]
    rfl
   ·rw [enc4 (by omega) (by omega)]
    simp only [List.flatMap_cons, List.flatMap_nil, hi _ (by omega : 128 ≤ 240 + c / 262144) (by omega), hi _ (by omega : 128 ≤ 128 + c / 4096 % 64) (by omega), hi _ (by omega : 128 ≤ 128 + c / 64 % 64) (by omega), hi _ (by omega : 128 ≤ 128 + c % 64) (by omega)]
    rfl
theorem qB_all {l : List Nat} (hv : VL l) : (enL l).flatMap qB = enL (quo l) := by
 induction l with
 | nil => rfl
 | cons c l ih =>
   have e1 : enL (c :: l) = encodeRune (c : Int) ++ enL l := by simp [enL]
   have e2 : quo (c :: l) = quC c ++ quo l := by simp [quo]
   rw [e1, e2, List.flatMap_append, enL_app, ih (fun x hx => hv x (List.mem_cons_of_mem _ hx)), qB_enc (hv c (List.mem_cons_self ..))]
theorem new_cells1 (W : World) (t : TypeId) (a : Value) : ∀ (j : Nat) (u : Value), [a][j]? = some u → (W.alloc (.cells #[a] t)).cell? ((⟨W.heap.size, 0, none⟩ : Addr).add j) = some u := by
 intro j u hj
 rw [addr_add, blk_cells (alloc_at W _ _ rfl)]
 simpa using hj
theorem new_cells2 (W : World) (t : TypeId) (a b : Value) : ∀ (j : Nat) (u : Value), [a, b][j]? = some u → (W.alloc (.cells #[a, b] t)).cell? ((⟨W.heap.size, 0, none⟩ : Addr).add j) = some u := by
 intro j u hj
 rw [addr_add, blk_cells (alloc_at W _ _ rfl)]
 simpa using hj
theorem one_b1 (x : Int) : ∀ u ∈ [Value.int .u8 x], u.oneCell' = true := by
 intro u hu
 simp only [List.mem_cons, List.not_mem_nil, or_false] at hu
 subst hu
 rfl
theorem one_b2 (x y : Int) : ∀ u ∈ [Value.int .u8 x, .int .u8 y], u.oneCell' = true := by
 intro u hu
 simp only [List.mem_cons, List.not_mem_nil, or_false] at hu
 rcases hu with rfl | rfl <;> rfl
theorem conv_row {w : World} {N : Nat} {ao : Option Addr} {cap : Nat} {l : List UInt8} (hl : l ≠ []) (h : w.ownsRowF N 5 1 (.slice ao l.length cap) l.length (Lib.byteCells l)) :
  (convert 181 9 (.slice ao l.length cap)).run Tryz.prog w = .ok (.string ⟨l.toArray⟩) w := by
 rcases h.2 with ⟨_, h0⟩ | ⟨g, cap', cur, fz, hv, _⟩
 ·exact absurd (List.eq_nil_of_length_eq_zero h0) hl
 ·injection hv with e1 e2 e3
  subst e1
  refine run_convert_bytes_back w _ _ 5 ⟨g, 0, none⟩ cap l Tryz.underlying181 Tryz.underlying5 Tryz.underlying9 (fun j hj => ?_)
  exact h.cells (g := g) rfl j _ (by simp [Lib.byteCells, hj])
theorem quo_rest {s : ByteArray} {k : Nat} (hk : k < s.size) : s.data.toList.drop k = s.get! k :: s.data.toList.drop (k + 1) := by
 have hl : k < s.data.toList.length := by rw [Array.length_toList]; exact hk
 rw [List.drop_eq_getElem_cons hl, ← get_bang s k hk]
 rfl
theorem quo_bytes {s : ByteArray} (h : ¬ stR s < s.size) : tx ([34] ++ quo (rns s) ++ [34]) = ⟨([34] ++ s.data.toList.flatMap qB ++ [34] : List UInt8).toArray⟩ := by
 obtain ⟨l, hv, e⟩ := valid_tx h
 rw [e, rns_tx hv, tx_data, qB_all hv]
 unfold tx
 rw [enL_app, enL_app]
 rfl
theorem rQuoted_any (s : ByteArray) (hs : s.size ≤ 4000000) (w : World) :
  Cz 100 #[.string s] w fun e w' => e = .returned (.tuple #[.string (quoR s).1, .int .i64 (quoR s).2]) ∧ Oz w w' := by
 have HB : Hid (Cz 62 #[.string s] w fun e w' => e = .returned (.int .i64 (badR s)) ∧ Oz w w') := bad_any s (by omega) w
 have hbr : badR s = if stR s < s.size then (stR s : Int) else -1 := rfl
 obtain ⟨Z, hZ⟩ : ∃ Z, Z = quoR s := ⟨_, rfl⟩
 rw [← hZ]
 unfold quoR at hZ
 by_cases hb : stR s < s.size
 ·rw [if_pos hb] at hbr hZ
  rw [hbr] at HB
  have HE : Hid (Z = (⟨#[]⟩, 8)) := hZ
  have b2 : (0 : Int) ≤ (stR s : Int) := Int.natCast_nonneg _
  obtain ⟨z, hz⟩ : ∃ z, z = stR s := ⟨_, rfl⟩
  rw [← hz] at HB b2
  clear hbr hb hz hZ
  go_enter Tryz.func100, Tryz.ntmps100
  go_wp2_with fail
  refine (show Cz 62 _ _ _ from HB.out).mono ?_
  rintro e w1 ⟨rfl, o1⟩
  have O1 : Hid (Oz w w1) := o1
  clear HB o1
  go_wp2
  go_ret2
  exact ⟨by rw [show Z = _ from HE.out]; rfl, O1.out⟩
 ·rw [if_neg hb] at hbr hZ
  rw [hbr] at HB
  by_cases hl : 4096 < s.size
  ·rw [if_pos hl] at hZ
   have HE : Hid (Z = (⟨#[]⟩, 11)) := hZ
   have b2 : decide ((4096 : Int) < (s.size : Int)) = true := decide_eq_true (by omega)
   clear hbr hb hZ hl
   go_enter Tryz.func100, Tryz.ntmps100
   go_wp2_with fail
   refine (show Cz 62 _ _ _ from HB.out).mono ?_
   rintro e w1 ⟨rfl, o1⟩
   have O1 : Hid (Oz w w1) := o1
   clear HB o1
   go_wp2
   go_ret2
   exact ⟨by rw [show Z = _ from HE.out]; rfl, O1.out⟩
  ·rw [if_neg hl, quo_bytes hb] at hZ
   have HE : Hid (Z = (⟨([34] ++ (s.data.toList.drop 0).flatMap qB ++ [34] : List UInt8).toArray⟩, 0)) := hZ
   have b2 : decide ((4096 : Int) < (s.size : Int)) = false := decide_eq_false (by omega)
   clear hbr hb hZ
   obtain ⟨i0, hi, hz0, hz1, hz2⟩ := byte_info
   have HBi : Hid (Tryz.prog.info? 5 = some i0 ∧ i0.zero = some (.int .u8 0) ∧ i0.size = 1 ∧ i0.bytes = 1) := ⟨hi, hz0, hz1, hz2⟩
   clear hi hz0 hz1 hz2
   go_enter Tryz.func100, Tryz.ntmps100
   go_wp2_with fail
   refine (show Cz 62 _ _ _ from HB.out).mono ?_
   rintro e w1 ⟨rfl, o1⟩
   have O1 : Hid (Oz w w1) := o1
   clear HB o1
   go_wp2
   obtain ⟨N, hN⟩ : ∃ N, N = w1.heap.size := ⟨_, rfl⟩
   have R0 : Hid ((w1.alloc (.cells #[.int .u8 34] 5)).ownsRowF N 5 1 (.slice (some ⟨N, 0, none⟩) ([34] : List UInt8).length 1) ([34] : List UInt8).length (Lib.byteCells [34]) ∧ Oz w (w1.alloc (.cells #[.int .u8 34] 5)) ∧ N ≤ (w1.alloc (.cells #[.int .u8 34] 5)).heap.size) := by
    refine ⟨⟨rfl, .inr ⟨N, 1, #[.int .u8 34], (0, 0), rfl, Nat.le_refl _, alloc_at _ _ _ hN, by simp, Nat.le_refl _, by unfold maxLen; omega, rfl, rfl⟩⟩, O1.out.alloc _, by simp; omega⟩
   have HNw : Hid (w.heap.size ≤ N) := by show w.heap.size ≤ N; rw [hN]; exact O1.out.size
   rw [← hN]
   clear hN
   go_loopw [4, 5] (fun r4 r5 wr => ∃ (k : Nat) (acc : List UInt8) (ao : Option Addr) (cap : Nat), k ≤ s.size ∧ r4 = .slice ao acc.length cap ∧ r5 = .int .i64 (k : Int) ∧ Hid (acc ≠ [] ∧ acc.length ≤ 1 + 2 * k ∧ wr.ownsRowF N 5 1 (.slice ao acc.length cap) acc.length (Lib.byteCells acc) ∧ Oz w wr ∧ N ≤ wr.heap.size ∧ Z = (⟨(acc ++ (s.data.toList.drop k).flatMap qB ++ [34] : List UInt8).toArray⟩, 0))) (fun _ r5 _ => s.size - uOf r5)
   case atStart => exact ⟨0, [34], some ⟨N, 0, none⟩, 1, Nat.zero_le _, rfl, rfl, by simp, by simp, R0.out.1, R0.out.2.1, R0.out.2.2, HE.out⟩
   case round =>
    obtain ⟨k, acc, ao, cap, hk, rfl, rfl, HI⟩ := hrel
    obtain ⟨w5, rfl⟩ : ∃ w5, w5 = wr := ⟨_, rfl⟩
    obtain ⟨L, hL⟩ : ∃ L, L = acc.length := ⟨_, rfl⟩
    have HL : Hid (L = acc.length) := hL
    have hLk : L ≤ 1 + 2 * k := by rw [hL]; exact HI.out.2.1
    have HI2 : Hid (w5.ownsRowF N 5 1 (.slice ao L cap) L (Lib.byteCells acc)) := by rw [hL]; exact HI.out.2.2.1
    have HO : Hid (Oz w w5) := HI.out.2.2.2.1
    have HNs : Hid (N ≤ w5.heap.size) := HI.out.2.2.2.2.1
    have HZk : Hid (Z = (⟨(acc ++ (s.data.toList.drop k).flatMap qB ++ [34] : List UInt8).toArray⟩, 0)) := HI.out.2.2.2.2.2
    rw [← hL]
    clear HE R0 HI hL O1
    by_cases hlt : k < s.size
    ·have hix : ∀ W : World, (Instr.index 9 (.string s) (.int .i64 (k : Int))).run Tryz.prog W = .ok (.int .u8 (byN s k : Int)) W := fun W => by
      rw [run_index_string W 9 _ _ _ Tryz.underlying9, dif_pos ⟨by omega, by omega⟩]
      simp only [Int.toNat_natCast]
      rw [get_bang]
      rfl
     have hrest := quo_rest hlt
     obtain ⟨b, hbb⟩ : ∃ b, b = s.get! k := ⟨_, rfl⟩
     rw [← hbb] at hrest
     have hby : byN s k = b.toNat := by unfold byN; rw [hbb]
     obtain ⟨y, hy⟩ : ∃ y, y = byN s k := ⟨_, rfl⟩
     rw [← hy] at hix hby
     have HZ2 : Hid (∀ x, qB b = x → Z = (⟨((acc ++ x) ++ (s.data.toList.drop (k + 1)).flatMap qB ++ [34] : List UInt8).toArray⟩, 0)) := fun x hx => by
      rw [HZk.out, hrest, List.flatMap_cons, hx, ← List.append_assoc acc x]
     have hqb : qB b = if b.toNat = 10 then [92, 110] else if b.toNat = 34 ∨ b.toNat = 92 then [92, b] else [b] := rfl
     rw [← hby] at hqb
     have hcb : (.int .u8 (y : Int) : Value) = .int .u8 (b.toNat : Int) := by rw [hby]
     have k1 : (k : Int) < (s.size : Int) := by omega
     have k0 : (0 : Int) ≤ (k : Int) := Int.natCast_nonneg _
     clear HZk hrest hbb hy
     by_cases h10 : y = 10
     ·rw [if_pos h10] at hqb
      have HZ3 := HZ2.out _ hqb
      have e10 : ((y : Int) == 10) = true := by rw [h10]; rfl
      have HZ4 : Hid (Z = (⟨((acc ++ [92, 110]) ++ (s.data.toList.drop (k + 1)).flatMap qB ++ [34] : List UInt8).toArray⟩, 0)) := HZ3
      clear HZ2 HZ3 hqb h10 hby hcb
      obtain ⟨hi, hz0, hz1, hz2⟩ := HBi.out
      have hm1 : L + 2 ≤ maxLen := by unfold maxLen; omega
      have hm2 : (L + 2) * 1 ≤ 140737488355328 := by omega
      have HM3 : Hid (∀ o, N ≤ (w5.alloc o).heap.size) := fun o => by have : N ≤ w5.heap.size := HNs.out; simp; omega
      have HOw : Hid (w5.ownsRowF N 5 1 (.slice ao L cap) L (Lib.byteCells acc)) := HI2.out
      go_wp2_with (at_builtin; refine wpList_append_ownF _ rfl _ _ 181 rfl N 5 i0 (.int .u8 0) 1 1 Tryz.underlying181 hi hz0 hz1 hz2 rfl (by decide) _ L (Lib.byteCells acc) rfl (HOw.out.alloc _) ⟨w5.heap.size, 0, none⟩ 2 2 [.int .u8 92, .int .u8 110] rfl rfl (new_cells2 _ _ _ _) (one_b2 _ _) hm1 hm2 (HM3.out _) ?_)
      intro v' w6 hown' hgrow _
      obtain ⟨ao', cap', rfl⟩ : ∃ ao' cap', v' = .slice ao' (L + 2) cap' := by
       rcases hown'.2 with ⟨_, h0⟩ | ⟨g, cap', cur, fz, hv, _⟩
       ·omega
       ·exact ⟨_, cap', hv⟩
      have e2 : (acc ++ [92, 110]).length = L + 2 := by rw [List.length_append, ← (show L = acc.length from HL.out)]; rfl
      have HK1 : Hid (w6.ownsRowF N 5 1 (.slice ao' (acc ++ [92, 110]).length cap') (acc ++ [92, 110]).length (Lib.byteCells (acc ++ [92, 110]))) := by
       rw [e2, Lib.byteCells_append]
       exact hown'
      have HK2 : Hid (Below N w6 w6 ∧ N ≤ w6.heap.size ∧ Oz w w6) := by
       have hb : Below N w5 w6 := ((Below.refl N w5).alloc HNs.out _).grown hgrow (HM3.out _) (fun k hk => (HOw.out.lt k hk).1)
       refine ⟨Below.refl _ _, Nat.le_trans HNs.out hb.size, ⟨hb.os.trans HO.out.os, hb.tape.trans HO.out.tape, hb.output.trans HO.out.output, Nat.le_trans HO.out.size hb.size, fun k hk hn => ?_⟩⟩
       exact (hb.block k (Nat.lt_of_lt_of_le hk HNw.out)).trans (HO.out.block k hk hn)
      have HV : Hid ((Value.slice ao' (L + 2) cap') = .slice ao' (acc ++ [92, 110]).length cap') := by rw [e2]; exact rfl
      clear hown' hgrow e2 HOw HM3
      go_wp2
      go_roundw
      case rel => exact ⟨k + 1, acc ++ [92, 110], ao', cap', by omega, HV.out, by go_num, by simp, by rw [List.length_append, ← (show L = acc.length from HL.out)]; show L + 2 ≤ _; omega, HK1.out, HK2.out.2.2, HK2.out.2.1, HZ4.out⟩
      case measure => simp only [uOf]; omega
     ·have e10 : ((y : Int) == 10) = false := by simp; omega
      rw [if_neg h10] at hqb
      by_cases h2 : y = 34 ∨ y = 92
      ·rw [if_pos h2] at hqb
       have HZ3 := HZ2.out _ hqb
       have HZ4 : Hid (Z = (⟨((acc ++ [92, b]) ++ (s.data.toList.drop (k + 1)).flatMap qB ++ [34] : List UInt8).toArray⟩, 0)) := HZ3
       have e34 : ((y : Int) == 34) = true ∨ (((y : Int) == 34) = false ∧ ((y : Int) == 92) = true) := by
        rcases h2 with h2 | h2
        ·left; rw [h2]; rfl
        ·right; rw [h2]; exact ⟨rfl, rfl⟩
       subst hby
       clear HZ2 HZ3 hqb h10 h2 hcb
       rcases e34 with e34 | ⟨e34, e92⟩
       ·obtain ⟨hi, hz0, hz1, hz2⟩ := HBi.out
        have hm1 : L + 2 ≤ maxLen := by unfold maxLen; omega
        have hm2 : (L + 2) * 1 ≤ 140737488355328 := by omega
        have HM3 : Hid (∀ o, N ≤ (w5.alloc o).heap.size) := fun o => by have : N ≤ w5.heap.size := HNs.out; simp; omega
        have HOw : Hid (w5.ownsRowF N 5 1 (.slice ao L cap) L (Lib.byteCells acc)) := HI2.out
        go_wp2_with (at_builtin; refine wpList_append_ownF _ rfl _ _ 181 rfl N 5 i0 (.int .u8 0) 1 1 Tryz.underlying181 hi hz0 hz1 hz2 rfl (by decide) _ L (Lib.byteCells acc) rfl (HOw.out.alloc _) ⟨w5.heap.size, 0, none⟩ 2 2 [.int .u8 92, .int .u8 (b.toNat : Int)] rfl rfl (new_cells2 _ _ _ _) (one_b2 _ _) hm1 hm2 (HM3.out _) ?_)
        intro v' w6 hown' hgrow _
        obtain ⟨ao', cap', rfl⟩ : ∃ ao' cap', v' = .slice ao' (L + 2) cap' := by
         rcases hown'.2 with ⟨_, h0⟩ | ⟨g, cap', cur, fz, hv, _⟩
         ·omega
         ·exact ⟨_, cap', hv⟩
        have e2 : (acc ++ [92, b]).length = L + 2 := by rw [List.length_append, ← (show L = acc.length from HL.out)]; rfl
        have HK1 : Hid (w6.ownsRowF N 5 1 (.slice ao' (acc ++ [92, b]).length cap') (acc ++ [92, b]).length (Lib.byteCells (acc ++ [92, b]))) := by
         rw [e2, Lib.byteCells_append]
         exact hown'
        have HK2 : Hid (Below N w6 w6 ∧ N ≤ w6.heap.size ∧ Oz w w6) := by
         have hb : Below N w5 w6 := ((Below.refl N w5).alloc HNs.out _).grown hgrow (HM3.out _) (fun k hk => (HOw.out.lt k hk).1)
         refine ⟨Below.refl _ _, Nat.le_trans HNs.out hb.size, ⟨hb.os.trans HO.out.os, hb.tape.trans HO.out.tape, hb.output.trans HO.out.output, Nat.le_trans HO.out.size hb.size, fun k hk hn => ?_⟩⟩
         exact (hb.block k (Nat.lt_of_lt_of_le hk HNw.out)).trans (HO.out.block k hk hn)
        have HV : Hid ((Value.slice ao' (L + 2) cap') = .slice ao' (acc ++ [92, b]).length cap') := by rw [e2]; exact rfl
        clear hown' hgrow e2 HOw HM3
        go_wp2
        go_roundw
        case rel => exact ⟨k + 1, acc ++ [92, b], ao', cap', by omega, HV.out, by go_num, by simp, by rw [List.length_append, ← (show L = acc.length from HL.out)]; show L + 2 ≤ _; omega, HK1.out, HK2.out.2.2, HK2.out.2.1, HZ4.out⟩
        case measure => simp only [uOf]; omega
       ·obtain ⟨hi, hz0, hz1, hz2⟩ := HBi.out
        have hm1 : L + 2 ≤ maxLen := by unfold maxLen; omega
        have hm2 : (L + 2) * 1 ≤ 140737488355328 := by omega
        have HM3 : Hid (∀ o, N ≤ (w5.alloc o).heap.size) := fun o => by have : N ≤ w5.heap.size := HNs.out; simp; omega
        have HOw : Hid (w5.ownsRowF N 5 1 (.slice ao L cap) L (Lib.byteCells acc)) := HI2.out
        go_wp2_with (at_builtin; refine wpList_append_ownF _ rfl _ _ 181 rfl N 5 i0 (.int .u8 0) 1 1 Tryz.underlying181 hi hz0 hz1 hz2 rfl (by decide) _ L (Lib.byteCells acc) rfl (HOw.out.alloc _) ⟨w5.heap.size, 0, none⟩ 2 2 [.int .u8 92, .int .u8 (b.toNat : Int)] rfl rfl (new_cells2 _ _ _ _) (one_b2 _ _) hm1 hm2 (HM3.out _) ?_)
        intro v' w6 hown' hgrow _
        obtain ⟨ao', cap', rfl⟩ : ∃ ao' cap', v' = .slice ao' (L + 2) cap' := by
         rcases hown'.2 with ⟨_, h0⟩ | ⟨g, cap', cur, fz, hv, _⟩
         ·omega
         ·exact ⟨_, cap', hv⟩
        have e2 : (acc ++ [92, b]).length = L + 2 := by rw [List.length_append, ← (show L = acc.length from HL.out)]; rfl
        have HK1 : Hid (w6.ownsRowF N 5 1 (.slice ao' (acc ++ [92, b]).length cap') (acc ++ [92, b]).length (Lib.byteCells (acc ++ [92, b]))) := by
         rw [e2, Lib.byteCells_append]
         exact hown'
        have HK2 : Hid (Below N w6 w6 ∧ N ≤ w6.heap.size ∧ Oz w w6) := by
         have hb : Below N w5 w6 := ((Below.refl N w5).alloc HNs.out _).grown hgrow (HM3.out _) (fun k hk => (HOw.out.lt k hk).1)
         refine ⟨Below.refl _ _, Nat.le_trans HNs.out hb.size, ⟨hb.os.trans HO.out.os, hb.tape.trans HO.out.tape, hb.output.trans HO.out.output, Nat.le_trans HO.out.size hb.size, fun k hk hn => ?_⟩⟩
         exact (hb.block k (Nat.lt_of_lt_of_le hk HNw.out)).trans (HO.out.block k hk hn)
        have HV : Hid ((Value.slice ao' (L + 2) cap') = .slice ao' (acc ++ [92, b]).length cap') := by rw [e2]; exact rfl
        clear hown' hgrow e2 HOw HM3
        go_wp2
        go_roundw
        case rel => exact ⟨k + 1, acc ++ [92, b], ao', cap', by omega, HV.out, by go_num, by simp, by rw [List.length_append, ← (show L = acc.length from HL.out)]; show L + 2 ≤ _; omega, HK1.out, HK2.out.2.2, HK2.out.2.1, HZ4.out⟩
        case measure => simp only [uOf]; omega
      ·rw [if_neg h2] at hqb
       have HZ3 := HZ2.out _ hqb
       have HZ4 : Hid (Z = (⟨((acc ++ [b]) ++ (s.data.toList.drop (k + 1)).flatMap qB ++ [34] : List UInt8).toArray⟩, 0)) := HZ3
       have e34 : ((y : Int) == 34) = false := by simp; omega
       have e92 : ((y : Int) == 92) = false := by simp; omega
       subst hby
       clear HZ2 HZ3 hqb h10 h2 hcb
       obtain ⟨hi, hz0, hz1, hz2⟩ := HBi.out
       have hm1 : L + 1 ≤ maxLen := by unfold maxLen; omega
       have hm2 : (L + 1) * 1 ≤ 140737488355328 := by omega
       have HM3 : Hid (∀ o, N ≤ (w5.alloc o).heap.size) := fun o => by have : N ≤ w5.heap.size := HNs.out; simp; omega
       have HOw : Hid (w5.ownsRowF N 5 1 (.slice ao L cap) L (Lib.byteCells acc)) := HI2.out
       go_wp2_with (at_builtin; refine wpList_append_ownF _ rfl _ _ 181 rfl N 5 i0 (.int .u8 0) 1 1 Tryz.underlying181 hi hz0 hz1 hz2 rfl (by decide) _ L (Lib.byteCells acc) rfl (HOw.out.alloc _) ⟨w5.heap.size, 0, none⟩ 1 1 [.int .u8 (b.toNat : Int)] rfl rfl (new_cells1 _ _ _) (one_b1 _) hm1 hm2 (HM3.out _) ?_)
       intro v' w6 hown' hgrow _
       obtain ⟨ao', cap', rfl⟩ : ∃ ao' cap', v' = .slice ao' (L + 1) cap' := by
        rcases hown'.2 with ⟨_, h0⟩ | ⟨g, cap', cur, fz, hv, _⟩
        ·omega
        ·exact ⟨_, cap', hv⟩
       have e2 : (acc ++ [b]).length = L + 1 := by rw [List.length_append, ← (show L = acc.length from HL.out)]; rfl
       have HK1 : Hid (w6.ownsRowF N 5 1 (.slice ao' (acc ++ [b]).length cap') (acc ++ [b]).length (Lib.byteCells (acc ++ [b]))) := by
        rw [e2, Lib.byteCells_append]
        exact hown'
       have HK2 : Hid (Below N w6 w6 ∧ N ≤ w6.heap.size ∧ Oz w w6) := by
        have hb : Below N w5 w6 := ((Below.refl N w5).alloc HNs.out _).grown hgrow (HM3.out _) (fun k hk => (HOw.out.lt k hk).1)
        refine ⟨Below.refl _ _, Nat.le_trans HNs.out hb.size, ⟨hb.os.trans HO.out.os, hb.tape.trans HO.out.tape, hb.output.trans HO.out.output, Nat.le_trans HO.out.size hb.size, fun k hk hn => ?_⟩⟩
        exact (hb.block k (Nat.lt_of_lt_of_le hk HNw.out)).trans (HO.out.block k hk hn)
       have HV : Hid ((Value.slice ao' (L + 1) cap') = .slice ao' (acc ++ [b]).length cap') := by rw [e2]; exact rfl
       clear hown' hgrow e2 HOw HM3
       go_wp2
       go_roundw
       case rel => exact ⟨k + 1, acc ++ [b], ao', cap', by omega, HV.out, by go_num, by simp, by rw [List.length_append, ← (show L = acc.length from HL.out)]; show L + 1 ≤ _; omega, HK1.out, HK2.out.2.2, HK2.out.2.1, HZ4.out⟩
       case measure => simp only [uOf]; omega
    ·have k1 : ¬ (k : Int) < (s.size : Int) := by omega
     have HZ4 : Hid (Z = (⟨(acc ++ [34] : List UInt8).toArray⟩, 0)) := by
      show Z = _
      rw [HZk.out, List.drop_eq_nil_of_le (by rw [Array.length_toList]; show s.size ≤ k; omega)]
      simp
     clear HZk
     obtain ⟨hi, hz0, hz1, hz2⟩ := HBi.out
     have hm1 : L + 1 ≤ maxLen := by unfold maxLen; omega
     have hm2 : (L + 1) * 1 ≤ 140737488355328 := by omega
     have HM3 : Hid (∀ o, N ≤ (w5.alloc o).heap.size) := fun o => by have : N ≤ w5.heap.size := HNs.out; simp; omega
     have HOw : Hid (w5.ownsRowF N 5 1 (.slice ao L cap) L (Lib.byteCells acc)) := HI2.out
     go_wp2_with (at_builtin; refine wpList_append_ownF _ rfl _ _ 181 rfl N 5 i0 (.int .u8 0) 1 1 Tryz.underlying181 hi hz0 hz1 hz2 rfl (by decide) _ L (Lib.byteCells acc) rfl (HOw.out.alloc _) ⟨w5.heap.size, 0, none⟩ 1 1 [.int .u8 34] rfl rfl (new_cells1 _ _ _) (one_b1 _) hm1 hm2 (HM3.out _) ?_)
     intro v' w6 hown' hgrow _
     obtain ⟨ao', cap', rfl⟩ : ∃ ao' cap', v' = .slice ao' (L + 1) cap' := by
      rcases hown'.2 with ⟨_, h0⟩ | ⟨g, cap', cur, fz, hv, _⟩
      ·omega
      ·exact ⟨_, cap', hv⟩
     have e2 : (acc ++ [34]).length = L + 1 := by rw [List.length_append, ← (show L = acc.length from HL.out)]; rfl
     have HK1 : Hid (w6.ownsRowF N 5 1 (.slice ao' (acc ++ [34]).length cap') (acc ++ [34]).length (Lib.byteCells (acc ++ [34]))) := by
      rw [e2, Lib.byteCells_append]
      exact hown'
     have HK2 : Hid (Below N w6 w6 ∧ N ≤ w6.heap.size ∧ Oz w w6) := by
      have hb : Below N w5 w6 := ((Below.refl N w5).alloc HNs.out _).grown hgrow (HM3.out _) (fun k hk => (HOw.out.lt k hk).1)
      refine ⟨Below.refl _ _, Nat.le_trans HNs.out hb.size, ⟨hb.os.trans HO.out.os, hb.tape.trans HO.out.tape, hb.output.trans HO.out.output, Nat.le_trans HO.out.size hb.size, fun k hk hn => ?_⟩⟩
      exact (hb.block k (Nat.lt_of_lt_of_le hk HNw.out)).trans (HO.out.block k hk hn)
     have HV : Hid ((Value.slice ao' (L + 1) cap') = .slice ao' (acc ++ [34]).length cap') := by rw [e2]; exact rfl
     clear hown' hgrow e2 HOw HM3
     have HCv := conv_row (by simp) HK1.out
     rw [← HV.out] at HCv
     go_wp2
     go_ret2
     exact ⟨by rw [show Z = _ from HZ4.out]; rfl, HK2.out.2.2⟩
theorem rf_crs (s : ByteArray) : ∀ (b i : Nat) (acc : Array Value), Conv.runesFrom s b i acc = acc ++ ((crs s b i).map fun x => Value.int .i32 (x.2 : Int)).toArray
 | 0, i, acc => by simp [Conv.runesFrom, crs]
 | b + 1, i, acc => by
   unfold Conv.runesFrom crs
   by_cases h : i < s.size
   ·rw [if_pos h, if_pos h]
    dsimp only
    rw [rf_crs s b]
    simp
   ·rw [if_neg h, if_neg h]
    simp
theorem rf_rns (s : ByteArray) : Conv.runesFrom s s.size 0 #[] = ((rns s).map fun (r : Nat) => Value.int .i32 (r : Int)).toArray := by
 rw [rf_crs]
 unfold rns chs
 simp [List.map_map, Function.comp_def]
theorem rb_tx (q : List Nat) (h : VL q) : runesBytes (q.map fun (r : Nat) => (r : Int)) = tx q := by
 have key : ∀ (q : List Nat), VL q → ∀ (r : ByteArray), (q.map fun (r : Nat) => (r : Int)).foldl (fun r n => r ++ Utf8.encode n) r = r ++ tx q := by
  intro q
  induction q with
  | nil =>
    intro _ r
    show r = r ++ tx []
    apply ByteArray.ext
    simp [tx, enL, ByteArray.data_append]
  | cons c q ih =>
    intro hv r
    rw [List.map_cons, List.foldl_cons, ih (fun x hx => hv x (List.mem_cons_of_mem _ hx)), encode_tx (hv c (List.mem_cons_self ..)), ByteArray.append_assoc]
    congr 1
    apply ByteArray.ext
    simp [tx, enL, ByteArray.data_append]
 unfold runesBytes
 rw [key q h]
 apply ByteArray.ext
 simp [ByteArray.data_append]
theorem sst_info : ∃ i z, Tryz.prog.info? 9 = some i ∧ i.zero = some z ∧ i.size = 1 ∧ i.bytes = 16 ∧ z.cells.size = 1 := ⟨_, _, rfl, rfl, rfl, rfl, rfl⟩
def StAt (w : World) (B : Nat) (v : Value) (ls : List ByteArray) : Prop := w.ownsRowF B 9 1 v ls.length (ls.map Value.string)
theorem new_cell1 (W : World) (t : TypeId) (a : Value) : ∀ (j : Nat) (u : Value), [a][j]? = some u → (W.alloc (.cells #[a] t)).cell? ((⟨W.heap.size, 0, none⟩ : Addr).add j) = some u := by
 intro j u hj
 rw [addr_add, blk_cells (alloc_at W _ _ rfl)]
 simpa using hj
def chT (s : ByteArray) : List ByteArray := (rns s).map fun c => tx [c]
theorem characters_any (s : ByteArray) (hs : s.size ≤ 268435456) (w : World) :
  Cz 68 #[.string s] w fun e w' => ∃ ao cap, e = .returned (.slice ao (chT s).length cap) ∧ Hid (StAt w' w.heap.size (.slice ao (chT s).length cap) (chT s) ∧ Below w.heap.size w w') := by
 obtain ⟨Z, hZ⟩ : ∃ Z, Z = chT s := ⟨_, rfl⟩
 have HZ : Hid (Z = [] ++ (crs s s.size 0).map fun p => tx [p.2]) := by
  show Z = _
  rw [hZ]
  unfold chT rns chs
  simp [List.map_map, Function.comp_def]
 rw [← hZ]
 clear hZ
 obtain ⟨i0, z0, hi, hz0, hz1, hz2, hz3⟩ := sst_info
 have HI0 : Hid (Tryz.prog.info? 9 = some i0 ∧ i0.zero = some z0 ∧ i0.size = 1 ∧ i0.bytes = 16 ∧ z0.cells.size = 1) := ⟨hi, hz0, hz1, hz2, hz3⟩
 clear hi hz0 hz1 hz2 hz3
 go_enter Tryz.func68, Tryz.ntmps68
 go_wp2
 go_loopw [3] (fun r3 wr_ => ∃ (pos b : Nat) (acc : List ByteArray) (ao : Option Addr) (cap : Nat), r3 = .slice ao acc.length cap ∧ Hid (wr_.heap[w.heap.size]? = some (.stringIter s pos) ∧ Z = acc ++ (crs s b pos).map (fun p => tx [p.2]) ∧ s.size ≤ pos + b ∧ pos ≤ s.size ∧ acc.length ≤ pos ∧ wr_.ownsRowF (w.heap.size + 1) 9 1 (.slice ao acc.length cap) acc.length (acc.map Value.string) ∧ Below w.heap.size w wr_)) (fun _ wr_ => s.size - wr_.iterPos w.heap.size)
 case atStart => exact ⟨0, s.size, [], none, 0, rfl, alloc_at _ _ _ rfl, HZ.out, by omega, by omega, by simp, ⟨rfl, .inl ⟨rfl, rfl⟩⟩, (Below.refl _ w).alloc (Nat.le_refl _) _⟩
 case round =>
  obtain ⟨pos, b, acc, ao, cap, rfl, HI⟩ := hrel
  obtain ⟨w1, rfl⟩ : ∃ w1, w1 = wr := ⟨_, rfl⟩
  clear HZ
  by_cases hp : pos < s.size
  ·have hnx : ∀ ty, (Instr.next (.pointer (some ⟨w.heap.size, 0, none⟩)) true ty).run Tryz.prog w1 = _ := fun ty => run_next_any_at w1 w.heap.size s pos ty HI.out.1 hp
   have hwd := wid_pos s pos hp
   have hwp := decode_wd s pos hp
   obtain ⟨b', hb', hcr⟩ := crs_go hp HI.out.2.2.1
   have hvr := decode_vr s pos
   obtain ⟨c, hc⟩ : ∃ c, c = (Utf8.decode s pos).1 := ⟨_, rfl⟩
   obtain ⟨wd, hw⟩ : ∃ c, c = (Utf8.decode s pos).2 := ⟨_, rfl⟩
   rw [← hc, ← hw] at hnx hcr
   rw [← hc] at hvr
   rw [← hw] at hwd hwp
   have hcv : ∀ W : World, (convert 21 9 (.int .i32 (c : Int))).run Tryz.prog W = .ok (.string (tx [c])) W := fun W => by
    rw [← encode_tx hvr]
    exact run_convert_int_string W _ _ _ _ rfl Tryz.underlying9
   obtain ⟨X, hX⟩ : ∃ X, X = tx [c] := ⟨_, rfl⟩
   rw [← hX] at hcv
   have hmp : w1.iterPos w.heap.size = pos := by simp only [World.iterPos, HI.out.1]
   obtain ⟨W2, hW2⟩ : ∃ W2, W2 = w1.iterAt w.heap.size s (pos + wd) := ⟨_, rfl⟩
   have HJ : Hid (W2.heap[w.heap.size]? = some (.stringIter s (pos + wd)) ∧ Z = acc ++ (X :: (crs s b' (pos + wd)).map (fun p => tx [p.2])) ∧ s.size ≤ pos + wd + b' ∧ acc.length ≤ pos ∧ W2.ownsRowF (w.heap.size + 1) 9 1 (.slice ao acc.length cap) acc.length (acc.map Value.string) ∧ Below w.heap.size w W2) := by
    obtain ⟨j1, j2, j3, j4, j5, j6, j7⟩ := HI.out
    rw [hW2]
    refine ⟨iterAt_heap _ _ _ _ _ j1, by rw [j2, hcr, hX]; rfl, by omega, j5, ⟨j6.1, ?_⟩, below_iterAt j7 (Nat.le_refl _) _ _⟩
    rcases j6.2 with g | ⟨g, cap', cur, fz, h1, h2, h3, h4⟩
    ·exact .inl g
    ·exact .inr ⟨g, cap', cur, fz, h1, h2, (iterAt_other _ _ _ _ _ (by omega)).trans h3, h4⟩
   rw [← hW2] at hnx
   obtain ⟨L, hL⟩ : ∃ L, L = acc.length := ⟨_, rfl⟩
   have HL : Hid (L = acc.length) := hL
   have hLp : L ≤ 268435456 := by have := HI.out.2.2.2.2.1; omega
   rw [← hL] at HJ ⊢
   clear HI hc hw hcr hb' hvr hW2 hL hX
   obtain ⟨hi, hz0, hz1, hz2, hz3⟩ := HI0.out
   have hm1 : L + 1 ≤ maxLen := by unfold maxLen; omega
   have hm2 : (L + 1) * 16 ≤ 140737488355328 := by omega
   have HM3 : Hid (∀ o, w.heap.size + 1 ≤ (W2.alloc o).heap.size) := fun o => by have := (Array.getElem?_eq_some_iff.1 HJ.out.1).1; simp; omega
   go_wp2_with (at_builtin; refine wpList_append_ownF _ rfl _ _ 56 rfl (w.heap.size + 1) 9 i0 z0 1 16 Tryz.underlying56 hi hz0 hz1 hz2 hz3 (by decide) _ L (acc.map Value.string) rfl (HJ.out.2.2.2.2.1.alloc _) ⟨W2.heap.size, 0, none⟩ 1 1 [.string X] rfl rfl (new_cell1 _ _ _) (fun u hu => by simp only [List.mem_cons, List.not_mem_nil, or_false] at hu; subst hu; rfl) hm1 hm2 (HM3.out _) ?_)
   intro v' w4 hown' hgrow _
   obtain ⟨ao', cap', rfl⟩ : ∃ ao' cap', v' = .slice ao' (L + 1) cap' := by
    rcases hown'.2 with ⟨_, h0⟩ | ⟨g, cap', cur, fz, hv, _⟩
    ·omega
    ·exact ⟨_, cap', hv⟩
   have hlt2 : w.heap.size < W2.heap.size := (Array.getElem?_eq_some_iff.1 HJ.out.1).1
   have hnb : ∀ k, (Value.slice ao L cap).ownBlock = some k → w.heap.size + 1 ≤ k := fun k hk => (HJ.out.2.2.2.2.1.lt k hk).1
   have e1 : L = acc.length := HL.out
   have e2 : (acc ++ [X]).length = L + 1 := by simp [e1]
   have HK : Hid (w4.heap[w.heap.size]? = some (.stringIter s (pos + wd)) ∧ Z = (acc ++ [X]) ++ (crs s b' (pos + wd)).map (fun p => tx [p.2]) ∧ s.size ≤ pos + wd + b' ∧ pos + wd ≤ s.size ∧ (acc ++ [X]).length ≤ pos + wd ∧ w4.ownsRowF (w.heap.size + 1) 9 1 (.slice ao' (acc ++ [X]).length cap') (acc ++ [X]).length ((acc ++ [X]).map Value.string) ∧ Below w.heap.size w w4) := by
    refine ⟨?_, by rw [HJ.out.2.1, List.append_assoc]; rfl, HJ.out.2.2.1, hwp, by rw [e2]; have := HJ.out.2.2.2.1; omega, ?_, ?_⟩
    ·rw [hgrow.block w.heap.size (by simp; omega) (fun e => by have := hnb _ e.symm; omega), alloc_old W2 _ w.heap.size hlt2]
     exact HJ.out.1
    ·rw [e2, List.map_append]
     exact hown'
    ·exact (HJ.out.2.2.2.2.2.alloc (by omega) _).grown hgrow (by simp; omega) (fun k hk => by have := hnb k hk; omega)
   have HV : Hid ((Value.slice ao' (L + 1) cap') = .slice ao' (acc ++ [X]).length cap') := by rw [e2]; exact rfl
   clear hown' hgrow e2 e1 hnb hlt2 HJ
   go_wp2
   go_roundw
   case rel => exact ⟨pos + wd, b', acc ++ [X], ao', cap', HV.out, HK⟩
   case measure => have e1 : w4.iterPos w.heap.size = pos + wd := by simp only [World.iterPos, HK.out.1]
                   omega
  ·have hnx : ∀ ty, (Instr.next (.pointer (some ⟨w.heap.size, 0, none⟩)) true ty).run Tryz.prog w1 = _ := fun ty => run_next_end_at w1 w.heap.size s pos ty HI.out.1 hp
   have HE : Hid (Z = acc) := by
    obtain ⟨j1, j2, j3, j4, j5, j6, j7⟩ := HI.out
    show Z = acc
    rw [j2]
    cases b with
    | zero => simp [crs]
    | succ b => simp [crs, hp]
   have HF : Hid (∃ ao' cap', (Ending.returned (.slice ao acc.length cap)) = .returned (.slice ao' Z.length cap') ∧ Hid (StAt w1 w.heap.size (.slice ao' Z.length cap') Z ∧ Below w.heap.size w w1)) := by
    rw [HE.out]
    obtain ⟨j1, j2, j3, j4, j5, j6, j7⟩ := HI.out
    exact ⟨ao, cap, rfl, owns_lower j6 (Nat.le_succ _), j7⟩
   clear HI HE
   go_wp2
   go_ret
   exact HF.out
end Go.Proofs.YtenjollhlgjjdaaGreatDoor
