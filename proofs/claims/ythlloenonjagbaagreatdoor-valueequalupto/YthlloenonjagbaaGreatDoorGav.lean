/- value.Text of the number 7. ValueEqual: the law's walk. -/
import Derived.Test.YthlloenonjagbaaGreatDoorGau
import Derived.Test.YthlloenonjagbaaGreatDoorGar
import Derived.Test.YthlloenonjagbaaGreatDoorGat
namespace Go.Proofs.YthlloenonjagbaaGreatDoor
open Go.RowKit Go.Lib
set_option linter.unusedSimpArgs false
set_option linter.unusedVariables false
set_option maxRecDepth 100000 in
theorem add7 (w : World) : Calls Tryz.prog 37 #[.slice none 0 0, i7] w fun e w' => ∃ g c : Nat, e = .returned (.slice (some ⟨g, 0, none⟩) 1 c) ∧ w'.cell? ⟨g, 0, none⟩ = some (.string ⟨#[55]⟩) ∧ Only (fun _ => False) w w' := by
  have HV : Hid (∀ w1, Calls Tryz.prog 58 #[p7] w1 fun e w' => e = .returned (.string ⟨#[55]⟩) ∧ Only (fun _ => False) w1 w') := word7
  have hl := va_miss 59 80 27 _ Tryz.underlying80 (by intro m h; cases h) (by decide) (.agg #[.slice none 0 0]) (fun _ => rfl)
  have hq := va_miss 59 82 27 _ Tryz.underlying82 (by intro m h; cases h) (by decide) (.agg #[.slice none 0 0]) (fun _ => rfl)
  have hx := va_miss 59 84 27 _ Tryz.underlying84 (by intro m h; cases h) (by decide) (.agg #[.int .i64 0]) (fun _ => rfl)
  go_enter Tryz.func37, Tryz.ntmps37
  go_wp2_with fail
  refine (show Calls Tryz.prog 58 _ _ _ from HV.out _).mono ?_
  rintro e w1 ⟨rfl, o1⟩
  have O1 : Hid (Only (fun _ => False) w w1) := ((((Only.refl (fun _ => False) w).alloc _).alloc _).alloc _).trans o1 (fun _ _ g => g)
  clear HV o1 hl hq hx
  go_wp2
  go_ret
  refine ⟨_, _, rfl, ?_, ?_⟩
  · refine (wr_cell (va_at (w1.alloc (.cells #[.string ⟨#[55]⟩] 9)) _ _ (Array.size_push ..).symm) 0).trans ?_
    rw [Array.getElem?_append_left (by simp)]
    rfl
  · have o := (O1.out.alloc (.cells #[.string ⟨#[55]⟩] 9)).alloc (.cells (#[.string ⟨#[55]⟩] ++ Builtin.zeroCells #[.string ⟨#[]⟩] ((Question.appendCap 1 0 9).cut (w1.tape w1.drawn (Question.appendCap 1 0 9)) - 1)) 9)
    exact ⟨o.os, o.tape, o.output, o.size, o.block⟩
set_option maxRecDepth 100000 in
theorem joined1 (w : World) (g c : Nat) (s : ByteArray) (hg : w.cell? ⟨g, 0, none⟩ = some (.string s)) : Calls Tryz.prog 36 #[.slice (some ⟨g, 0, none⟩) 1 c, .string ⟨#[32]⟩] w fun e w' => e = .returned (.string s) ∧ w' = w := by
  go_enter Tryz.func36, Tryz.ntmps36
  go_wp2
  go_ret
  exact ⟨rfl, rfl⟩
set_option maxRecDepth 100000 in
theorem vtext7 (w : World) : Calls Tryz.prog 15 #[i7] w fun e w' => e = .returned (.tuple #[.string ⟨#[55]⟩, .int .i64 0]) ∧ Only (fun _ => False) w w' := by
  have HC : Hid (∀ w1, Calls Tryz.prog 12 #[i7] w1 fun e w' => e = .returned (.int .i64 0) ∧ Only (fun _ => False) w1 w') := check7
  have HA : Hid (∀ w1, Calls Tryz.prog 37 #[.slice none 0 0, i7] w1 fun e w' => ∃ g c : Nat, e = .returned (.slice (some ⟨g, 0, none⟩) 1 c) ∧ w'.cell? ⟨g, 0, none⟩ = some (.string ⟨#[55]⟩) ∧ Only (fun _ => False) w1 w') := add7
  have HJ : Hid (∀ w1 g c s, w1.cell? ⟨g, 0, none⟩ = some (.string s) → Calls Tryz.prog 36 #[.slice (some ⟨g, 0, none⟩) 1 c, .string ⟨#[32]⟩] w1 fun e w' => e = .returned (.string s) ∧ w' = w1) := joined1
  go_enter Tryz.func15, Tryz.ntmps15
  go_wp2_with fail
  refine (show Calls Tryz.prog 12 _ _ _ from HC.out _).mono ?_
  rintro e w1 ⟨rfl, o1⟩
  have O1 : Hid (Only (fun _ => False) w w1) := o1
  clear HC o1
  go_wp2_with fail
  refine (show Calls Tryz.prog 37 _ _ _ from HA.out _).mono ?_
  rintro e w2 ⟨g, c, rfl, hg, o2⟩
  have O2 : Hid (Only (fun _ => False) w w2) := O1.out.trans o2 (fun _ _ g => g)
  have HG : Hid (w2.cell? ⟨g, 0, none⟩ = some (.string ⟨#[55]⟩)) := hg
  clear HA o2 hg O1
  go_wp2_with fail
  refine (show Calls Tryz.prog 36 _ _ _ from HJ.out _ _ _ _ HG.out).mono ?_
  rintro e w3 ⟨rfl, rfl⟩
  clear HJ HG
  go_wp2
  go_ret2
  exact ⟨rfl, O2.out⟩
set_option maxRecDepth 100000 in
theorem vawake (w : World) : Calls Tryz.prog 8 #[] w fun e w' => e = .returned (.bool true) ∧ Only (fun _ => False) w w' := by
  have HT : Hid (∀ w1, Calls Tryz.prog 15 #[i7] w1 fun e w' => e = .returned (.tuple #[.string ⟨#[55]⟩, .int .i64 0]) ∧ Only (fun _ => False) w1 w') := vtext7
  go_enter Tryz.func8, Tryz.ntmps8
  go_wp2_with fail
  refine (show Calls Tryz.prog 15 _ _ _ from HT.out _).mono ?_
  rintro e w1 ⟨rfl, o1⟩
  have O1 : Hid (Only (fun _ => False) w w1) := o1
  clear HT o1
  go_wp2
  all_goals
    go_ret
    exact ⟨rfl, O1.out⟩
end Go.Proofs.YthlloenonjagbaaGreatDoor
namespace Go.Proofs.YthlloenonjagbaaGreatDoor
open Go.RowKit Go.Lib
set_option linter.unusedSimpArgs false
set_option linter.unusedVariables false
theorem nm_sm : ∀ (d : Nat) (i : Bool) (t : Vt), SmT d t → SmT d (nm d i t)
  | 0, _, _, h => h.elim
  | d + 1, i, t, h => by
    obtain ⟨k, n, s, l⟩ := t
    obtain ⟨h1, h2, h3, h4, h5⟩ := h
    dsimp only at h1 h2 h3 h4 h5
    have z : ∀ m : Int, m ∈ [0, 1, 2, 3, 4, 5, 6, 7, 8] → (-9223372036854775808 : Int) ≤ m ∧ m ≤ 9223372036854775807 := fun m hm => by
      simp only [List.mem_cons, List.not_mem_nil, or_false] at hm
      omega
    have e0 : (⟨#[]⟩ : ByteArray).size ≤ 1048576 := Nat.zero_le _
    unfold nm
    dsimp only
    split
    · exact ⟨e0, Nat.zero_le _, z 1 (by simp), h4, fun x hx => by cases hx⟩
    split
    · exact ⟨h1, Nat.zero_le _, z 2 (by simp), z 0 (by simp), fun x hx => by cases hx⟩
    split
    · refine ⟨e0, Nat.zero_le _, z 3 (by simp), ?_, fun x hx => by cases hx⟩
      dsimp only
      split
      · exact z 1 (by simp)
      · exact z 0 (by simp)
    split
    · refine ⟨e0, by simpa using h2, z 4 (by simp), z 0 (by simp), fun x hx => ?_⟩
      obtain ⟨y, hy, rfl⟩ := List.mem_map.1 hx
      exact nm_sm d false y (h5 y hy)
    split
    · refine ⟨e0, by simpa using h2, z 5 (by simp), z 0 (by simp), fun x hx => ?_⟩
      obtain ⟨y, hy, rfl⟩ := List.mem_map.1 hx
      exact nm_sm d true y (h5 y hy)
    split
    · exact ⟨e0, Nat.zero_le _, z 6 (by simp), h4, fun x hx => by cases hx⟩
    split
    · exact ⟨h1, Nat.zero_le _, z 7 (by simp), z 0 (by simp), fun x hx => by cases hx⟩
    · exact ⟨e0, Nat.zero_le _, z 8 (by simp), z 0 (by simp), fun x hx => by cases hx⟩
theorem LfT.mono : ∀ {d d' : Nat} {t : Vt}, d ≤ d' → LfT d t → LfT d' t
  | 0, _, _, _, h => h.elim
  | d + 1, 0, t, hd, h => by omega
  | d + 1, e + 1, t, hd, h => ⟨h.1, fun x hx => (h.2 x hx).mono (by omega)⟩
/-- what a tree that came in has become as a value x, since block B: its own blocks, and what is known of its tree -/
def Vx (w : World) (B d : Nat) (t : Vt) (x : Value) : Prop := NiAt w B (2 * d + 1) false (nm d false t) x
theorem Vx.only {w w' : World} {B d : Nat} {t : Vt} {x : Value} {bs : Nat → Prop} (h : Vx w B d t x) (o : Only bs w w') (hb : ∀ b, B ≤ b → ¬ bs b) : Vx w' B d t x := NiAt.only h o hb
theorem value_calls {a : Vt} {va : Value} {d : Nat} {w : World} (ha : VsAt w (fun _ => True) d a.l va) (sa : SmT d a) : ∀ w1, Only (fun _ => False) w w1 → Calls Tryz.prog 9 #[.agg #[.int .i64 a.k, .int .i64 a.n, .string a.s, va]] w1 fun e w' => ∃ v, e = .returned v ∧ Hid (Vx w' w1.heap.size d a v ∧ Only (fun _ => False) w1 w') := fun w1 o1 => value_all d a va w1 _ (ha.only o1) sa
theorem tree_calls {a : Vt} {x : Value} {d B : Nat} {w : World} (h : Vx w B d a x) (sa : SmT d a) : ∀ w1, (∃ bs : Nat → Prop, Only bs w w1 ∧ ∀ b, B ≤ b → ¬ bs b) → Calls Tryz.prog 10 #[x] w1 fun e w' => ∃ lv, e = .returned (.agg #[.int .i64 (nm d false a).k, .int .i64 (nm d false a).n, .string (nm d false a).s, lv]) ∧ Hid ((∃ ao cap, lv = .slice ao (nm d false a).l.length cap) ∧ NuAt w' w1.heap.size (2 * d + 1) (nm d false a) lv ∧ Only (fun _ => False) w1 w') := fun w1 ⟨bs, o1, hb⟩ => by
  obtain ⟨S, h1, h2⟩ := h.only o1 hb
  refine ((utrees_any (2 * d + 2) (2 * d + 1) (by omega)).1 x (nm d false a) w1 S h1 ⟨d, nm_nf d false a sa⟩).mono fun e w' g => ?_
  obtain ⟨lv, he, g⟩ := g
  exact ⟨lv, he, g.out.1.form, g.out⟩
/-- how the answers of Equal, Sound, Same of two trees hang together -/
theorem eq_pure {d : Nat} {a b : Vt} (sa : SmT d a) (sb : SmT d b) :
    sdB (2 * (2 * d + 1) + 1) (nm d false a) = dsB (2 * d + 1) (nm d false a) ∧ sdB (2 * (2 * d + 1) + 1) (nm d false b) = dsB (2 * d + 1) (nm d false b) ∧
    (dsB (2 * d + 1) (nm d false a) = true → smV (2 * (2 * d + 1) + 1) false (nm d false a) (nm d false b) = saV (2 * d + 1) (nm d false a) (nm d false b)) := by
  have la : LfT (2 * d + 1) (nm d false a) := (nm_lf d false a sa).mono (by omega)
  have lb : LfT (2 * d + 1) (nm d false b) := (nm_lf d false b sb).mono (by omega)
  have e1 := ds_sd la (Nat.le_refl (2 * (2 * d + 1) + 1))
  refine ⟨e1, ds_sd lb (Nat.le_refl _), fun h => ?_⟩
  refine sm_sa (2 * d + 1) _ _ la lb false _ (by simp) ?_
  rw [← e1] at h
  unfold sdB msB at h
  simp only [Bool.and_eq_true] at h
  rw [← (ok_eq (2 * d + 1) _ la false (2 * (2 * d + 1) + 1) (by simp)).1]
  exact h.1.1
set_option maxRecDepth 100000 in
set_option maxHeartbeats 8000000 in
theorem veq_walk {a b : Vt} {va vb : Value} {d : Nat} {w : World} (ha : VsAt w (fun _ => True) d a.l va) (hb : VsAt w (fun _ => True) d b.l vb) (sa : SmT d a) (sb : SmT d b) (hT : Tb w) :
    Calls Tryz.prog 4 #[vV a.k a.n a.s va, vV b.k b.n b.s vb] w fun e w' => e = .returned (.bool true) ∧ Only (fun _ => False) w w' := by
  have HA : Hid (∀ w1, Calls Tryz.prog 8 #[] w1 fun e w' => e = .returned (.bool true) ∧ Only (fun _ => False) w1 w') := vawake
  have HVa : Hid _ := value_calls ha sa
  have HVb : Hid _ := value_calls hb sb
  have HPu : Hid _ := eq_pure sa sb
  have HT : Hid (Tb w ∧ SmT d a ∧ SmT d b) := ⟨hT, sa, sb⟩
  obtain ⟨a1, c1, rfl⟩ := ha.form
  obtain ⟨a2, c2, rfl⟩ := hb.form
  have O0 : Hid (Only (fun _ => False) w w) := Only.refl _ _
  clear ha hb sa sb hT
  unfold vV
  obtain ⟨ka, hka⟩ : ∃ k, k = a.k := ⟨_, rfl⟩
  obtain ⟨na, hna⟩ : ∃ k, k = a.n := ⟨_, rfl⟩
  obtain ⟨ta, hta⟩ : ∃ k, k = a.s := ⟨_, rfl⟩
  obtain ⟨La, hLa⟩ : ∃ k, k = a.l.length := ⟨_, rfl⟩
  obtain ⟨kb, hkb⟩ : ∃ k, k = b.k := ⟨_, rfl⟩
  obtain ⟨nb, hnb⟩ : ∃ k, k = b.n := ⟨_, rfl⟩
  obtain ⟨tb, htb⟩ : ∃ k, k = b.s := ⟨_, rfl⟩
  obtain ⟨Lb, hLb⟩ : ∃ k, k = b.l.length := ⟨_, rfl⟩
  rw [← hka, ← hna, ← hta, ← hLa] at HVa
  rw [← hkb, ← hnb, ← htb, ← hLb] at HVb
  rw [← hka, ← hna, ← hta, ← hLa, ← hkb, ← hnb, ← htb, ← hLb]
  clear hka hna hta hLa hkb hnb htb hLb
  go_enter Tryz.func4, Tryz.ntmps4
  go_wp2_with fail
  refine (show Calls Tryz.prog 8 _ _ _ from HA.out _).mono ?_
  rintro e w1 ⟨rfl, o1⟩
  have RA : w1.heap[w.heap.size]? = some (.cells #[.int .i64 ka, .int .i64 na, .string ta, .slice a1 La c1] 24) := (o1.block w.heap.size (by simp; omega) (fun h => h)).trans (((((Only.refl (fun _ => False) (w.alloc (.cells #[.int .i64 ka, .int .i64 na, .string ta, .slice a1 La c1] 24)))).alloc _).block w.heap.size (by simp) (fun h => h)).trans (valloc_at _ _ _ rfl))
  have RB : w1.heap[w.heap.size + 1]? = some (.cells #[.int .i64 kb, .int .i64 nb, .string tb, .slice a2 Lb c2] 24) := (o1.block (w.heap.size + 1) (by simp) (fun h => h)).trans (valloc_at _ _ _ (by simp))
  have OW : Hid (Only (fun _ => False) w w1) := ((O0.out.alloc _).alloc _).trans o1 (fun _ _ g => g)
  have hsz : w.heap.size + 1 < w1.heap.size := (Array.getElem?_eq_some_iff.1 RB).1
  clear HA O0 o1
  obtain ⟨BA, hBA⟩ : ∃ B, B = w.heap.size := ⟨_, rfl⟩
  rw [← hBA] at RA RB hsz ⊢
  have HB : Hid (BA = w.heap.size ∧ BA + 1 < w1.heap.size) := ⟨hBA, hsz⟩
  clear hBA hsz
  have HRA : Hid (∀ w2, Only (fun _ => False) w1 w2 → w2.heap[BA]? = some (.cells #[.int .i64 ka, .int .i64 na, .string ta, .slice a1 La c1] 24) ∧ w2.heap[BA + 1]? = some (.cells #[.int .i64 kb, .int .i64 nb, .string tb, .slice a2 Lb c2] 24)) := fun w2 o => ⟨(o.block BA (by have := HB.out; omega) (fun h => h)).trans RA, (o.block (BA + 1) (by have := HB.out; omega) (fun h => h)).trans RB⟩
  have HS : Hid (∀ w2, Only (fun _ => False) w1 w2 → (w2.cell? ⟨BA, 0, none⟩ = some (.int .i64 ka) ∧ w2.cell? ⟨BA, 1, none⟩ = some (.int .i64 na) ∧ w2.cell? ⟨BA, 2, none⟩ = some (.string ta) ∧ w2.cell? ⟨BA, 3, none⟩ = some (.slice a1 La c1)) ∧ (w2.cell? ⟨BA + 1, 0, none⟩ = some (.int .i64 kb) ∧ w2.cell? ⟨BA + 1, 1, none⟩ = some (.int .i64 nb) ∧ w2.cell? ⟨BA + 1, 2, none⟩ = some (.string tb) ∧ w2.cell? ⟨BA + 1, 3, none⟩ = some (.slice a2 Lb c2))) := fun w2 o => by
    obtain ⟨r1, r2⟩ := HRA.out w2 o
    exact ⟨⟨vblk_cells r1 0, vblk_cells r1 1, vblk_cells r1 2, vblk_cells r1 3⟩, vblk_cells r2 0, vblk_cells r2 1, vblk_cells r2 2, vblk_cells r2 3⟩
  clear RA RB
  have OR : Hid (Only (fun _ => False) w1 w1) := Only.refl _ _
  go_wp2_with fail
  go_region_held3 (fun w2 => (w2.cell? ⟨BA, 0, none⟩ = some (.int .i64 ka) ∧ w2.cell? ⟨BA, 1, none⟩ = some (.int .i64 na) ∧ w2.cell? ⟨BA, 2, none⟩ = some (.string ta) ∧ w2.cell? ⟨BA, 3, none⟩ = some (.slice a1 La c1)) ∧ (w2.cell? ⟨BA + 1, 0, none⟩ = some (.int .i64 kb) ∧ w2.cell? ⟨BA + 1, 1, none⟩ = some (.int .i64 nb) ∧ w2.cell? ⟨BA + 1, 2, none⟩ = some (.string tb) ∧ w2.cell? ⟨BA + 1, 3, none⟩ = some (.slice a2 Lb c2)))
    (first
      | with_reducible exact HS.out _ OR.out.drew
      | with_reducible exact HS.out _ O2.out
      | with_reducible exact HS.out _ O3.out)
    (first
      | (go_at_call 9; have o9 := O2.out; refine (show Calls Tryz.prog 9 _ _ _ from HVb.out _ (OW.out.trans O2.out (fun _ _ g => g))).mono ?_; rintro ex w3 ⟨y, rfl, G3⟩; have O3 : Hid (Only (fun _ => False) w1 w3) := O2.out.trans G3.out.2 (fun _ _ g => g))
      | (go_at_call 9; refine (show Calls Tryz.prog 9 _ _ _ from HVa.out _ OW.out.drew).mono ?_; rintro ex w2 ⟨x, rfl, G2⟩; have O2 : Hid (Only (fun _ => False) w1 w2) := OR.out.drew.trans G2.out.2 (fun _ _ g => g)))
  obtain ⟨A, hA⟩ : ∃ A, A = nm d false a := ⟨_, rfl⟩
  obtain ⟨Z, hZ⟩ : ∃ Z, Z = nm d false b := ⟨_, rfl⟩
  obtain ⟨C, hC⟩ : ∃ C, C = w1.heap.size := ⟨_, rfl⟩
  have HW : Hid (Only (fun _ => False) w w3 ∧ BA = w.heap.size ∧ BA + 1 < C ∧ C ≤ w3.heap.size) := ⟨OW.out.trans O3.out (fun _ _ g => g), HB.out.1, by rw [hC]; exact HB.out.2, by rw [hC]; exact O3.out.size⟩
  have vx : Vx w3 C d a x := by
    have h2 := G2.out.1.only G3.out.2 (fun _ _ g => g)
    exact NiAt.lower h2 (by rw [hC]; exact Nat.le_refl _)
  have vy : Vx w3 C d b y := NiAt.lower G3.out.1 (by rw [hC]; exact O2.out.size)
  obtain ⟨kA, hkA⟩ : ∃ k, k = A.k := ⟨_, rfl⟩
  obtain ⟨nA, hnA⟩ : ∃ k, k = A.n := ⟨_, rfl⟩
  obtain ⟨tA, htA⟩ : ∃ k, k = A.s := ⟨_, rfl⟩
  obtain ⟨lA, hlA⟩ : ∃ k, k = A.l.length := ⟨_, rfl⟩
  obtain ⟨kZ, hkZ⟩ : ∃ k, k = Z.k := ⟨_, rfl⟩
  obtain ⟨nZ, hnZ⟩ : ∃ k, k = Z.n := ⟨_, rfl⟩
  obtain ⟨tZ, htZ⟩ : ∃ k, k = Z.s := ⟨_, rfl⟩
  obtain ⟨lZ, hlZ⟩ : ∃ k, k = Z.l.length := ⟨_, rfl⟩
  have HTa : Hid (∀ v, Only (fun _ => False) w3 v → Calls Tryz.prog 10 #[x] v fun e w' => ∃ lv, e = .returned (.agg #[.int .i64 kA, .int .i64 nA, .string tA, lv]) ∧ Hid ((∃ ao cap, lv = .slice ao lA cap) ∧ NuAt w' v.heap.size (2 * d + 1) A lv ∧ Only (fun _ => False) v w')) := fun v o => by
    rw [hkA, hnA, htA, hlA, hA]
    exact tree_calls vx HT.out.2.1 v ⟨_, o, fun _ _ g => g⟩
  have HTb : Hid (∀ v, Only (fun _ => False) w3 v → Calls Tryz.prog 10 #[y] v fun e w' => ∃ lv, e = .returned (.agg #[.int .i64 kZ, .int .i64 nZ, .string tZ, lv]) ∧ Hid ((∃ ao cap, lv = .slice ao lZ cap) ∧ NuAt w' v.heap.size (2 * d + 1) Z lv ∧ Only (fun _ => False) v w')) := fun v o => by
    rw [hkZ, hnZ, htZ, hlZ, hZ]
    exact tree_calls vy HT.out.2.2 v ⟨_, o, fun _ _ g => g⟩
  obtain ⟨p, hp⟩ : ∃ p, p = dsB (2 * d + 1) A := ⟨_, rfl⟩
  obtain ⟨q, hq⟩ : ∃ q, q = dsB (2 * d + 1) Z := ⟨_, rfl⟩
  obtain ⟨r, hr⟩ : ∃ r, r = saV (2 * d + 1) A Z := ⟨_, rfl⟩
  obtain ⟨E, hE⟩ : ∃ E : Int, E = if p && q then 0 else 1 := ⟨_, rfl⟩
  obtain ⟨F, hF⟩ : ∃ F, F = (p && q && r) := ⟨_, rfl⟩
  have HEF : Hid ((E = if p && q then 0 else 1) ∧ F = (p && q && r)) := ⟨hE, hF⟩
  have HEq : Hid (∀ v, Only (fun b => b = BA ∨ b = BA + 1) w3 v → Calls Tryz.prog 27 #[x, y] v fun e w' => e = .returned (.tuple #[.bool F, .int .i64 E]) ∧ Only (fun _ => False) v w') := fun v o => by
    rw [hE, hF]
    have hov : ∀ b, C ≤ b → ¬ (b = BA ∨ b = BA + 1) := fun b hb => by have := HW.out.2.2.1; omega
    obtain ⟨S1, t1, s1⟩ := vx.only o hov
    obtain ⟨S2, t2, s2⟩ := vy.only o hov
    have hTv : Tb v := HT.out.1.frame (HW.out.1.trans o (fun b hb g => by have := HW.out.2.1; omega))
    have h1 : TiAt v (fun b => S1 b ∨ S2 b) (2 * (2 * d + 1) + 1) false A x := by rw [hA]; exact t1.step (fun _ g => .inl g) (fun _ _ _ g => g) (by omega)
    have h2 : TiAt v (fun b => S1 b ∨ S2 b) (2 * (2 * d + 1) + 1) false Z y := by rw [hZ]; exact t2.step (fun _ g => .inr g) (fun _ _ _ g => g) (by omega)
    have key := vequal_any h1 h2 (fun b hb => by rcases hb with g | g; exact (s1 b g).2; exact (s2 b g).2) ⟨d, by rw [hA]; exact nm_sm d false a HT.out.2.1⟩ ⟨d, by rw [hZ]; exact nm_sm d false b HT.out.2.2⟩ hTv
    obtain ⟨e1, e2, e3⟩ := HPu.out
    rw [← hA, ← hZ] at e3
    rw [← hA] at e1
    rw [← hZ] at e2
    rw [e1, e2, ← hp, ← hq] at key
    rw [← hp, ← hr] at e3
    cases hpp : p with
    | false => rw [hpp] at key; exact key
    | true => rw [e3 hpp, hpp] at key; exact key
  have HQ : Hid (kA = A.k ∧ nA = A.n ∧ tA = A.s ∧ lA = A.l.length ∧ kZ = Z.k ∧ nZ = Z.n ∧ tZ = Z.s ∧ lZ = Z.l.length ∧ p = dsB (2 * d + 1) A ∧ q = dsB (2 * d + 1) Z ∧ r = saV (2 * d + 1) A Z ∧ (∃ e, SmT e A) ∧ ∃ e, SmT e Z) := ⟨hkA, hnA, htA, hlA, hkZ, hnZ, htZ, hlZ, hp, hq, hr, ⟨d, by rw [hA]; exact nm_sm d false a HT.out.2.1⟩, ⟨d, by rw [hZ]; exact nm_sm d false b HT.out.2.2⟩⟩
  have hRR := HRA.out w3 O3.out
  have HRR : Hid (w3.heap[BA]? = some (.cells #[.int .i64 ka, .int .i64 na, .string ta, .slice a1 La c1] 24) ∧ w3.heap[BA + 1]? = some (.cells #[.int .i64 kb, .int .i64 nb, .string tb, .slice a2 Lb c2] 24)) := hRR
  clear hE hF hA hZ hC hkA hnA htA hlA hkZ hnZ htZ hlZ hp hq hr vx vy hRR HRA HS OR OW HVa HVb HPu HT HB G2 G3 O2 O3
  go_wp2_with fail
  refine (show Calls Tryz.prog 10 _ _ _ from HTa.out _ (Only.refl _ _)).mono ?_
  rintro e w4 ⟨lv1, rfl, G4⟩
  obtain ⟨ax, cx, hlv1⟩ := G4.out.1
  subst hlv1
  have HG4 : Hid (NuAt w4 w3.heap.size (2 * d + 1) A (.slice ax lA cx) ∧ Only (fun _ => False) w3 w4) := G4.out.2
  clear HTa G4
  go_wp2_with fail
  refine (show Calls Tryz.prog 10 _ _ _ from HTb.out _ HG4.out.2).mono ?_
  rintro e w5 ⟨lv2, rfl, G5⟩
  obtain ⟨ay, cy, hlv2⟩ := G5.out.1
  subst hlv2
  have HG5 : Hid (NuAt w5 C (2 * d + 1) A (.slice ax lA cx) ∧ NuAt w5 C (2 * d + 1) Z (.slice ay lZ cy) ∧ Only (fun _ => False) w3 w5) := ⟨(HG4.out.1.only G5.out.2.2 (fun _ _ g => g)).lower HW.out.2.2.2, G5.out.2.1.lower (Nat.le_trans HW.out.2.2.2 HG4.out.2.size), HG4.out.2.trans G5.out.2.2 (fun _ _ g => g)⟩
  have HR5 : Hid (w5.heap[BA]? = some (.cells #[.int .i64 ka, .int .i64 na, .string ta, .slice a1 La c1] 24) ∧ w5.heap[BA + 1]? = some (.cells #[.int .i64 kb, .int .i64 nb, .string tb, .slice a2 Lb c2] 24)) := by
    have o := HG5.out.2.2
    have h := HW.out
    exact ⟨(o.block BA (by omega) (fun h => h)).trans HRR.out.1, (o.block (BA + 1) (by omega) (fun h => h)).trans HRR.out.2⟩
  clear HTb G5 HG4 HRR
  have r0 := HR5.out.1
  have r1 := HR5.out.2
  have ca0 := vblk_cells r0 0
  have ca1 := vblk_cells r0 1
  have ca2 := vblk_cells r0 2
  have ca3 := vblk_cells r0 3
  have cb0 := vblk_cells r1 0
  have cb1 := vblk_cells r1 1
  have cb2 := vblk_cells r1 2
  have cb3 := vblk_cells r1 3
  have za0 := blk_froz r0 0
  have za1 := blk_froz r0 1
  have za2 := blk_froz r0 2
  have za3 := blk_froz r0 3
  have zb0 := blk_froz r1 0
  have zb1 := blk_froz r1 1
  have zb2 := blk_froz r1 2
  have zb3 := blk_froz r1 3
  simp only [List.getElem?_toArray, List.getElem?_cons_zero, List.getElem?_cons_succ] at ca0 ca1 ca2 ca3 cb0 cb1 cb2 cb3
  clear r0 r1
  go_wp2_with fail
  obtain ⟨w6, hw6⟩ : ∃ v, v = ((((w5.setCell ⟨BA, 0, none⟩ (.int .i64 kA)).setCell ⟨BA, 1, none⟩ (.int .i64 nA)).setCell ⟨BA, 2, none⟩ (.string tA)).setCell ⟨BA, 3, none⟩ (.slice ax lA cx)) := ⟨_, rfl⟩
  obtain ⟨w7, hw7⟩ : ∃ v, v = ((((w6.setCell ⟨BA + 1, 0, none⟩ (.int .i64 kZ)).setCell ⟨BA + 1, 1, none⟩ (.int .i64 nZ)).setCell ⟨BA + 1, 2, none⟩ (.string tZ)).setCell ⟨BA + 1, 3, none⟩ (.slice ay lZ cy)) := ⟨_, rfl⟩
  rw [← hw6, ← hw7]
  have OB1 : Only (fun b => b = BA) w5 w6 := by rw [hw6]; exact uonly4 _ _ _ _
  have OB2 : Only (fun b => b = BA + 1) w6 w7 := by rw [hw7]; exact uonly4 _ _ _ _
  have OB : Only (fun b => b = BA ∨ b = BA + 1) w5 w7 := (OB1.mono (bs' := fun b => b = BA ∨ b = BA + 1) (fun _ _ h => .inl h)).trans OB2 (fun _ _ h => .inr h)
  have pA : (w7.cell? ⟨BA, 0, none⟩ = some (.int .i64 kA) ∧ w7.cell? ⟨BA, 1, none⟩ = some (.int .i64 nA) ∧ w7.cell? ⟨BA, 2, none⟩ = some (.string tA) ∧ w7.cell? ⟨BA, 3, none⟩ = some (.slice ax lA cx)) := by
    obtain ⟨p0, p1, p2, p3⟩ := set4 HR5.out.1 rfl (.int .i64 kA) (.int .i64 nA) (.string tA) (.slice ax lA cx)
    rw [← hw6] at p0 p1 p2 p3
    have ne : ¬ BA = BA + 1 := by omega
    exact ⟨OB2.cell p0 ne, OB2.cell p1 ne, OB2.cell p2 ne, OB2.cell p3 ne⟩
  have pZ : (w7.cell? ⟨BA + 1, 0, none⟩ = some (.int .i64 kZ) ∧ w7.cell? ⟨BA + 1, 1, none⟩ = some (.int .i64 nZ) ∧ w7.cell? ⟨BA + 1, 2, none⟩ = some (.string tZ) ∧ w7.cell? ⟨BA + 1, 3, none⟩ = some (.slice ay lZ cy)) := by
    have r1 := (OB1.block (BA + 1) (Array.getElem?_eq_some_iff.1 HR5.out.2).1 (fun h => by omega)).trans HR5.out.2
    obtain ⟨p0, p1, p2, p3⟩ := set4 r1 rfl (.int .i64 kZ) (.int .i64 nZ) (.string tZ) (.slice ay lZ cy)
    rw [← hw7] at p0 p1 p2 p3
    exact ⟨p0, p1, p2, p3⟩
  have HO7 : Hid (Only (fun b => b = BA ∨ b = BA + 1) w3 w7 ∧ Only (fun _ => False) w w7 ∧ NuAt w7 C (2 * d + 1) A (.slice ax lA cx) ∧ NuAt w7 C (2 * d + 1) Z (.slice ay lZ cy)) := by
    have h := HW.out
    have o37 : Only (fun b => b = BA ∨ b = BA + 1) w3 w7 := (HG5.out.2.2.mono (bs' := fun b => b = BA ∨ b = BA + 1) (fun _ _ h => h.elim)).trans OB (fun _ _ h => h)
    have hov : ∀ b, C ≤ b → ¬ (b = BA ∨ b = BA + 1) := fun b hb => by omega
    exact ⟨o37, h.1.trans o37 (fun b hb g => by omega), HG5.out.1.only OB hov, HG5.out.2.1.only OB hov⟩
  clear hw6 hw7 OB1 OB2 OB HR5 HG5 ca0 ca1 ca2 ca3 cb0 cb1 cb2 cb3 za0 za1 za2 za3 zb0 zb1 zb2 zb3
  refine (show Calls Tryz.prog 27 _ _ _ from HEq.out _ HO7.out.1).mono ?_
  rintro e w8 ⟨rfl, o8⟩
  have HSa : Hid (∀ v, Only (fun _ => False) w8 v → Calls Tryz.prog 11 #[.agg #[.int .i64 kA, .int .i64 nA, .string tA, .slice ax lA cx]] v fun e w' => e = .returned (.bool p) ∧ Only (fun _ => False) v w') := fun v o => by
    obtain ⟨q1, q2, q3, q4, q5, q6, q7, q8, q9, q10, q11, q12, q13⟩ := HQ.out
    obtain ⟨S, h1, _⟩ := (HO7.out.2.2.1.only o8 (fun _ _ g => g)).only o (fun _ _ g => g)
    rw [q9, q1, q2, q3]
    exact dsound_any h1 q12
  have HSb : Hid (∀ v, Only (fun _ => False) w8 v → Calls Tryz.prog 11 #[.agg #[.int .i64 kZ, .int .i64 nZ, .string tZ, .slice ay lZ cy]] v fun e w' => e = .returned (.bool q) ∧ Only (fun _ => False) v w') := fun v o => by
    obtain ⟨q1, q2, q3, q4, q5, q6, q7, q8, q9, q10, q11, q12, q13⟩ := HQ.out
    obtain ⟨S, h1, _⟩ := (HO7.out.2.2.2.only o8 (fun _ _ g => g)).only o (fun _ _ g => g)
    rw [q10, q5, q6, q7]
    exact dsound_any h1 q13
  have HSm : Hid (∀ v, Only (fun _ => False) w8 v → Calls Tryz.prog 24 #[.agg #[.int .i64 kA, .int .i64 nA, .string tA, .slice ax lA cx], .agg #[.int .i64 kZ, .int .i64 nZ, .string tZ, .slice ay lZ cy]] v fun e w' => e = .returned (.bool r) ∧ Only (fun _ => False) v w') := fun v o => by
    obtain ⟨q1, q2, q3, q4, q5, q6, q7, q8, q9, q10, q11, q12, q13⟩ := HQ.out
    obtain ⟨S, h1, _⟩ := (HO7.out.2.2.1.only o8 (fun _ _ g => g)).only o (fun _ _ g => g)
    obtain ⟨S', h2, _⟩ := (HO7.out.2.2.2.only o8 (fun _ _ g => g)).only o (fun _ _ g => g)
    rw [q11, q1, q2, q3, q5, q6, q7]
    exact (dsame_all (2 * d + 1)).2 A Z _ _ v S S' h1 h2 q12 q13
  have HC8 : Hid (∀ v, Only (fun _ => False) w8 v → (v.cell? ⟨BA, 0, none⟩ = some (.int .i64 kA) ∧ v.cell? ⟨BA, 1, none⟩ = some (.int .i64 nA) ∧ v.cell? ⟨BA, 2, none⟩ = some (.string tA) ∧ v.cell? ⟨BA, 3, none⟩ = some (.slice ax lA cx)) ∧ (v.cell? ⟨BA + 1, 0, none⟩ = some (.int .i64 kZ) ∧ v.cell? ⟨BA + 1, 1, none⟩ = some (.int .i64 nZ) ∧ v.cell? ⟨BA + 1, 2, none⟩ = some (.string tZ) ∧ v.cell? ⟨BA + 1, 3, none⟩ = some (.slice ay lZ cy))) := fun v o => by
    have oo := o8.trans o (fun _ _ g => g)
    have n : ¬ False := fun g => g
    exact ⟨⟨oo.cell pA.1 n, oo.cell pA.2.1 n, oo.cell pA.2.2.1 n, oo.cell pA.2.2.2 n⟩, oo.cell pZ.1 n, oo.cell pZ.2.1 n, oo.cell pZ.2.2.1 n, oo.cell pZ.2.2.2 n⟩
  have HO8 : Hid (Only (fun _ => False) w w8) := HO7.out.2.1.trans o8 (fun _ _ g => g)
  clear HEq HQ HO7 pA pZ o8 HW
  obtain ⟨⟨ca0, ca1, ca2, ca3⟩, cb0, cb1, cb2, cb3⟩ := HC8.out w8 (Only.refl _ _)
  go_wp2_with fail
  refine (show Calls Tryz.prog 11 _ _ _ from HSa.out _ (Only.refl _ _)).mono ?_
  rintro e w9 ⟨rfl, o9⟩
  clear ca0 ca1 ca2 ca3 cb0 cb1 cb2 cb3 HSa
  have HO9 : Hid (Only (fun _ => False) w8 w9) := o9
  obtain ⟨⟨ca0, ca1, ca2, ca3⟩, cb0, cb1, cb2, cb3⟩ := HC8.out w9 o9
  clear o9
  cases p with
  | false =>
    obtain ⟨rfl, rfl⟩ := HEF.out
    go_wp2
    go_ret
    exact ⟨rfl, HO8.out.trans HO9.out (fun _ _ g => g)⟩
  | true =>
    go_wp2_with fail
    refine (show Calls Tryz.prog 11 _ _ _ from HSb.out _ HO9.out).mono ?_
    rintro e w10 ⟨rfl, o10⟩
    clear ca0 ca1 ca2 ca3 cb0 cb1 cb2 cb3 HSb
    have HO10 : Hid (Only (fun _ => False) w8 w10) := HO9.out.trans o10 (fun _ _ g => g)
    obtain ⟨⟨ca0, ca1, ca2, ca3⟩, cb0, cb1, cb2, cb3⟩ := HC8.out w10 HO10.out
    clear o10 HO9
    cases q with
    | false =>
      obtain ⟨rfl, rfl⟩ := HEF.out
      go_wp2
      go_ret
      exact ⟨rfl, HO8.out.trans HO10.out (fun _ _ g => g)⟩
    | true =>
      obtain ⟨rfl, rfl⟩ := HEF.out
      go_wp2_with fail
      refine (show Calls Tryz.prog 24 _ _ _ from HSm.out _ HO10.out).mono ?_
      rintro e w11 ⟨rfl, o11⟩
      have HO11 : Hid (Only (fun _ => False) w w11) := (HO8.out.trans HO10.out (fun _ _ g => g)).trans o11 (fun _ _ g => g)
      clear ca0 ca1 ca2 ca3 cb0 cb1 cb2 cb3 HSm HC8 HO10 HO8 o11
      cases F with
      | false =>
        go_wp2
        go_ret
        exact ⟨rfl, HO11.out⟩
      | true =>
        go_wp2
        go_ret
        exact ⟨rfl, HO11.out⟩
end Go.Proofs.YthlloenonjagbaaGreatDoor
