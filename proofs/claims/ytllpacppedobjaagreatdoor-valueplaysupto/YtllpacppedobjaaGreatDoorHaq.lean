/- What ValuePlays wants of the calls it makes. ValuePlays: the law's walk. -/
import Derived.Test.YtllpacppedobjaaGreatDoorHan
import Derived.Test.YtllpacppedobjaaGreatDoorHao
import Derived.Test.YtllpacppedobjaaGreatDoorHap
namespace Go.Proofs.YtllpacppedobjaaGreatDoor
open Go.RowKit Go.Lib
set_option linter.unusedSimpArgs false
set_option linter.unusedVariables false
theorem dsv_up {d : Nat} {t : Vt} (h : LfT d t) (e : Nat) (he : d ≤ e) : dsB e t = dsB d t := by
  have h1 := ds_sd (h.mono he) (Nat.le_refl (2 * e + 1))
  have h2 := ds_sd h (show 2 * d + 1 ≤ 2 * e + 1 by omega)
  rw [← h1, h2]
/-- what depth and bound one and the same tree is looked at with does not matter -/
theorem up_ok {d : Nat} {t : Vt} (h : LfT d t) (e : Nat) (he : d ≤ e) (i : Bool) : okD e i t = okD d i t ∧ szD e t = szD d t ∧ dpD e t = dpD d t := by
  have h1 := ok_eq e t (h.mono he) i (2 * e + 2) (by split <;> omega)
  have h2 := ok_eq d t h i (2 * e + 2) (by split <;> omega)
  exact ⟨h1.1.symm.trans h2.1, h1.2.1.symm.trans h2.2.1, h1.2.2.symm.trans h2.2.2⟩
theorem up_td {d : Nat} {t : Vt} (h : LfT d t) (e : Nat) (he : d ≤ e) (hok : okD d false t = true) : tdD e t = tdD d t := by
  have h1 := td_join e t (h.mono he) false (2 * e + 1) (by simp) (by rw [(up_ok h e he false).1]; exact hok)
  have h2 := td_join d t h false (2 * e + 1) (by simp; omega) hok
  exact h1.symm.trans h2
theorem up_rb {d : Nat} {t : Vt} (h : LfT d t) (e : Nat) (he : d ≤ e) : rbL e t = rbL d t := by
  have h1 := rb_eq e t (h.mono he) false (2 * e + 1) (by simp)
  have h2 := rb_eq d t h false (2 * e + 1) (by simp; omega)
  exact h1.symm.trans h2
/-- all that a sound tree's document says, in the program's words -/
theorem sound_is {d : Nat} {t : Vt} (h : LfT d t) (hZ : sdB (2 * d + 1) t = true) :
    okD (2 * d + 1) false t = true ∧ (mz (2 * d + 1) t 1024 0).1 = (sz (2 * d + 1) false t : Int) ∧ (mz (2 * d + 1) t 1024 0).2.1 = (dp (2 * d + 1) false t : Int) ∧ (⟨(tdD (2 * d + 1) t).toArray⟩ : ByteArray) = txtV (2 * d + 1) t ∧ (tdD (2 * d + 1) t).length ≤ 100000000 ∧ rbL (2 * d + 1) t = bxL (2 * d + 1) false t ∧ (rbL (2 * d + 1) t).length ≤ 1024 := by
  have he : d ≤ 2 * d + 1 := by omega
  have h1 := ok_eq d t h false (2 * d + 1) (by simp)
  have hu := up_ok h (2 * d + 1) he false
  have hs := sd_bx hZ
  have hok : okD d false t = true := by rw [← h1.1]; exact hs.1
  have hmz : (mz (2 * d + 1) t 1024 0).2.2 = true := by
    have h2 := ds_sd h (Nat.le_refl (2 * d + 1))
    have h3 := dsv_up h (2 * d + 1) he
    rw [hZ] at h2
    rw [← h2] at h3
    unfold dsB at h3
    simp only [Bool.and_eq_true] at h3
    exact h3.1
  have hm := mz_spec (2 * d + 1) t 0 (h.mono he) (Int.le_refl _) 1024
  dsimp only at hm
  have hm1 := (hm.1.1 hmz)
  have hm2 := hm.2 hmz
  have hr := rb_eq d t h false (2 * d + 1) (by simp)
  have hr2 := up_rb h (2 * d + 1) he
  refine ⟨by rw [hu.1]; exact hok, ?_, ?_, ?_, ?_, ?_, ?_⟩
  · rw [hm2.1, hu.2.1, h1.2.1]
  · rw [hm2.2, hu.2.2, h1.2.2]
  · unfold txtV
    rw [td_join d t h false (2 * d + 1) (by simp) hok, up_td h (2 * d + 1) he hok]
  · have hl := td_len (2 * d + 1) t false (by rw [hu.1]; exact hok)
    have := hm1.2.1
    omega
  · rw [hr, hr2]
  · rw [hr2, ← hr]; exact hs.2
/-- Sound, Measure, Told, Boxes of the tree of a value -/
theorem vp_sound {a : Vt} {d B : Nat} {w : World} {lv : Value} (h : NuAt w B (2 * d + 1) (nm d false a) lv) (sa : SmT d a) : ∀ w1, Only (fun _ => False) w w1 → Calls Tryz.prog 8 #[vV (nm d false a).k (nm d false a).n (nm d false a).s lv] w1 fun e w' => e = .returned (.bool (sdB (2 * d + 1) (nm d false a))) ∧ Only (fun _ => False) w1 w' := fun w1 o => by
  obtain ⟨S, h1, _⟩ := h
  have := dsound_any (h1.only o) ⟨d, nm_sm d false a sa⟩
  rw [dsv_up (nm_lf d false a sa) (2 * d + 1) (by omega), ← ds_sd (nm_lf d false a sa) (Nat.le_refl _)] at this
  exact this
theorem vp_measure {a : Vt} {d B : Nat} {w : World} {lv : Value} (h : NuAt w B (2 * d + 1) (nm d false a) lv) (sa : SmT d a) (hZ : sdB (2 * d + 1) (nm d false a) = true) : ∀ w1, Only (fun _ => False) w w1 → Calls Tryz.prog 19 #[vV (nm d false a).k (nm d false a).n (nm d false a).s lv, .int .i64 1024, .int .i64 0] w1 fun e w' => ∃ b, e = .returned (.tuple #[.int .i64 (sz (2 * d + 1) false (nm d false a) : Int), .int .i64 (dp (2 * d + 1) false (nm d false a) : Int), .bool b]) ∧ Only (fun _ => False) w1 w' := fun w1 o => by
  obtain ⟨S, h1, _⟩ := h
  have hs := sound_is (nm_lf d false a sa) hZ
  refine (dz_any (2 * d + 1) (nm d false a) lv w1 S 1024 0 (h1.only o) ⟨d, nm_sm d false a sa⟩ (by decide) (by decide) (by decide) (by decide)).mono fun e w' g => ?_
  obtain ⟨g1, g2⟩ := g
  refine ⟨(mz (2 * d + 1) (nm d false a) 1024 0).2.2, ?_, g2⟩
  rw [g1, hs.2.1, hs.2.2.1]
theorem vp_told {a : Vt} {d B : Nat} {w : World} {lv : Value} (h : NuAt w B (2 * d + 1) (nm d false a) lv) (sa : SmT d a) (hZ : sdB (2 * d + 1) (nm d false a) = true) : ∀ w1, Only (fun _ => False) w w1 → Calls Tryz.prog 20 #[vV (nm d false a).k (nm d false a).n (nm d false a).s lv] w1 fun e w' => e = .returned (.string (txtV (2 * d + 1) (nm d false a))) ∧ Only (fun _ => False) w1 w' := fun w1 o => by
  obtain ⟨S, h1, _⟩ := h
  have hs := sound_is (nm_lf d false a sa) hZ
  have := told_all (2 * d + 1) (nm d false a) lv false w1 S (h1.only o) hs.1 ⟨d, nm_sm d false a sa⟩ hs.2.2.2.2.1
  rw [hs.2.2.2.1] at this
  exact this
theorem vp_boxes {a : Vt} {d B : Nat} {w : World} {lv : Value} (h : NuAt w B (2 * d + 1) (nm d false a) lv) (sa : SmT d a) (hZ : sdB (2 * d + 1) (nm d false a) = true) : ∀ w1, Only (fun _ => False) w w1 → Calls Tryz.prog 23 #[vV (nm d false a).k (nm d false a).n (nm d false a).s lv] w1 fun e w' => ∃ ao cap, e = .returned (.slice ao (zsV d a).length cap) ∧ Hid (BnAt w' w1.heap.size (.slice ao (zsV d a).length cap) (zsV d a) ∧ Only (fun _ => False) w1 w') := fun w1 o => by
  obtain ⟨S, h1, _⟩ := h
  have hs := sound_is (nm_lf d false a sa) hZ
  have hz : zsV d a = rbL (2 * d + 1) (nm d false a) := by
    unfold zsV
    rw [if_pos hZ, hs.2.2.2.2.2.1]
  rw [hz]
  refine (rb_all (2 * d + 1) (nm d false a) lv w1 S (h1.only o) ⟨d, nm_sm d false a sa⟩ (by have := hs.2.2.2.2.2.2; omega)).mono fun e w' g => ?_
  obtain ⟨ao, n, cap, he, g⟩ := g
  obtain ⟨ao', cap', h2⟩ := g.out.1.form
  cases h2
  exact ⟨ao, cap, he, g.out.1, g.out.2⟩
/-- Check, Size, Depth, Text, Copy of the value -/
theorem vp_check {a : Vt} {x : Value} {d B : Nat} {w : World} (h : XvAt w B d a x) (sa : SmT d a) (hT : Tb w) : ∀ w1, Only (fun _ => False) w w1 → Calls Tryz.prog 9 #[x] w1 fun e w' => e = .returned (.int .i64 (if sdB (2 * d + 1) (nm d false a) then 0 else 1)) ∧ Only (fun _ => False) w1 w' := fun w1 o1 => by
  obtain ⟨S, h1, h2⟩ := h
  exact vcheck_any (h1.only o1 (fun _ _ g => g)) (fun b hb => Nat.lt_of_lt_of_le (h2 b hb).2.1 o1.size) ⟨d, nm_sm d false a sa⟩ (hT.frame o1)
theorem vp_size {a : Vt} {x : Value} {d B : Nat} {w : World} (h : XvAt w B d a x) (sa : SmT d a) (hT : Tb w) : ∀ w1, Only (fun _ => False) w w1 → Calls Tryz.prog 10 #[x] w1 fun e w' => e = .returned (.tuple #[.int .i64 (if sdB (2 * d + 1) (nm d false a) then (sz (2 * d + 1) false (nm d false a) : Int) else 0), .int .i64 (if sdB (2 * d + 1) (nm d false a) then 0 else 1)]) ∧ Only (fun _ => False) w1 w' := fun w1 o1 => by
  obtain ⟨S, h1, h2⟩ := h
  exact vsize_any (h1.only o1 (fun _ _ g => g)) (fun b hb => Nat.lt_of_lt_of_le (h2 b hb).2.1 o1.size) ⟨d, nm_sm d false a sa⟩ (hT.frame o1)
theorem vp_depth {a : Vt} {x : Value} {d B : Nat} {w : World} (h : XvAt w B d a x) (sa : SmT d a) (hT : Tb w) : ∀ w1, Only (fun _ => False) w w1 → Calls Tryz.prog 11 #[x] w1 fun e w' => e = .returned (.tuple #[.int .i64 (if sdB (2 * d + 1) (nm d false a) then (dp (2 * d + 1) false (nm d false a) : Int) else 0), .int .i64 (if sdB (2 * d + 1) (nm d false a) then 0 else 1)]) ∧ Only (fun _ => False) w1 w' := fun w1 o1 => by
  obtain ⟨S, h1, h2⟩ := h
  exact vdepth_any (h1.only o1 (fun _ _ g => g)) (fun b hb => Nat.lt_of_lt_of_le (h2 b hb).2.1 o1.size) ⟨d, nm_sm d false a sa⟩ (hT.frame o1)
theorem vp_text {a : Vt} {x : Value} {d B : Nat} {w : World} (h : XvAt w B d a x) (sa : SmT d a) (hT : Tx w) : ∀ w1, Only (fun _ => False) w w1 → Calls Tryz.prog 12 #[x] w1 fun e w' => e = .returned (.tuple #[.string (if sdB (2 * d + 1) (nm d false a) then txtV (2 * d + 1) (nm d false a) else ⟨#[]⟩), .int .i64 (if sdB (2 * d + 1) (nm d false a) then 0 else 1)]) ∧ Only (fun _ => False) w1 w' := fun w1 o1 => by
  obtain ⟨S, h1, h2⟩ := h
  exact vtext_any (h1.only o1 (fun _ _ g => g)) (fun b hb => Nat.lt_of_lt_of_le (h2 b hb).2.1 o1.size) ⟨d, nm_sm d false a sa⟩ (hT.frame o1)
theorem vp_copy {a : Vt} {x : Value} {d B : Nat} {w : World} (h : XvAt w B d a x) (sa : SmT d a) (hT : Tb w) : ∀ w1, Only (fun _ => False) w w1 → Calls Tryz.prog 14 #[x] w1 fun e w' => ∃ c, e = .returned (.tuple #[c, .int .i64 (if sdB (2 * d + 1) (nm d false a) then 0 else 1)]) ∧ Hid ((sdB (2 * d + 1) (nm d false a) = true → XvAt w' w1.heap.size d a c) ∧ (sdB (2 * d + 1) (nm d false a) = false → c = .nilIface) ∧ Only (fun _ => False) w1 w') := fun w1 o1 => by
  obtain ⟨S, h1, h2⟩ := h
  refine (vcopy_any (h1.only o1 (fun _ _ g => g)) (fun b hb => Nat.lt_of_lt_of_le (h2 b hb).2.1 o1.size) ⟨d, nm_sm d false a sa⟩ (hT.frame o1)).mono fun e w' g => ?_
  obtain ⟨v', he, g1, g2, g3⟩ := g
  exact ⟨v', he, g1, g2, g3⟩
/-- items as a quotation -/
def qtV (l : List Vt) : Vt := ⟨5, 0, ⟨#[]⟩, l⟩
theorem RiAt.ql {w : World} {B d : Nat} {T : TypeId} {i : Bool} {ao : Option Addr} {n cap : Nat} {l : List Vt} (h : RiAt w B T d i (.slice ao n cap) l) : n = l.length ∧ ∃ S, QiAt w S d i (.slice ao n cap) l ∧ ∀ b, S b → B ≤ b ∧ b < w.heap.size := by
  obtain ⟨us, S, ho, ht, hS⟩ := h
  rcases ho.2 with ⟨h3, h4⟩ | ⟨g, cp, cur, hv, hB, hg, hn, hcm, hcs, htk⟩
  · cases h3
    refine ⟨h4.symm, fun _ => False, ⟨none, 0, by rw [h4], by omega, fun j x hx => ?_⟩, fun b hb => hb.elim⟩
    have := (List.getElem?_eq_some_iff.1 hx).1
    omega
  · cases hv
    refine ⟨rfl, fun b => S b ∨ b = g, ⟨_, _, rfl, hn, fun j x hx => ?_⟩, fun b hb => ?_⟩
    · obtain ⟨u, h1, h2⟩ := ht j x hx
      have hc := ho.cells (g := g) rfl j u h1
      rw [addr_ad] at hc
      exact ⟨g, 0, u, rfl, .inr rfl, by simpa using hc, h2.step (fun _ g => .inl g) (fun _ _ _ g => g) (Nat.le_refl _)⟩
    · rcases hb with hb | rfl
      · exact ⟨(hS b hb).1, (hS b hb).2.1.1⟩
      · exact ⟨hB, (Array.getElem?_eq_some_iff.1 hg).1⟩
theorem QiAt.tree {w : World} {S : Nat → Prop} {d : Nat} {l : List Vt} {v : Value} (h : QiAt w S d true v l) : TiAt w S (d + 1) false (qtV l) (.iface 73 (.agg #[v])) := by
  obtain ⟨ao, cap, rfl, hc, hq⟩ := h
  exact .inr (.inr (.inr (.inr (.inr ⟨.inr rfl, ao, cap, rfl, hc, fun i x hx => hq i x hx⟩))))
set_option maxRecDepth 100000 in
theorem vp_checkItems {w : World} {S : Nat → Prop} {d : Nat} {l : List Vt} {v : Value} (h : QiAt w S d true v l) (hsm : ∃ e, SmT e (qtV l)) (hS : ∀ b, S b → b < w.heap.size) (hT : Tb w) : Calls Tryz.prog 15 #[v] w fun e w' => e = .returned (.int .i64 (if sdB (d + 1) (qtV l) then 0 else 1)) ∧ Only (fun _ => False) w w' := by
  have HV : Hid _ := vcheck_any h.tree hS hsm hT
  obtain ⟨X, hX⟩ : ∃ X : Int, X = (if sdB (d + 1) (qtV l) then 0 else 1) := ⟨_, rfl⟩
  rw [← hX] at HV ⊢
  obtain ⟨ao, cap, rfl, _, _⟩ := h
  obtain ⟨L, hL⟩ : ∃ L, L = l.length := ⟨_, rfl⟩
  rw [← hL] at HV ⊢
  clear hsm hS hT hX hL
  go_enter Tryz.func15, Tryz.ntmps15
  go_wp2_with fail
  refine (show Calls Tryz.prog 9 _ _ _ from HV.out).mono ?_
  rintro e w1 ⟨rfl, o1⟩
  have O1 : Hid (Only (fun _ => False) w w1) := o1
  clear HV o1
  go_wp2
  go_ret
  exact ⟨rfl, O1.out⟩
set_option maxRecDepth 100000 in
theorem vp_soundItems {w : World} {S : Nat → Prop} {d : Nat} {l : List Vt} {v : Value} (h : VsAt w S (d + 1) l v) (hsm : ∃ e, SmT e (qtV l)) : Calls Tryz.prog 17 #[v] w fun e w' => e = .returned (.bool (dsB (d + 1) (qtV l))) ∧ Only (fun _ => False) w w' := by
  have HV : Hid (∀ w1, Only (fun _ => False) w w1 → _) := fun w1 o1 => dsound_any (t := qtV l) (h.only o1) hsm
  obtain ⟨ao, cap, rfl⟩ := h.form
  obtain ⟨X, hX⟩ : ∃ X : Bool, X = dsB (d + 1) (qtV l) := ⟨_, rfl⟩
  rw [← hX] at HV ⊢
  have O0 : Hid (Only (fun _ => False) w w) := Only.refl _ _
  obtain ⟨L, hL⟩ : ∃ L, L = l.length := ⟨_, rfl⟩
  rw [← hL] at HV ⊢
  have HV2 : Hid (∀ w1, Only (fun _ => False) w w1 → Calls Tryz.prog 8 #[.agg #[.int .i64 5, .int .i64 0, .string ⟨#[]⟩, .slice ao L cap]] w1 fun e w' => e = .returned (.bool X) ∧ Only (fun _ => False) w1 w') := HV
  clear h hsm hX hL HV
  go_enter Tryz.func17, Tryz.ntmps17
  go_wp2_with fail
  refine (show Calls Tryz.prog 8 _ _ _ from HV2.out _ (by first | exact O0.out | exact O0.out.alloc _)).mono ?_
  rintro e w1 ⟨rfl, o1⟩
  have O1 : Hid (Only (fun _ => False) w w1) := by first | exact O0.out.trans o1 (fun _ _ g => g) | exact (O0.out.alloc _).trans o1 (fun _ _ g => g)
  clear HV2 o1 O0
  go_wp2
  go_ret
  exact ⟨rfl, O1.out⟩
/-- two rows of the same numbers -/
theorem BnAt.get {w : World} {B : Nat} {ao : Option Addr} {n cap : Nat} {ns : List Int} (h : BnAt w B (.slice ao n cap) ns) (j : Nat) (hj : j < ns.length) : ∃ g, ao = some ⟨g, 0, none⟩ ∧ w.cell? ⟨g, j, none⟩ = some (.int .i64 (ns.getD j 0)) := by
  have h' : w.ownsRow B 3 1 (.slice ao n cap) ns.length (ns.map (Value.int .i64)) := h
  rcases h'.2 with ⟨h3, h4⟩ | ⟨g, cp, cur, hv, hB, hg, hn, hcm, hcs, htk⟩
  · omega
  · cases hv
    have hc := h'.cells (g := g) rfl j (.int .i64 (ns.getD j 0)) (by rw [List.getElem?_map, List.getElem?_eq_getElem hj]; simp [hj])
    rw [addr_ad] at hc
    exact ⟨g, rfl, by simpa using hc⟩
theorem vsame_ints (a1 a2 : Option Addr) (m c1 c2 : Nat) (f : Nat → Int) (w : World) (hm : m ≤ 1048576) (f1 : ∀ j, j < m → ∃ g, a1 = some ⟨g, 0, none⟩ ∧ w.cell? ⟨g, j, none⟩ = some (.int .i64 (f j))) (f2 : ∀ j, j < m → ∃ g, a2 = some ⟨g, 0, none⟩ ∧ w.cell? ⟨g, j, none⟩ = some (.int .i64 (f j))) :
    Calls Tryz.prog 22 #[.slice a1 m c1, .slice a2 m c2] w fun e w' => e = .returned (.bool true) ∧ Only (fun _ => False) w w' := by
  go_enter Tryz.func22, Tryz.ntmps22
  go_wp2
  go_loopw [5] (fun t wr => ∃ k : Nat, k ≤ m ∧ t = .int .i64 k ∧ Only (fun _ => False) w wr) (fun t _ => m - (vuOf t))
  case atStart => exact ⟨0, Nat.zero_le _, rfl, Only.refl _ _⟩
  case round =>
    obtain ⟨k, hk, rfl, ho⟩ := hrel
    by_cases hlt : k < m
    · obtain ⟨g1, rfl, x1⟩ := f1 k hlt
      obtain ⟨g2, rfl, x2⟩ := f2 k hlt
      have y1 := ho.cell x1 (fun e => e)
      have y2 := ho.cell x2 (fun e => e)
      have k0 : (0 : Int) ≤ (k : Int) := Int.natCast_nonneg _
      have k1 : (k : Int) < (m : Int) := by omega
      obtain ⟨z, hz⟩ : ∃ z, z = f k := ⟨_, rfl⟩
      rw [← hz] at y1 y2
      have HO : Hid (Only (fun _ => False) w wr) := ho
      clear f1 f2 x1 x2 ho hz
      go_wp2_with fail
      go_region_held3 (fun w' => w'.cell? ⟨g1, k, none⟩ = some (.int .i64 z) ∧ w'.cell? ⟨g2, k, none⟩ = some (.int .i64 z)) (go_keep) (fail)
      go_wp2
      go_roundw
      case rel => exact ⟨k + 1, by omega, by go_num, HO.out.drew⟩
      case measure => simp only [vuOf]; omega
    · obtain rfl : k = m := by omega
      clear f1 f2
      go_wp2
      go_ret
      exact ⟨rfl, ho⟩
theorem vp_ints {w : World} {B C : Nat} {a1 a2 : Option Addr} {c1 c2 : Nat} {zs : List Int} (h1 : BnAt w B (.slice a1 zs.length c1) zs) (h2 : BnAt w C (.slice a2 zs.length c2) zs) (hz : zs.length ≤ 1024) : Calls Tryz.prog 22 #[.slice a1 zs.length c1, .slice a2 zs.length c2] w fun e w' => e = .returned (.bool true) ∧ Only (fun _ => False) w w' :=
  vsame_ints a1 a2 _ c1 c2 (fun j => zs.getD j 0) w (by omega) (fun j hj => h1.get j hj) (fun j hj => h2.get j hj)
/-- the quotation of a row of items: small, in normal form, judged alike at all depths -/
theorem qt_sm {l : List Vt} {d : Nat} (hl : l.length ≤ 1048576) (hs : ∀ x ∈ l, SmT d x) : SmT (d + 1) (qtV (l.map (nm d true))) := by
  refine ⟨Nat.zero_le _, ?_, ⟨?_, ?_⟩, ⟨?_, ?_⟩, fun x hx => ?_⟩
  · show (l.map (nm d true)).length ≤ _
    rw [List.length_map]; exact hl
  · show (-9223372036854775808 : Int) ≤ 5; omega
  · show (5 : Int) ≤ 9223372036854775807; omega
  · show (-9223372036854775808 : Int) ≤ 0; omega
  · show (0 : Int) ≤ 9223372036854775807; omega
  · obtain ⟨y, hy, rfl⟩ := List.mem_map.1 hx
    exact nm_sm d true y (hs y hy)
theorem qt_lf {l : List Vt} {d : Nat} (hs : ∀ x ∈ l, SmT d x) : LfT (d + 1) (qtV (l.map (nm d true))) := by
  refine ⟨fun g => absurd (.inr rfl) g, fun x hx => ?_⟩
  obtain ⟨y, hy, rfl⟩ := List.mem_map.1 hx
  exact nm_lf d true y (hs y hy)
def qzV (d : Nat) (l : List Vt) : Bool := dsB (d + 1) (qtV (l.map (nm d true)))
theorem vp_itemsOf {l : List Vt} {v : Value} {d : Nat} {w : World} {S : Nat → Prop} (h : VsAt w S (d + 1) l v) (hl : l.length ≤ 1048576) (hs : ∀ x ∈ l, SmT d x) : ∀ w1, Only (fun _ => False) w w1 → Calls Tryz.prog 16 #[v] w1 fun e w' => ∃ ao cap, e = .returned (.slice ao l.length cap) ∧ Hid (RiAt w' w1.heap.size 86 (2 * d + 2) true (.slice ao l.length cap) (l.map (nm d true)) ∧ Only (fun _ => False) w1 w') := fun w1 o => items_all d l v w1 S (h.only o) hl hs
theorem vp_chk {l : List Vt} {ao : Option Addr} {cap : Nat} {d B : Nat} {w : World} (h : RiAt w B 86 (2 * d + 2) true (.slice ao l.length cap) (l.map (nm d true))) (hl : l.length ≤ 1048576) (hs : ∀ x ∈ l, SmT d x) (hT : Tb w) : Calls Tryz.prog 15 #[.slice ao l.length cap] w fun e w' => e = .returned (.int .i64 (if qzV d l then 0 else 1)) ∧ Only (fun _ => False) w w' := by
  obtain ⟨_, S, h1, h2⟩ := h.ql
  have := vp_checkItems h1 ⟨d + 1, qt_sm hl hs⟩ (fun b hb => (h2 b hb).2) hT
  rw [ds_sd (qt_lf hs) (by omega)] at this
  exact this
theorem vp_trees {l : List Vt} {ao : Option Addr} {cap : Nat} {d B : Nat} {w : World} (h : RiAt w B 86 (2 * d + 2) true (.slice ao l.length cap) (l.map (nm d true))) (hl : l.length ≤ 1048576) (hs : ∀ x ∈ l, SmT d x) : Calls Tryz.prog 18 #[.slice ao l.length cap] w fun e w' => ∃ a2 c2, e = .returned (.slice a2 l.length c2) ∧ Hid (UrAt w' w.heap.size (2 * d + 2) (.slice a2 l.length c2) (l.map (nm d true)) ∧ Only (fun _ => False) w w') := by
  obtain ⟨_, S, h1, h2⟩ := h.ql
  have := uitrees_any (2 * d + 2) (.slice ao l.length cap) (l.map (nm d true)) w S h1 (by rw [List.length_map]; exact hl) (fun x hx => by
    obtain ⟨y, hy, rfl⟩ := List.mem_map.1 hx
    exact ⟨d, nm_nf d true y (hs y hy)⟩)
  rw [List.length_map] at this
  exact this
theorem vp_snd {l : List Vt} {v : Value} {d B : Nat} {w : World} (h : UrAt w B (2 * d + 2) v (l.map (nm d true))) (hl : l.length ≤ 1048576) (hs : ∀ x ∈ l, SmT d x) : Calls Tryz.prog 17 #[v] w fun e w' => e = .returned (.bool (qzV d l)) ∧ Only (fun _ => False) w w' := by
  obtain ⟨S, h1, _⟩ := h.tree (t := qtV (l.map (nm d true))) rfl
  have := vp_soundItems (l := l.map (nm d true)) h1 ⟨d + 1, qt_sm hl hs⟩
  rw [dsv_up (qt_lf hs) _ (by omega)] at this
  exact this
end Go.Proofs.YtllpacppedobjaaGreatDoor
namespace Go.Proofs.YtllpacppedobjaaGreatDoor
open Go.RowKit Go.Lib
set_option linter.unusedSimpArgs false
set_option linter.unusedVariables false
set_option maxRecDepth 100000 in
set_option maxHeartbeats 16000000 in
theorem vplays_walk {a : Vt} {va vi : Value} {l : List Vt} {d : Nat} {w : World} (ha : VsAt w (fun _ => True) d a.l va) (hi : VsAt w (fun _ => True) (d + 1) l vi) (sa : SmT d a) (hl : l.length ≤ 1048576) (si : ∀ x ∈ l, SmT d x) (hT : Tx w) :
    Calls Tryz.prog 3 #[vV a.k a.n a.s va, vi] w fun e w' => e = .returned (.bool true) ∧ Only (fun _ => False) w w' := by
  have HA : Hid (∀ w1, Calls Tryz.prog 5 #[] w1 fun e w' => e = .returned (.bool true) ∧ Only (fun _ => False) w1 w') := vawake
  have HVa : Hid _ := value_calls ha sa
  have HIo : Hid _ := vp_itemsOf hi hl si
  have HT : Hid (Tx w ∧ SmT d a ∧ l.length ≤ 1048576 ∧ ∀ x ∈ l, SmT d x) := ⟨hT, sa, hl, si⟩
  obtain ⟨aa, ca, rfl⟩ := ha.form
  obtain ⟨ai, ci, rfl⟩ := hi.form
  have O0 : Hid (Only (fun _ => False) w w) := Only.refl _ _
  clear ha hi sa hl si hT
  unfold vV
  obtain ⟨ka, hka⟩ : ∃ k, k = a.k := ⟨_, rfl⟩
  obtain ⟨na, hna⟩ : ∃ k, k = a.n := ⟨_, rfl⟩
  obtain ⟨ta, hta⟩ : ∃ k, k = a.s := ⟨_, rfl⟩
  obtain ⟨La, hLa⟩ : ∃ k, k = a.l.length := ⟨_, rfl⟩
  obtain ⟨Li, hLi⟩ : ∃ k, k = l.length := ⟨_, rfl⟩
  rw [← hka, ← hna, ← hta, ← hLa] at HVa
  rw [← hLi] at HIo
  have HLi : Hid (Li = l.length) := hLi
  rw [← hka, ← hna, ← hta, ← hLa, ← hLi]
  clear hka hna hta hLa hLi
  have HB0 : Hid (∀ w1 : World, Only (fun _ => False) (w.alloc (.cells #[.int .i64 ka, .int .i64 na, .string ta, .slice aa La ca] 24)) w1 → w1.heap[w.heap.size]? = some (.cells #[.int .i64 ka, .int .i64 na, .string ta, .slice aa La ca] 24) ∧ w.heap.size < w1.heap.size ∧ Only (fun _ => False) w w1) := fun w1 o1 => by
    have R2 := (o1.block w.heap.size (by simp) (fun h => h)).trans (valloc_at _ _ _ rfl)
    exact ⟨R2, (Array.getElem?_eq_some_iff.1 R2).1, (O0.out.alloc _).trans o1 (fun _ _ g => g)⟩
  go_enter Tryz.func3, Tryz.ntmps3
  go_wp2_with fail
  refine (show Calls Tryz.prog 5 _ _ _ from HA.out _).mono ?_
  rintro e w1 ⟨rfl, o1⟩
  obtain ⟨hV0, hsz, ow⟩ := HB0.out w1 o1
  have OW : Hid (Only (fun _ => False) w w1) := ow
  obtain ⟨BV, hBV⟩ : ∃ B, B = w.heap.size := ⟨_, rfl⟩
  rw [← hBV] at hV0 hsz ⊢
  have HBV : Hid (BV = w.heap.size ∧ BV < w1.heap.size ∧ w1.heap[BV]? = some (.cells #[.int .i64 ka, .int .i64 na, .string ta, .slice aa La ca] 24)) := ⟨hBV, hsz, hV0⟩
  have v0 := vblk_cells hV0 0
  have v1 := vblk_cells hV0 1
  have v2 := vblk_cells hV0 2
  have v3 := vblk_cells hV0 3
  simp only [List.getElem?_toArray, List.getElem?_cons_zero, List.getElem?_cons_succ] at v0 v1 v2 v3
  clear HA HB0 O0 o1 hV0 hsz ow hBV
  go_wp2_with fail
  refine (show Calls Tryz.prog 6 _ _ _ from HVa.out _ OW.out).mono ?_
  rintro e w2 ⟨x, rfl, G2⟩
  clear HVa v0 v1 v2 v3
  have HX : Hid (XvAt w2 w1.heap.size d a x ∧ Only (fun _ => False) w1 w2) := ⟨G2.out.1, G2.out.2⟩
  clear G2
  have HTr : Hid _ := vk_tree HX.out.1 HT.out.2.1 w2 (fun _ => False) (Only.refl _ _) (fun _ _ g => g)
  go_wp2_with fail
  refine (show Calls Tryz.prog 7 _ _ _ from HTr.out).mono ?_
  rintro e w3 ⟨lv, rfl, G3⟩
  clear HTr
  obtain ⟨⟨ax, cx, rfl⟩, hnu, o3⟩ := G3.out
  have HN : Hid (NuAt w3 w2.heap.size (2 * d + 1) (nm d false a) (.slice ax (nm d false a).l.length cx) ∧ Only (fun _ => False) w2 w3) := ⟨hnu, o3⟩
  have HR3 : Hid (w3.heap[BV]? = some (.cells #[.int .i64 ka, .int .i64 na, .string ta, .slice aa La ca] 24)) := ((HX.out.2.trans o3 (fun _ _ g => g)).block BV HBV.out.2.1 (fun g => g)).trans HBV.out.2.2
  clear G3 hnu o3
  obtain ⟨A, hA⟩ : ∃ A, A = nm d false a := ⟨_, rfl⟩
  obtain ⟨kA, hkA⟩ : ∃ k, k = A.k := ⟨_, rfl⟩
  obtain ⟨nA, hnA⟩ : ∃ k, k = A.n := ⟨_, rfl⟩
  obtain ⟨tA, htA⟩ : ∃ k, k = A.s := ⟨_, rfl⟩
  obtain ⟨lA, hlA⟩ : ∃ k, k = A.l.length := ⟨_, rfl⟩
  have HAA : Hid (A = nm d false a ∧ kA = A.k ∧ nA = A.n ∧ tA = A.s ∧ lA = A.l.length) := ⟨hA, hkA, hnA, htA, hlA⟩
  rw [← hA, ← hlA] at HN
  rw [← hA, ← hkA, ← hnA, ← htA, ← hlA]
  clear hA hkA hnA htA hlA
  have r0 := HR3.out
  have ca0 := vblk_cells r0 0
  have ca1 := vblk_cells r0 1
  have ca2 := vblk_cells r0 2
  have ca3 := vblk_cells r0 3
  have za0 := blk_froz r0 0
  have za1 := blk_froz r0 1
  have za2 := blk_froz r0 2
  have za3 := blk_froz r0 3
  simp only [List.getElem?_toArray, List.getElem?_cons_zero, List.getElem?_cons_succ] at ca0 ca1 ca2 ca3
  clear r0
  go_wp2_with fail
  obtain ⟨w4, hw4⟩ : ∃ v, v = ((((w3.setCell ⟨BV, 0, none⟩ (.int .i64 kA)).setCell ⟨BV, 1, none⟩ (.int .i64 nA)).setCell ⟨BV, 2, none⟩ (.string tA)).setCell ⟨BV, 3, none⟩ (.slice ax lA cx)) := ⟨_, rfl⟩
  rw [← hw4]
  have OB : Only (fun b => b = BV) w3 w4 := by rw [hw4]; exact uonly4 _ _ _ _
  have pA : w4.cell? ⟨BV, 0, none⟩ = some (.int .i64 kA) ∧ w4.cell? ⟨BV, 1, none⟩ = some (.int .i64 nA) ∧ w4.cell? ⟨BV, 2, none⟩ = some (.string tA) ∧ w4.cell? ⟨BV, 3, none⟩ = some (.slice ax lA cx) := by
    rw [hw4]
    exact set4 HR3.out rfl (.int .i64 kA) (.int .i64 nA) (.string tA) (.slice ax lA cx)
  have H4 : Hid (Only (fun _ => False) w w4 ∧ XvAt w4 w1.heap.size d a x ∧ NuAt w4 w1.heap.size (2 * d + 1) A (.slice ax lA cx) ∧ Tx w4) := by
    have h1 := HBV.out
    have h2 := HX.out.2.size
    have o3 : Only (fun b => b = BV) w w3 := ((OW.out.trans HX.out.2 (fun _ _ g => g)).trans HN.out.2 (fun _ _ g => g)).mono (fun _ _ g => g.elim)
    have o4 : Only (fun _ => False) w w4 := ((OW.out.trans HX.out.2 (fun _ _ g => g)).trans HN.out.2 (fun _ _ g => g)).trans OB (fun k hk g => by omega)
    exact ⟨o4, (HX.out.1.only HN.out.2 (fun _ _ g => g)).only OB (fun b hb g => by omega), (HN.out.1.only OB (fun b hb g => by omega)).lower h2, HT.out.1.frame o4⟩
  have HC : Hid (∀ v, Only (fun _ => False) w4 v → v.cell? ⟨BV, 0, none⟩ = some (.int .i64 kA) ∧ v.cell? ⟨BV, 1, none⟩ = some (.int .i64 nA) ∧ v.cell? ⟨BV, 2, none⟩ = some (.string tA) ∧ v.cell? ⟨BV, 3, none⟩ = some (.slice ax lA cx)) := fun v o => by
    have n : ¬ False := fun g => g
    exact ⟨o.cell pA.1 n, o.cell pA.2.1 n, o.cell pA.2.2.1 n, o.cell pA.2.2.2 n⟩
  have hx := H4.out.2.1
  have hn := H4.out.2.2.1
  have hT4 := H4.out.2.2.2
  obtain ⟨_, sa, hl, si⟩ := HT.out
  obtain ⟨hA, hkA, hnA, htA, hlA⟩ := HAA.out
  rw [hlA, hA] at hn
  obtain ⟨Z, hZ⟩ : ∃ Z, Z = sdB (2 * d + 1) (nm d false a) := ⟨_, rfl⟩
  obtain ⟨N, hN⟩ : ∃ N, N = sz (2 * d + 1) false (nm d false a) := ⟨_, rfl⟩
  obtain ⟨P, hP⟩ : ∃ P, P = dp (2 * d + 1) false (nm d false a) := ⟨_, rfl⟩
  obtain ⟨R, hR⟩ : ∃ R, R = txtV (2 * d + 1) (nm d false a) := ⟨_, rfl⟩
  obtain ⟨zs, hzs⟩ : ∃ zs, zs = zsV d a := ⟨_, rfl⟩
  obtain ⟨QZ, hQZ⟩ : ∃ Z, Z = qzV d l := ⟨_, rfl⟩
  have HSo : Hid (∀ v, Only (fun _ => False) w4 v → Calls Tryz.prog 8 #[.agg #[.int .i64 kA, .int .i64 nA, .string tA, .slice ax lA cx]] v fun e w' => e = .returned (.bool Z) ∧ Only (fun _ => False) v w') := by
    rw [hkA, hnA, htA, hlA, hA, hZ]
    exact vp_sound hn sa
  have HCk : Hid (∀ v, Only (fun _ => False) w4 v → Calls Tryz.prog 9 #[x] v fun e w' => e = .returned (.int .i64 (if Z then 0 else 1)) ∧ Only (fun _ => False) v w') := by
    rw [hZ]
    exact vp_check hx sa hT4.1
  have HSz : Hid (∀ v, Only (fun _ => False) w4 v → Calls Tryz.prog 10 #[x] v fun e w' => e = .returned (.tuple #[.int .i64 (if Z then (N : Int) else 0), .int .i64 (if Z then 0 else 1)]) ∧ Only (fun _ => False) v w') := by
    rw [hZ, hN]
    exact vp_size hx sa hT4.1
  have HDp : Hid (∀ v, Only (fun _ => False) w4 v → Calls Tryz.prog 11 #[x] v fun e w' => e = .returned (.tuple #[.int .i64 (if Z then (P : Int) else 0), .int .i64 (if Z then 0 else 1)]) ∧ Only (fun _ => False) v w') := by
    rw [hZ, hP]
    exact vp_depth hx sa hT4.1
  have HTe : Hid (∀ v, Only (fun _ => False) w4 v → Calls Tryz.prog 12 #[x] v fun e w' => e = .returned (.tuple #[.string (if Z then R else ⟨#[]⟩), .int .i64 (if Z then 0 else 1)]) ∧ Only (fun _ => False) v w') := by
    rw [hZ, hR]
    exact vp_text hx sa hT4
  have HLs : Hid (∀ v, Only (fun _ => False) w4 v → Calls Tryz.prog 13 #[x] v fun e w' => ∃ ao cap, e = .returned (.tuple #[.slice ao zs.length cap, .bool true]) ∧ Hid (w'.ownsRow v.heap.size 3 1 (.slice ao zs.length cap) zs.length (zs.map (Value.int .i64)) ∧ Only (fun _ => False) v w')) := by
    rw [hzs]
    exact vk_list hx sa hT4.1
  have HCo : Hid (∀ v, Only (fun _ => False) w4 v → Calls Tryz.prog 14 #[x] v fun e w' => ∃ c, e = .returned (.tuple #[c, .int .i64 (if Z then 0 else 1)]) ∧ Hid ((Z = true → XvAt w' v.heap.size d a c) ∧ (Z = false → c = .nilIface) ∧ Only (fun _ => False) v w')) := by
    rw [hZ]
    exact vp_copy hx sa hT4.1
  have HI4 : Hid (∀ v, Only (fun _ => False) w4 v → Calls Tryz.prog 16 #[.slice ai Li ci] v fun e w' => ∃ ao cap, e = .returned (.slice ao Li cap) ∧ Hid (RiAt w' v.heap.size 86 (2 * d + 2) true (.slice ao Li cap) (l.map (nm d true)) ∧ Only (fun _ => False) v w')) := fun v o => HIo.out v (H4.out.1.trans o (fun _ _ g => g))
  have HCI : Hid (∀ v B ao cap, Only (fun _ => False) w4 v → RiAt v B 86 (2 * d + 2) true (.slice ao Li cap) (l.map (nm d true)) → Calls Tryz.prog 15 #[.slice ao Li cap] v fun e w' => e = .returned (.int .i64 (if QZ then 0 else 1)) ∧ Only (fun _ => False) v w') := fun v B ao cap o h => by
    rw [hQZ]
    rw [HLi.out] at h ⊢
    exact vp_chk h hl si (hT4.1.frame o)
  have HIT : Hid (∀ v B ao cap, RiAt v B 86 (2 * d + 2) true (.slice ao Li cap) (l.map (nm d true)) → Calls Tryz.prog 18 #[.slice ao Li cap] v fun e w' => ∃ a2 c2, e = .returned (.slice a2 Li c2) ∧ Hid (UrAt w' v.heap.size (2 * d + 2) (.slice a2 Li c2) (l.map (nm d true)) ∧ Only (fun _ => False) v w')) := fun v B ao cap h => by
    rw [HLi.out] at h ⊢
    exact vp_trees h hl si
  have HSI : Hid (∀ v B u, UrAt v B (2 * d + 2) u (l.map (nm d true)) → Calls Tryz.prog 17 #[u] v fun e w' => e = .returned (.bool QZ) ∧ Only (fun _ => False) v w') := fun v B u h => by
    rw [hQZ]
    exact vp_snd h hl si
  have HZt : Hid (Z = true → (∀ v, Only (fun _ => False) w4 v → Calls Tryz.prog 19 #[.agg #[.int .i64 kA, .int .i64 nA, .string tA, .slice ax lA cx], .int .i64 1024, .int .i64 0] v fun e w' => ∃ b, e = .returned (.tuple #[.int .i64 (N : Int), .int .i64 (P : Int), .bool b]) ∧ Only (fun _ => False) v w') ∧ (∀ v, Only (fun _ => False) w4 v → Calls Tryz.prog 20 #[.agg #[.int .i64 kA, .int .i64 nA, .string tA, .slice ax lA cx]] v fun e w' => e = .returned (.string R) ∧ Only (fun _ => False) v w') ∧ (∀ v, Only (fun _ => False) w4 v → Calls Tryz.prog 23 #[.agg #[.int .i64 kA, .int .i64 nA, .string tA, .slice ax lA cx]] v fun e w' => ∃ ao cap, e = .returned (.slice ao zs.length cap) ∧ Hid (BnAt w' v.heap.size (.slice ao zs.length cap) zs ∧ Only (fun _ => False) v w'))) := fun hz => by
    rw [hkA, hnA, htA, hlA, hA, hN, hP, hR, hzs]
    rw [hZ] at hz
    exact ⟨vp_measure hn sa hz, vp_told hn sa hz, vp_boxes hn sa hz⟩
  have HTr : Hid (∀ c B v v', XvAt v B d a c → Only (fun _ => False) v v' → Calls Tryz.prog 7 #[c] v' fun e w' => ∃ ao cap, e = .returned (.agg #[.int .i64 kA, .int .i64 nA, .string tA, .slice ao lA cap]) ∧ Hid (NuAt w' v'.heap.size (2 * d + 1) A (.slice ao lA cap) ∧ Only (fun _ => False) v' w')) := fun c B v v' h o => by
    rw [hkA, hnA, htA, hlA, hA]
    refine (vk_tree h sa v' (fun _ => False) o (fun _ _ g => g)).mono fun e w' g => ?_
    obtain ⟨lv, he, g⟩ := g
    obtain ⟨⟨ao, cap, rfl⟩, g2⟩ := g.out
    exact ⟨ao, cap, he, g2⟩
  have HSm : Hid (∀ v B C l1 c1 l2 c2, NuAt v B (2 * d + 1) A (.slice l1 lA c1) → NuAt v C (2 * d + 1) A (.slice l2 lA c2) → Calls Tryz.prog 21 #[.agg #[.int .i64 kA, .int .i64 nA, .string tA, .slice l1 lA c1], .agg #[.int .i64 kA, .int .i64 nA, .string tA, .slice l2 lA c2]] v fun e w' => e = .returned (.bool true) ∧ Only (fun _ => False) v w') := fun v B C l1 c1 l2 c2 h1 h2 => by
    rw [hlA, hA] at h1 h2
    rw [hkA, hnA, htA, hlA, hA]
    exact vk_same h1 h2 sa
  have HSN : Hid (∀ v B C a1 c1 a2 c2, BnAt v B (.slice a1 zs.length c1) zs → BnAt v C (.slice a2 zs.length c2) zs → Calls Tryz.prog 22 #[.slice a1 zs.length c1, .slice a2 zs.length c2] v fun e w' => e = .returned (.bool true) ∧ Only (fun _ => False) v w') := fun v B C a1 c1 a2 c2 h1 h2 => vp_ints h1 h2 (by rw [hzs]; exact zsV_len d a)
  obtain ⟨nz, hnz⟩ : ∃ n, n = zs.length := ⟨_, rfl⟩
  have HNZ : Hid ((Z = false → nz = 0) ∧ nz ≤ 1024 ∧ nz = zs.length) := by
    refine ⟨fun hz => ?_, by rw [hnz, hzs]; exact zsV_len d a, hnz⟩
    rw [hnz, hzs]
    unfold zsV
    rw [← hZ, hz]
    rfl
  rw [← hnz] at HLs HZt HSN
  have O4 : Hid (Only (fun _ => False) w4 w4) := Only.refl _ _
  have HNu : Hid (NuAt w4 w1.heap.size (2 * d + 1) A (.slice ax lA cx)) := H4.out.2.2.1
  have HW : Hid (Only (fun _ => False) w w4) := H4.out.1
  clear hw4 OB pA H4 hx hn hT4 sa hl si hA hkA hnA htA hlA hZ hN hP hR hzs hQZ hnz HIo HLi HT OW HBV HX HR3 HN HAA ca0 ca1 ca2 ca3 za0 za1 za2 za3
  -- the arms
  cases Z with
  | false =>
    obtain rfl : nz = 0 := HNZ.out.1 rfl
    simp only [Bool.false_eq_true, if_false] at HCk HSz HDp HTe HCo
    cases QZ with
    | false =>
      simp only [Bool.false_eq_true, if_false] at HCI
      refine (show Calls Tryz.prog 8 _ _ _ from HSo.out w4 O4.out).mono ?_
      rintro e w5 ⟨rfl, o5⟩
      have O5 : Hid (Only (fun _ => False) w4 w5) := o5
      clear HSo O4 o5
      go_wp2_with fail
      refine (show Calls Tryz.prog 9 _ _ _ from HCk.out w5 O5.out).mono ?_
      rintro e w6 ⟨rfl, o6⟩
      have O6 : Hid (Only (fun _ => False) w4 w6) := O5.out.trans o6 (fun _ _ g => g)
      clear HCk O5 o6
      go_wp2_with fail
      refine (show Calls Tryz.prog 10 _ _ _ from HSz.out w6 O6.out).mono ?_
      rintro e w7 ⟨rfl, o7⟩
      have O7 : Hid (Only (fun _ => False) w4 w7) := O6.out.trans o7 (fun _ _ g => g)
      clear HSz O6 o7
      go_wp2_with fail
      refine (show Calls Tryz.prog 11 _ _ _ from HDp.out w7 O7.out).mono ?_
      rintro e w8 ⟨rfl, o8⟩
      have O8 : Hid (Only (fun _ => False) w4 w8) := O7.out.trans o8 (fun _ _ g => g)
      clear HDp O7 o8
      go_wp2_with fail
      refine (show Calls Tryz.prog 12 _ _ _ from HTe.out w8 O8.out).mono ?_
      rintro e w9 ⟨rfl, o9⟩
      have O9 : Hid (Only (fun _ => False) w4 w9) := O8.out.trans o9 (fun _ _ g => g)
      clear HTe O8 o9
      go_wp2_with fail
      refine (show Calls Tryz.prog 13 _ _ _ from HLs.out w9 O9.out).mono ?_
      rintro e w10 ⟨al, cl, rfl, G10⟩
      have HL10 : Hid (BnAt w10 w9.heap.size (.slice al 0 cl) zs) := by
        have h := G10.out.1
        show w10.ownsRow _ _ _ _ zs.length _
        rw [← HNZ.out.2.2]
        exact h
      have O10 : Hid (Only (fun _ => False) w4 w10) := O9.out.trans G10.out.2 (fun _ _ g => g)
      clear HLs O9 G10
      go_wp2_with fail
      refine (show Calls Tryz.prog 14 _ _ _ from HCo.out w10 O10.out).mono ?_
      rintro e w11 ⟨c, rfl, G11⟩
      have HL11 : Hid (BnAt w11 w9.heap.size (.slice al 0 cl) zs) := HL10.out.only G11.out.2.2 (fun _ _ _ g => g)
      have O11 : Hid (Only (fun _ => False) w4 w11) := O10.out.trans G11.out.2.2 (fun _ _ g => g)
      have HCC : Hid (c = .nilIface) := by first | exact G11.out.2.1 rfl | exact G11.out.2.1 | exact G11.out.2.1 trivial
      clear HCo O10 HL10 G11
      obtain rfl := HCC.out
      go_wp2_with fail
      refine (show Calls Tryz.prog 16 _ _ _ from HI4.out w11 O11.out).mono ?_
      rintro e w12 ⟨a12, c12, rfl, G12⟩
      have O12 : Hid (Only (fun _ => False) w11 w12 ∧ Only (fun _ => False) w4 w12) := ⟨G12.out.2, O11.out.trans G12.out.2 (fun _ _ g => g)⟩
      go_wp2_with fail
      refine (show Calls Tryz.prog 15 _ _ _ from HCI.out w12 _ _ _ O12.out.2 G12.out.1).mono ?_
      rintro e w13 ⟨rfl, o13⟩
      have O13 : Hid (Only (fun _ => False) w11 w13 ∧ Only (fun _ => False) w4 w13) := ⟨O12.out.1.trans o13 (fun _ _ g => g), O12.out.2.trans o13 (fun _ _ g => g)⟩
      clear HCI G12 O12 o13
      go_wp2_with fail
      refine (show Calls Tryz.prog 16 _ _ _ from HI4.out w13 O13.out.2).mono ?_
      rintro e w14 ⟨a14, c14, rfl, G14⟩
      have O14 : Hid (Only (fun _ => False) w11 w14 ∧ Only (fun _ => False) w4 w14) := ⟨O13.out.1.trans G14.out.2 (fun _ _ g => g), O13.out.2.trans G14.out.2 (fun _ _ g => g)⟩
      clear O13 HI4
      go_wp2_with fail
      refine (show Calls Tryz.prog 18 _ _ _ from HIT.out w14 _ _ _ G14.out.1).mono ?_
      rintro e w15 ⟨a15, c15, rfl, G15⟩
      have O15 : Hid (Only (fun _ => False) w11 w15 ∧ Only (fun _ => False) w4 w15) := ⟨O14.out.1.trans G15.out.2 (fun _ _ g => g), O14.out.2.trans G15.out.2 (fun _ _ g => g)⟩
      clear O14 HIT G14
      go_wp2_with fail
      refine (show Calls Tryz.prog 17 _ _ _ from HSI.out w15 _ _ G15.out.1).mono ?_
      rintro e w16 ⟨rfl, o16⟩
      have O16 : Hid (Only (fun _ => False) w11 w16 ∧ Only (fun _ => False) w4 w16) := ⟨O15.out.1.trans o16 (fun _ _ g => g), O15.out.2.trans o16 (fun _ _ g => g)⟩
      clear O15 HSI G15 o16
      have HF : Hid (Only (fun _ => False) w w16) := HW.out.trans O16.out.2 (fun _ _ g => g)
      clear HZt HTr HSm HSN HNu HC O11 O16 HL11
      go_wp2
      go_ret
      exact ⟨rfl, HF.out⟩
    | true =>
      simp only [if_true] at HCI
      refine (show Calls Tryz.prog 8 _ _ _ from HSo.out w4 O4.out).mono ?_
      rintro e w5 ⟨rfl, o5⟩
      have O5 : Hid (Only (fun _ => False) w4 w5) := o5
      clear HSo O4 o5
      go_wp2_with fail
      refine (show Calls Tryz.prog 9 _ _ _ from HCk.out w5 O5.out).mono ?_
      rintro e w6 ⟨rfl, o6⟩
      have O6 : Hid (Only (fun _ => False) w4 w6) := O5.out.trans o6 (fun _ _ g => g)
      clear HCk O5 o6
      go_wp2_with fail
      refine (show Calls Tryz.prog 10 _ _ _ from HSz.out w6 O6.out).mono ?_
      rintro e w7 ⟨rfl, o7⟩
      have O7 : Hid (Only (fun _ => False) w4 w7) := O6.out.trans o7 (fun _ _ g => g)
      clear HSz O6 o7
      go_wp2_with fail
      refine (show Calls Tryz.prog 11 _ _ _ from HDp.out w7 O7.out).mono ?_
      rintro e w8 ⟨rfl, o8⟩
      have O8 : Hid (Only (fun _ => False) w4 w8) := O7.out.trans o8 (fun _ _ g => g)
      clear HDp O7 o8
      go_wp2_with fail
      refine (show Calls Tryz.prog 12 _ _ _ from HTe.out w8 O8.out).mono ?_
      rintro e w9 ⟨rfl, o9⟩
      have O9 : Hid (Only (fun _ => False) w4 w9) := O8.out.trans o9 (fun _ _ g => g)
      clear HTe O8 o9
      go_wp2_with fail
      refine (show Calls Tryz.prog 13 _ _ _ from HLs.out w9 O9.out).mono ?_
      rintro e w10 ⟨al, cl, rfl, G10⟩
      have HL10 : Hid (BnAt w10 w9.heap.size (.slice al 0 cl) zs) := by
        have h := G10.out.1
        show w10.ownsRow _ _ _ _ zs.length _
        rw [← HNZ.out.2.2]
        exact h
      have O10 : Hid (Only (fun _ => False) w4 w10) := O9.out.trans G10.out.2 (fun _ _ g => g)
      clear HLs O9 G10
      go_wp2_with fail
      refine (show Calls Tryz.prog 14 _ _ _ from HCo.out w10 O10.out).mono ?_
      rintro e w11 ⟨c, rfl, G11⟩
      have HL11 : Hid (BnAt w11 w9.heap.size (.slice al 0 cl) zs) := HL10.out.only G11.out.2.2 (fun _ _ _ g => g)
      have O11 : Hid (Only (fun _ => False) w4 w11) := O10.out.trans G11.out.2.2 (fun _ _ g => g)
      have HCC : Hid (c = .nilIface) := by first | exact G11.out.2.1 rfl | exact G11.out.2.1 | exact G11.out.2.1 trivial
      clear HCo O10 HL10 G11
      obtain rfl := HCC.out
      go_wp2_with fail
      refine (show Calls Tryz.prog 16 _ _ _ from HI4.out w11 O11.out).mono ?_
      rintro e w12 ⟨a12, c12, rfl, G12⟩
      have O12 : Hid (Only (fun _ => False) w11 w12 ∧ Only (fun _ => False) w4 w12) := ⟨G12.out.2, O11.out.trans G12.out.2 (fun _ _ g => g)⟩
      go_wp2_with fail
      refine (show Calls Tryz.prog 15 _ _ _ from HCI.out w12 _ _ _ O12.out.2 G12.out.1).mono ?_
      rintro e w13 ⟨rfl, o13⟩
      have O13 : Hid (Only (fun _ => False) w11 w13 ∧ Only (fun _ => False) w4 w13) := ⟨O12.out.1.trans o13 (fun _ _ g => g), O12.out.2.trans o13 (fun _ _ g => g)⟩
      clear HCI G12 O12 o13
      go_wp2_with fail
      refine (show Calls Tryz.prog 16 _ _ _ from HI4.out w13 O13.out.2).mono ?_
      rintro e w14 ⟨a14, c14, rfl, G14⟩
      have O14 : Hid (Only (fun _ => False) w11 w14 ∧ Only (fun _ => False) w4 w14) := ⟨O13.out.1.trans G14.out.2 (fun _ _ g => g), O13.out.2.trans G14.out.2 (fun _ _ g => g)⟩
      clear O13 HI4
      go_wp2_with fail
      refine (show Calls Tryz.prog 18 _ _ _ from HIT.out w14 _ _ _ G14.out.1).mono ?_
      rintro e w15 ⟨a15, c15, rfl, G15⟩
      have O15 : Hid (Only (fun _ => False) w11 w15 ∧ Only (fun _ => False) w4 w15) := ⟨O14.out.1.trans G15.out.2 (fun _ _ g => g), O14.out.2.trans G15.out.2 (fun _ _ g => g)⟩
      clear O14 HIT G14
      go_wp2_with fail
      refine (show Calls Tryz.prog 17 _ _ _ from HSI.out w15 _ _ G15.out.1).mono ?_
      rintro e w16 ⟨rfl, o16⟩
      have O16 : Hid (Only (fun _ => False) w11 w16 ∧ Only (fun _ => False) w4 w16) := ⟨O15.out.1.trans o16 (fun _ _ g => g), O15.out.2.trans o16 (fun _ _ g => g)⟩
      clear O15 HSI G15 o16
      have HF : Hid (Only (fun _ => False) w w16) := HW.out.trans O16.out.2 (fun _ _ g => g)
      clear HZt HTr HSm HSN HNu HC O11 O16 HL11
      go_wp2
      go_ret
      exact ⟨rfl, HF.out⟩
  | true =>
    simp only [if_true] at HCk HSz HDp HTe HCo
    cases QZ with
    | false =>
      simp only [Bool.false_eq_true, if_false] at HCI
      refine (show Calls Tryz.prog 8 _ _ _ from HSo.out w4 O4.out).mono ?_
      rintro e w5 ⟨rfl, o5⟩
      have O5 : Hid (Only (fun _ => False) w4 w5) := o5
      clear HSo O4 o5
      go_wp2_with fail
      refine (show Calls Tryz.prog 9 _ _ _ from HCk.out w5 O5.out).mono ?_
      rintro e w6 ⟨rfl, o6⟩
      have O6 : Hid (Only (fun _ => False) w4 w6) := O5.out.trans o6 (fun _ _ g => g)
      clear HCk O5 o6
      go_wp2_with fail
      refine (show Calls Tryz.prog 10 _ _ _ from HSz.out w6 O6.out).mono ?_
      rintro e w7 ⟨rfl, o7⟩
      have O7 : Hid (Only (fun _ => False) w4 w7) := O6.out.trans o7 (fun _ _ g => g)
      clear HSz O6 o7
      go_wp2_with fail
      refine (show Calls Tryz.prog 11 _ _ _ from HDp.out w7 O7.out).mono ?_
      rintro e w8 ⟨rfl, o8⟩
      have O8 : Hid (Only (fun _ => False) w4 w8) := O7.out.trans o8 (fun _ _ g => g)
      clear HDp O7 o8
      go_wp2_with fail
      refine (show Calls Tryz.prog 12 _ _ _ from HTe.out w8 O8.out).mono ?_
      rintro e w9 ⟨rfl, o9⟩
      have O9 : Hid (Only (fun _ => False) w4 w9) := O8.out.trans o9 (fun _ _ g => g)
      clear HTe O8 o9
      go_wp2_with fail
      refine (show Calls Tryz.prog 13 _ _ _ from HLs.out w9 O9.out).mono ?_
      rintro e w10 ⟨al, cl, rfl, G10⟩
      have HL10 : Hid (BnAt w10 w9.heap.size (.slice al nz cl) zs) := by
        have h := G10.out.1
        show w10.ownsRow _ _ _ _ zs.length _
        rw [← HNZ.out.2.2]
        exact h
      have O10 : Hid (Only (fun _ => False) w4 w10) := O9.out.trans G10.out.2 (fun _ _ g => g)
      clear HLs O9 G10
      go_wp2_with fail
      refine (show Calls Tryz.prog 14 _ _ _ from HCo.out w10 O10.out).mono ?_
      rintro e w11 ⟨c, rfl, G11⟩
      have HL11 : Hid (BnAt w11 w9.heap.size (.slice al nz cl) zs) := HL10.out.only G11.out.2.2 (fun _ _ _ g => g)
      have O11 : Hid (Only (fun _ => False) w4 w11) := O10.out.trans G11.out.2.2 (fun _ _ g => g)
      have HCC : Hid (XvAt w11 w10.heap.size d a c) := by first | exact G11.out.1 rfl | exact G11.out.1 | exact G11.out.1 trivial
      clear HCo O10 HL10 G11
      go_wp2_with fail
      refine (show Calls Tryz.prog 16 _ _ _ from HI4.out w11 O11.out).mono ?_
      rintro e w12 ⟨a12, c12, rfl, G12⟩
      have O12 : Hid (Only (fun _ => False) w11 w12 ∧ Only (fun _ => False) w4 w12) := ⟨G12.out.2, O11.out.trans G12.out.2 (fun _ _ g => g)⟩
      go_wp2_with fail
      refine (show Calls Tryz.prog 15 _ _ _ from HCI.out w12 _ _ _ O12.out.2 G12.out.1).mono ?_
      rintro e w13 ⟨rfl, o13⟩
      have O13 : Hid (Only (fun _ => False) w11 w13 ∧ Only (fun _ => False) w4 w13) := ⟨O12.out.1.trans o13 (fun _ _ g => g), O12.out.2.trans o13 (fun _ _ g => g)⟩
      clear HCI G12 O12 o13
      go_wp2_with fail
      refine (show Calls Tryz.prog 16 _ _ _ from HI4.out w13 O13.out.2).mono ?_
      rintro e w14 ⟨a14, c14, rfl, G14⟩
      have O14 : Hid (Only (fun _ => False) w11 w14 ∧ Only (fun _ => False) w4 w14) := ⟨O13.out.1.trans G14.out.2 (fun _ _ g => g), O13.out.2.trans G14.out.2 (fun _ _ g => g)⟩
      clear O13 HI4
      go_wp2_with fail
      refine (show Calls Tryz.prog 18 _ _ _ from HIT.out w14 _ _ _ G14.out.1).mono ?_
      rintro e w15 ⟨a15, c15, rfl, G15⟩
      have O15 : Hid (Only (fun _ => False) w11 w15 ∧ Only (fun _ => False) w4 w15) := ⟨O14.out.1.trans G15.out.2 (fun _ _ g => g), O14.out.2.trans G15.out.2 (fun _ _ g => g)⟩
      clear O14 HIT G14
      go_wp2_with fail
      refine (show Calls Tryz.prog 17 _ _ _ from HSI.out w15 _ _ G15.out.1).mono ?_
      rintro e w16 ⟨rfl, o16⟩
      have O16 : Hid (Only (fun _ => False) w11 w16 ∧ Only (fun _ => False) w4 w16) := ⟨O15.out.1.trans o16 (fun _ _ g => g), O15.out.2.trans o16 (fun _ _ g => g)⟩
      clear O15 HSI G15 o16
      obtain ⟨HMe, HTo, HBx⟩ := HZt.out (by trivial)
      have HMe : Hid _ := HMe
      have HTo : Hid _ := HTo
      have HBx : Hid _ := HBx
      have c16 := HC.out w16 O16.out.2
      obtain ⟨q0, q1, q2, q3⟩ := c16
      clear HZt
      go_wp2_with fail
      refine (show Calls Tryz.prog 19 _ _ _ from HMe.out w16 O16.out.2).mono ?_
      rintro e w17 ⟨bm, rfl, o17⟩
      have O17 : Hid (Only (fun _ => False) w4 w17) := O16.out.2.trans o17 (fun _ _ g => g)
      have OC : Hid (Only (fun _ => False) w11 w17) := O16.out.1.trans o17 (fun _ _ g => g)
      have OR : Hid (Only (fun _ => False) w17 w17) := Only.refl _ _
      have HS : Hid (∀ v, Only (fun _ => False) w17 v → v.cell? ⟨BV, 0, none⟩ = some (.int .i64 kA) ∧ v.cell? ⟨BV, 1, none⟩ = some (.int .i64 nA) ∧ v.cell? ⟨BV, 2, none⟩ = some (.string tA) ∧ v.cell? ⟨BV, 3, none⟩ = some (.slice ax lA cx)) := fun v o => HC.out v (O17.out.trans o (fun _ _ g => g))
      clear q0 q1 q2 q3 HMe HC O16 O11 o17
      go_wp2_with fail
      go_region_held3 (fun v => v.cell? ⟨BV, 0, none⟩ = some (.int .i64 kA) ∧ v.cell? ⟨BV, 1, none⟩ = some (.int .i64 nA) ∧ v.cell? ⟨BV, 2, none⟩ = some (.string tA) ∧ v.cell? ⟨BV, 3, none⟩ = some (.slice ax lA cx))
        (first
          | with_reducible exact HS.out _ OR.out.drew
          | with_reducible exact HS.out _ O18.out
          | with_reducible exact HS.out _ O19.out
          | with_reducible exact HS.out _ O20.out
          | with_reducible exact HS.out _ O21.out
          | with_reducible exact HS.out _ O22.out)
        (first
          | (go_at_call 20; refine (show Calls Tryz.prog 20 _ _ _ from HTo.out _ O17.out.drew).mono ?_; rintro ex w18 ⟨rfl, o18⟩; have O18 : Hid (Only (fun _ => False) w17 w18) := OR.out.drew.trans o18 (fun _ _ g => g))
          | (go_at_call 7; have o9 := O18.out; refine (show Calls Tryz.prog 7 _ _ _ from HTr.out _ _ _ _ HCC.out (OC.out.trans O18.out (fun _ _ g => g))).mono ?_; rintro ex w19 ⟨at9, ct9, rfl, G19⟩; have O19 : Hid (Only (fun _ => False) w17 w19) := O18.out.trans G19.out.2 (fun _ _ g => g))
          | (go_at_call 21; have o9 := O19.out; refine (show Calls Tryz.prog 21 _ _ _ from HSm.out _ _ _ _ _ _ _ G19.out.1 (HNu.out.only (O17.out.trans O19.out (fun _ _ g => g)) (fun _ _ g => g))).mono ?_; rintro ex w20 ⟨rfl, o20⟩; have O20 : Hid (Only (fun _ => False) w17 w20) := O19.out.trans o20 (fun _ _ g => g))
          | (go_at_call 23; have o9 := O20.out; refine (show Calls Tryz.prog 23 _ _ _ from HBx.out _ (O17.out.trans O20.out (fun _ _ g => g))).mono ?_; rintro ex w21 ⟨ab1, cb1, rfl, G21⟩; have O21 : Hid (Only (fun _ => False) w17 w21) := O20.out.trans G21.out.2 (fun _ _ g => g))
          | (go_at_call 22; have o9 := O21.out; refine (show Calls Tryz.prog 22 _ _ _ from HSN.out _ _ _ _ _ _ _ (HL11.out.only (OC.out.trans O21.out (fun _ _ g => g)) (fun _ _ _ g => g)) G21.out.1).mono ?_; rintro ex w22 ⟨rfl, o22⟩; have O22 : Hid (Only (fun _ => False) w17 w22) := O21.out.trans o22 (fun _ _ g => g)))
      have HF : Hid (Only (fun _ => False) w w22) := (HW.out.trans O17.out (fun _ _ g => g)).trans O22.out (fun _ _ g => g)
      go_wp2
      go_ret
      exact ⟨rfl, HF.out⟩
    | true =>
      simp only [if_true] at HCI
      refine (show Calls Tryz.prog 8 _ _ _ from HSo.out w4 O4.out).mono ?_
      rintro e w5 ⟨rfl, o5⟩
      have O5 : Hid (Only (fun _ => False) w4 w5) := o5
      clear HSo O4 o5
      go_wp2_with fail
      refine (show Calls Tryz.prog 9 _ _ _ from HCk.out w5 O5.out).mono ?_
      rintro e w6 ⟨rfl, o6⟩
      have O6 : Hid (Only (fun _ => False) w4 w6) := O5.out.trans o6 (fun _ _ g => g)
      clear HCk O5 o6
      go_wp2_with fail
      refine (show Calls Tryz.prog 10 _ _ _ from HSz.out w6 O6.out).mono ?_
      rintro e w7 ⟨rfl, o7⟩
      have O7 : Hid (Only (fun _ => False) w4 w7) := O6.out.trans o7 (fun _ _ g => g)
      clear HSz O6 o7
      go_wp2_with fail
      refine (show Calls Tryz.prog 11 _ _ _ from HDp.out w7 O7.out).mono ?_
      rintro e w8 ⟨rfl, o8⟩
      have O8 : Hid (Only (fun _ => False) w4 w8) := O7.out.trans o8 (fun _ _ g => g)
      clear HDp O7 o8
      go_wp2_with fail
      refine (show Calls Tryz.prog 12 _ _ _ from HTe.out w8 O8.out).mono ?_
      rintro e w9 ⟨rfl, o9⟩
      have O9 : Hid (Only (fun _ => False) w4 w9) := O8.out.trans o9 (fun _ _ g => g)
      clear HTe O8 o9
      go_wp2_with fail
      refine (show Calls Tryz.prog 13 _ _ _ from HLs.out w9 O9.out).mono ?_
      rintro e w10 ⟨al, cl, rfl, G10⟩
      have HL10 : Hid (BnAt w10 w9.heap.size (.slice al nz cl) zs) := by
        have h := G10.out.1
        show w10.ownsRow _ _ _ _ zs.length _
        rw [← HNZ.out.2.2]
        exact h
      have O10 : Hid (Only (fun _ => False) w4 w10) := O9.out.trans G10.out.2 (fun _ _ g => g)
      clear HLs O9 G10
      go_wp2_with fail
      refine (show Calls Tryz.prog 14 _ _ _ from HCo.out w10 O10.out).mono ?_
      rintro e w11 ⟨c, rfl, G11⟩
      have HL11 : Hid (BnAt w11 w9.heap.size (.slice al nz cl) zs) := HL10.out.only G11.out.2.2 (fun _ _ _ g => g)
      have O11 : Hid (Only (fun _ => False) w4 w11) := O10.out.trans G11.out.2.2 (fun _ _ g => g)
      have HCC : Hid (XvAt w11 w10.heap.size d a c) := by first | exact G11.out.1 rfl | exact G11.out.1 | exact G11.out.1 trivial
      clear HCo O10 HL10 G11
      go_wp2_with fail
      refine (show Calls Tryz.prog 16 _ _ _ from HI4.out w11 O11.out).mono ?_
      rintro e w12 ⟨a12, c12, rfl, G12⟩
      have O12 : Hid (Only (fun _ => False) w11 w12 ∧ Only (fun _ => False) w4 w12) := ⟨G12.out.2, O11.out.trans G12.out.2 (fun _ _ g => g)⟩
      go_wp2_with fail
      refine (show Calls Tryz.prog 15 _ _ _ from HCI.out w12 _ _ _ O12.out.2 G12.out.1).mono ?_
      rintro e w13 ⟨rfl, o13⟩
      have O13 : Hid (Only (fun _ => False) w11 w13 ∧ Only (fun _ => False) w4 w13) := ⟨O12.out.1.trans o13 (fun _ _ g => g), O12.out.2.trans o13 (fun _ _ g => g)⟩
      clear HCI G12 O12 o13
      go_wp2_with fail
      refine (show Calls Tryz.prog 16 _ _ _ from HI4.out w13 O13.out.2).mono ?_
      rintro e w14 ⟨a14, c14, rfl, G14⟩
      have O14 : Hid (Only (fun _ => False) w11 w14 ∧ Only (fun _ => False) w4 w14) := ⟨O13.out.1.trans G14.out.2 (fun _ _ g => g), O13.out.2.trans G14.out.2 (fun _ _ g => g)⟩
      clear O13 HI4
      go_wp2_with fail
      refine (show Calls Tryz.prog 18 _ _ _ from HIT.out w14 _ _ _ G14.out.1).mono ?_
      rintro e w15 ⟨a15, c15, rfl, G15⟩
      have O15 : Hid (Only (fun _ => False) w11 w15 ∧ Only (fun _ => False) w4 w15) := ⟨O14.out.1.trans G15.out.2 (fun _ _ g => g), O14.out.2.trans G15.out.2 (fun _ _ g => g)⟩
      clear O14 HIT G14
      go_wp2_with fail
      refine (show Calls Tryz.prog 17 _ _ _ from HSI.out w15 _ _ G15.out.1).mono ?_
      rintro e w16 ⟨rfl, o16⟩
      have O16 : Hid (Only (fun _ => False) w11 w16 ∧ Only (fun _ => False) w4 w16) := ⟨O15.out.1.trans o16 (fun _ _ g => g), O15.out.2.trans o16 (fun _ _ g => g)⟩
      clear O15 HSI G15 o16
      obtain ⟨HMe, HTo, HBx⟩ := HZt.out (by trivial)
      have HMe : Hid _ := HMe
      have HTo : Hid _ := HTo
      have HBx : Hid _ := HBx
      have c16 := HC.out w16 O16.out.2
      obtain ⟨q0, q1, q2, q3⟩ := c16
      clear HZt
      go_wp2_with fail
      refine (show Calls Tryz.prog 19 _ _ _ from HMe.out w16 O16.out.2).mono ?_
      rintro e w17 ⟨bm, rfl, o17⟩
      have O17 : Hid (Only (fun _ => False) w4 w17) := O16.out.2.trans o17 (fun _ _ g => g)
      have OC : Hid (Only (fun _ => False) w11 w17) := O16.out.1.trans o17 (fun _ _ g => g)
      have OR : Hid (Only (fun _ => False) w17 w17) := Only.refl _ _
      have HS : Hid (∀ v, Only (fun _ => False) w17 v → v.cell? ⟨BV, 0, none⟩ = some (.int .i64 kA) ∧ v.cell? ⟨BV, 1, none⟩ = some (.int .i64 nA) ∧ v.cell? ⟨BV, 2, none⟩ = some (.string tA) ∧ v.cell? ⟨BV, 3, none⟩ = some (.slice ax lA cx)) := fun v o => HC.out v (O17.out.trans o (fun _ _ g => g))
      clear q0 q1 q2 q3 HMe HC O16 O11 o17
      go_wp2_with fail
      go_region_held3 (fun v => v.cell? ⟨BV, 0, none⟩ = some (.int .i64 kA) ∧ v.cell? ⟨BV, 1, none⟩ = some (.int .i64 nA) ∧ v.cell? ⟨BV, 2, none⟩ = some (.string tA) ∧ v.cell? ⟨BV, 3, none⟩ = some (.slice ax lA cx))
        (first
          | with_reducible exact HS.out _ OR.out.drew
          | with_reducible exact HS.out _ O18.out
          | with_reducible exact HS.out _ O19.out
          | with_reducible exact HS.out _ O20.out
          | with_reducible exact HS.out _ O21.out
          | with_reducible exact HS.out _ O22.out)
        (first
          | (go_at_call 20; refine (show Calls Tryz.prog 20 _ _ _ from HTo.out _ O17.out.drew).mono ?_; rintro ex w18 ⟨rfl, o18⟩; have O18 : Hid (Only (fun _ => False) w17 w18) := OR.out.drew.trans o18 (fun _ _ g => g))
          | (go_at_call 7; have o9 := O18.out; refine (show Calls Tryz.prog 7 _ _ _ from HTr.out _ _ _ _ HCC.out (OC.out.trans O18.out (fun _ _ g => g))).mono ?_; rintro ex w19 ⟨at9, ct9, rfl, G19⟩; have O19 : Hid (Only (fun _ => False) w17 w19) := O18.out.trans G19.out.2 (fun _ _ g => g))
          | (go_at_call 21; have o9 := O19.out; refine (show Calls Tryz.prog 21 _ _ _ from HSm.out _ _ _ _ _ _ _ G19.out.1 (HNu.out.only (O17.out.trans O19.out (fun _ _ g => g)) (fun _ _ g => g))).mono ?_; rintro ex w20 ⟨rfl, o20⟩; have O20 : Hid (Only (fun _ => False) w17 w20) := O19.out.trans o20 (fun _ _ g => g))
          | (go_at_call 23; have o9 := O20.out; refine (show Calls Tryz.prog 23 _ _ _ from HBx.out _ (O17.out.trans O20.out (fun _ _ g => g))).mono ?_; rintro ex w21 ⟨ab1, cb1, rfl, G21⟩; have O21 : Hid (Only (fun _ => False) w17 w21) := O20.out.trans G21.out.2 (fun _ _ g => g))
          | (go_at_call 22; have o9 := O21.out; refine (show Calls Tryz.prog 22 _ _ _ from HSN.out _ _ _ _ _ _ _ (HL11.out.only (OC.out.trans O21.out (fun _ _ g => g)) (fun _ _ _ g => g)) G21.out.1).mono ?_; rintro ex w22 ⟨rfl, o22⟩; have O22 : Hid (Only (fun _ => False) w17 w22) := O21.out.trans o22 (fun _ _ g => g)))
      have HF : Hid (Only (fun _ => False) w w22) := (HW.out.trans O17.out (fun _ _ g => g)).trans O22.out (fun _ _ g => g)
      go_wp2
      go_ret
      exact ⟨rfl, HF.out⟩
end Go.Proofs.YtllpacppedobjaaGreatDoor
