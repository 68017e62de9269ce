/- What SameBytes answers of the same bytes; the calls on a store, for the laws' walks; the walk of ShadowPuts. What told and same answer. What same answers of two that tell the same. Pages lie apart: those of the data and those of the tables; how many are free behind a commit. -/
import Derived.Test.YtpoakkdkibameaaGam
namespace Go.Proofs.Ytpoakkdkibameaa
open Go.RowKit Go.Maps Go.Shelf
set_option linter.unusedSimpArgs false
set_option linter.unusedVariables false

set_option maxRecDepth 100000 in
set_option maxHeartbeats 1000000 in
theorem same_any (v1 v2 : Value) (zs : List Nat) (w : World) (h1 : BytesAt w v1 zs) (h2 : BytesAt w v2 zs) :
    Calls Try.prog 18 #[v1, v2] w fun e w' => e = .returned (.bool true) ∧ Only (fun _ => False) w w' := by
  obtain ⟨a1, c1, rfl, _, f1⟩ := h1.form
  obtain ⟨a2, c2, rfl, _, f2⟩ := h2.form
  obtain ⟨m, hm⟩ : ∃ m, m = zs.length := ⟨_, rfl⟩
  have hm2 : m ≤ 140737488355328 := hm ▸ h1.2.1
  rw [← hm]
  rw [← hm] at f1 f2
  clear h1 h2 hm
  go_enter Try.func18, Try.ntmps18
  go_wp2
  go_loopw [5] (fun t wr => ∃ k : Nat, k ≤ m ∧ t = .int .i64 k ∧ Only (fun _ => False) w wr) (fun t _ => m - (intOf t).toNat)
  case atStart => exact ⟨0, Nat.zero_le _, rfl, Only.refl _ _⟩
  case round =>
    obtain ⟨k, hk, rfl, ho⟩ := hrel
    by_cases hlt : k < m
    · obtain ⟨g1, o1, rfl, x1⟩ := f1 k hlt
      obtain ⟨g2, o2, rfl, x2⟩ := f2 k hlt
      have y1 := ho.cell x1 (fun e => e)
      have y2 := ho.cell x2 (fun e => e)
      have k0 : (0 : Int) ≤ (k : Int) := Int.natCast_nonneg _
      have k1 : (k : Int) < (m : Int) := by omega
      obtain ⟨z, hz⟩ : ∃ z, z = zs.getD k 0 := ⟨_, rfl⟩
      rw [← hz] at y1 y2
      have HO : Hid (Only (fun _ => False) w wr) := ho
      clear f1 f2 x1 x2 ho hz
      go_wp2_with fail
      go_region_held3 (fun w' => w'.cell? ⟨g1, o1 + k, none⟩ = some (.int .u8 (z : Nat)) ∧ w'.cell? ⟨g2, o2 + k, none⟩ = some (.int .u8 (z : Nat))) (go_keep) (fail)
      go_wp2
      go_roundw
      case rel => exact ⟨k + 1, by omega, by go_num, HO.out.drew⟩
      case measure => simp [intOf]; omega
    · obtain rfl : k = m := by omega
      clear f1 f2
      go_wp2
      go_ret
      exact ⟨rfl, ho⟩

/-- What Get answers. -/
def gErr (x : SS) (i : Int) : Int := if 0 ≤ i ∧ i < 728 then (if (pgAt x.now i).isSome then 0 else 6) else 4
def gDat (x : SS) (i : Int) : List Nat := if 0 ≤ i ∧ i < 728 then ((pgAt x.now i).getD (0, [])).2 else []
section
variable {w : World} {dk : Nat → Prop} {s p mc mn : Nat} {tv : Value} {x : SS}
theorem get_all (h : StAt w dk s p mc mn tv x) (i : Int) :
    Calls Try.prog 15 #[.pointer (some ⟨s, 0, none⟩), .int .i64 i] w fun e w' => ∃ u, e = .returned (.tuple #[u, .int .i64 (gErr x i)]) ∧ Hid (Fresh w' w.heap.size u (gDat x i) ∧ Only (fun _ => False) w w') := by
  unfold gErr gDat
  by_cases hi : 0 ≤ i ∧ i < 728
  · rw [if_pos hi, if_pos hi]
    cases hg : pgAt x.now i with
    | some y =>
      obtain ⟨a, zs⟩ := y
      refine (get_some h i hi hg).mono ?_
      rintro e w' ⟨u, rfl, q1, q2⟩
      exact ⟨u, rfl, q1, q2⟩
    | none =>
      refine (get_none h i hi hg).mono ?_
      rintro e w' ⟨rfl, q2⟩
      exact ⟨_, rfl, Fresh.nil _ _, q2⟩
  · rw [if_neg hi, if_neg hi]
    refine (get_out h i (by omega)).mono ?_
    rintro e w' ⟨rfl, rfl⟩
    exact ⟨_, rfl, Fresh.nil _ _, Only.refl _ _⟩
end
theorem stable_true : Stable (fun _ _ => True) := ⟨fun _ _ _ _ _ _ => trivial, fun _ _ _ => trivial, fun _ _ => trivial, fun _ _ _ => trivial⟩
theorem pgAt_put_same {x : Pgs} (h : Rise x) (i : Int) (zs : List Nat) : pgAt (putL x i (0, zs)) i = some (0, zs) := getL_put_same h i _
theorem pgAt_put_other {x : Pgs} (h : Rise x) {i k : Int} (hk : k ≠ i) (zs : List Nat) : pgAt (putL x i (0, zs)) k = pgAt x k := getL_put_other h hk _
theorem pgAt_del_same (x : Pgs) (i : Int) : pgAt (delL x i) i = none := getL_del_same _ _

set_option maxRecDepth 100000 in
set_option maxHeartbeats 2000000 in
theorem puts_any (n : Int) (v : Value) (os : List OpS) (i k : Int) (va vb : Value) (za zb : List Nat) (w : World) (hsc : ScriptAt w v os) (ha : BytesAt w va za) (hb : BytesAt w vb zb) :
    Calls Try.prog 4 #[.int .i64 n, v, .int .i64 i, .int .i64 k, va, vb] w fun e w' => e = .returned (.bool true) ∧ Below w.heap.size w w' := by
  have hN := secsN_ge n
  have HG : Hid (Calls Try.prog 6 _ _ _) := grown_core stable_true (secsN n) hN trivial n rfl v os w hsc
  obtain ⟨aa, ca, rfl, _, _⟩ := ha.form
  obtain ⟨ab, cb, rfl, _, _⟩ := hb.form
  have HA : Hid (BytesAt w (.slice aa za.length ca) za ∧ BytesAt w (.slice ab zb.length cb) zb) := ⟨ha, hb⟩
  obtain ⟨na, hna⟩ : ∃ q, q = za.length := ⟨_, rfl⟩
  obtain ⟨nb, hnb⟩ : ∃ q, q = zb.length := ⟨_, rfl⟩
  have HNa : Hid (na = za.length ∧ nb = zb.length) := ⟨hna, hnb⟩
  rw [← hna, ← hnb] at HA ⊢
  clear hsc ha hb hna hnb
  go_enter Try.func4, Try.ntmps4
  go_wp2_with fail
  refine (show Calls Try.prog 6 _ _ _ from HG.out).mono ?_
  rintro e w1 ⟨p, s, S, rfl, HW1⟩
  clear HG
  go_wp2_with fail
  refine (awake_any w1).mono ?_
  rintro e w2 ⟨rfl, ho2⟩
  have HST : Hid (∃ dk mc mn tv x, StAt w2 dk s p mc mn tv x ∧ (∀ k, dk k → k < w2.heap.size) ∧ w.heap.size ≤ mn ∧ Only (fun k => w.heap.size ≤ k) w w2) := by
    obtain ⟨⟨x, d, hp, _, _, ho⟩, _⟩ := HW1.out
    obtain ⟨pv, mc, mn, tv, B, h1, h2, h3, h4⟩ := hp.all
    exact ⟨diskB p S pv, mc, mn, tv, x, h3.still ho2, fun k hk => Nat.lt_of_lt_of_le (h1.lt k hk).2 ho2.size, h4 mn (.inr (.inr (.inl rfl))), ho.trans ho2 (fun _ _ e => e.elim)⟩
  clear HW1 ho2
  obtain ⟨dk, mc, mn, tv, x, hst, hdk, hmnB, how⟩ := HST.out
  have hmn := hst.now.lt
  have HS2 : Hid (StAt w2 dk s p mc mn tv x ∧ Only (fun k => w.heap.size ≤ k) w w2) := ⟨hst, how⟩
  have HGk : Hid (Calls Try.prog 15 _ _ _) := get_all hst k
  clear HST hst how
  go_wp2_with fail
  refine (show Calls Try.prog 15 _ _ _ from HGk.out).mono ?_
  rintro e w3 ⟨uo, rfl, HU3⟩
  clear HGk
  have O3 : Hid (Only (fun k => w.heap.size ≤ k) w w3) := HS2.out.2.trans HU3.out.2 (fun _ _ e => e.elim)
  have HOa : Hid (Calls Try.prog 17 _ _ _) := own_any (.slice aa na ca) za w3 (HA.out.1.older O3.out)
  obtain ⟨eo, heo⟩ : ∃ eo, eo = gErr x k := ⟨_, rfl⟩
  have HEO : Hid (eo = gErr x k) := heo
  rw [← heo]
  clear heo
  go_wp2_with fail
  refine (show Calls Try.prog 17 _ _ _ from HOa.out).mono ?_
  rintro e w4 ⟨u4, rfl, hf4, ho4⟩
  clear HOa
  obtain ⟨a4, c4, rfl⟩ := hf4.form
  rw [← HNa.out.1] at hf4 ⊢
  have s3 := HU3.out.2.size
  have hs4 : StAt w4 dk s p mc mn tv x := (HS2.out.1.still HU3.out.2).still ho4
  have hdk4 : ∀ k, dk k → k < w4.heap.size := fun k hk => by have := hdk k hk; have := ho4.size; omega
  have O4 : Hid (Only (fun k => w.heap.size ≤ k) w w4) := O3.out.trans ho4 (fun _ _ e => e.elim)
  by_cases hir : 0 ≤ i ∧ i < 728
  · by_cases hla : za.length ≤ 116
    · have HPa : Hid (Calls Try.prog 16 _ _ _) := put_ok hs4 hdk4 i hir (.slice a4 na c4) za hf4.bytes hla
      have RX : Hid (Rise x.now) := hs4.now.rise
      have HU4 : Hid (Fresh w4 w2.heap.size uo (gDat x k)) := HU3.out.1.frame ho4
      clear hs4 hf4 ho4
      go_wp2_with fail
      refine (show Calls Try.prog 16 _ _ _ from HPa.out).mono ?_
      rintro e w5 ⟨rfl, hs5, ho5⟩
      clear HPa
      have hpi : pgAt ({ x with now := putL x.now i (0, za) } : SS).now i = some (0, za) := pgAt_put_same RX.out i za
      have HG1 : Hid (Calls Try.prog 15 _ _ _) := get_all hs5 i
      have ge : gErr ({ x with now := putL x.now i (0, za) } : SS) i = 0 := by unfold gErr; rw [if_pos hir, hpi]; rfl
      have gd : gDat ({ x with now := putL x.now i (0, za) } : SS) i = za := by unfold gDat; rw [if_pos hir, hpi]; rfl
      rw [ge, gd] at HG1
      have HS5 : Hid (StAt w5 dk s p mc mn tv { x with now := putL x.now i (0, za) }) := hs5
      have O5 : Hid (Only (fun k => w.heap.size ≤ k) w w5) := O4.out.trans ho5 (fun k _ e => by omega)
      have HU5 : Hid (BytesAt w5 uo (gDat x k)) := HU4.out.bytes.keep ho5 (fun b e e' => by have := (HU4.out.1.lt b e).1; omega)
      have D5 : Hid (∀ k, dk k → k < w5.heap.size) := fun k hk => Nat.lt_of_lt_of_le (hdk4 k hk) ho5.size
      clear hs5 ho5 hpi ge gd HU4
      go_wp2_with fail
      refine (show Calls Try.prog 15 _ _ _ from HG1.out).mono ?_
      rintro e w6 ⟨ux, rfl, HU6⟩
      clear HG1
      have HG2 : Hid (Calls Try.prog 15 _ _ _) := get_all (HS5.out.still HU6.out.2) k
      obtain ⟨ey, hey⟩ : ∃ ey, ey = gErr ({ x with now := putL x.now i (0, za) } : SS) k := ⟨_, rfl⟩
      have HEY : Hid (ey = gErr ({ x with now := putL x.now i (0, za) } : SS) k) := hey
      rw [← hey] at HG2
      clear hey
      go_wp2_with fail
      refine (show Calls Try.prog 15 _ _ _ from HG2.out).mono ?_
      rintro e w7 ⟨uy, rfl, HU7⟩
      clear HG2
      have O57 : Hid (Only (fun _ => False) w5 w7) := HU6.out.2.trans HU7.out.2 (fun _ _ e => e)
      have O7 : Hid (Only (fun k => w.heap.size ≤ k) w w7) := O5.out.trans O57.out (fun _ _ e => e.elim)
      have HSa : Hid (Calls Try.prog 18 _ _ _) := same_any ux (.slice aa na ca) za w7 (HU6.out.1.bytes.frame HU7.out.2) (HA.out.1.older O7.out)
      by_cases hik : i = k
      · subst hik
        go_wp2_with fail
        refine (show Calls Try.prog 18 _ _ _ from HSa.out).mono ?_
        rintro e WB ⟨rfl, hoB⟩
        clear HSa
        have OB : Hid (Only (fun k => w.heap.size ≤ k) w WB) := O7.out.trans hoB (fun _ _ e => e.elim)
        have SB : Hid (StAt WB dk s p mc mn tv { x with now := putL x.now i (0, za) }) := (HS5.out.still O57.out).still hoB
        have DB : Hid (∀ k, dk k → k < WB.heap.size) := fun k hk => Nat.lt_of_lt_of_le (D5.out k hk) (Nat.le_trans O57.out.size hoB.size)
        clear hoB
        have HOb : Hid (Calls Try.prog 17 _ _ _) := own_any (.slice ab nb cb) zb WB (HA.out.2.older OB.out)
        go_wp2_with fail
        refine (show Calls Try.prog 17 _ _ _ from HOb.out).mono ?_
        rintro e w8 ⟨u8, rfl, hf8, ho8⟩
        clear HOb
        obtain ⟨a8, c8, rfl⟩ := hf8.form
        rw [← HNa.out.2] at hf8 ⊢
        have hs8 : StAt w8 dk s p mc mn tv { x with now := putL x.now i (0, za) } := SB.out.still ho8
        have ow8 : Only (fun k => w.heap.size ≤ k) w w8 := OB.out.trans ho8 (fun _ _ e => e.elim)
        have hdk8 : ∀ k, dk k → k < w8.heap.size := fun k hk => Nat.lt_of_lt_of_le (DB.out k hk) ho8.size
        by_cases hlb : zb.length ≤ 116
        · have HPb : Hid (Calls Try.prog 16 _ _ _) := put_ok hs8 hdk8 i hir (.slice a8 nb c8) zb hf8.bytes hlb
          have OW8 : Hid (Only (fun k => w.heap.size ≤ k) w w8) := ow8
          clear hs8 hf8 ho8 ow8 hdk8
          go_wp2_with fail
          refine (show Calls Try.prog 16 _ _ _ from HPb.out).mono ?_
          rintro e w9 ⟨rfl, hs9, ho9⟩
          clear HPb
          obtain ⟨xz, hxz⟩ : ∃ xz : SS, xz = { ({ x with now := putL x.now i (0, za) } : SS) with now := putL (putL x.now i (0, za)) i (0, zb) } := ⟨_, rfl⟩
          have hs9' : StAt w9 dk s p mc mn tv xz := by rw [hxz]; exact hs9
          have hpz : pgAt xz.now i = some (0, zb) := by rw [hxz]; exact pgAt_put_same (RX.out.put i (0, za)) i zb
          have O9 : Hid (Only (fun k => w.heap.size ≤ k) w w9) := OW8.out.trans ho9 (fun k _ e => by omega)
          have HGz : Hid (Calls Try.prog 15 _ _ _) := get_all hs9' i
          have ge : gErr xz i = 0 := by unfold gErr; rw [if_pos hir, hpz]; rfl
          have gd : gDat xz i = zb := by unfold gDat; rw [if_pos hir, hpz]; rfl
          rw [ge, gd] at HGz
          have S9 : Hid (StAt w9 dk s p mc mn tv xz ∧ pgAt xz.now i = some (0, zb)) := ⟨hs9', hpz⟩
          clear hs9 ho9 hxz hs9' hpz ge gd
          go_wp2_with fail
          refine (show Calls Try.prog 15 _ _ _ from HGz.out).mono ?_
          rintro e wz ⟨uz, rfl, HUz⟩
          clear HGz
          have Oz : Hid (Only (fun k => w.heap.size ≤ k) w wz) := O9.out.trans HUz.out.2 (fun _ _ e => e.elim)
          have HSb : Hid (Calls Try.prog 18 _ _ _) := same_any uz (.slice ab nb cb) zb wz HUz.out.1.bytes (HA.out.2.older Oz.out)
          go_wp2_with fail
          refine (show Calls Try.prog 18 _ _ _ from HSb.out).mono ?_
          rintro e wy ⟨rfl, hoy⟩
          clear HSb
          have HX : Hid (StAt wy dk s p mc mn tv xz ∧ pgAt xz.now i = some (0, zb) ∧ Only (fun k => w.heap.size ≤ k) w wy) := ⟨(S9.out.1.still HUz.out.2).still hoy, S9.out.2, Oz.out.trans hoy (fun _ _ e => e.elim)⟩
          clear hoy S9 HUz Oz O9
          have HDr : Hid (Calls Try.prog 19 _ _ _) := drop_ok HX.out.1 i hir HX.out.2.1
          have hmnZ := HX.out.1.now.lt
          go_wp2_with fail
          refine (show Calls Try.prog 19 _ _ _ from HDr.out).mono ?_
          rintro e wd ⟨rfl, hsd, hod⟩
          clear HDr
          have HSd : Hid (StAt wd dk s p mc mn tv { xz with now := delL xz.now i } ∧ Only (fun k => w.heap.size ≤ k) w wd) := ⟨hsd, HX.out.2.2.trans hod (fun k _ e => by omega)⟩
          have HGd : Hid (Calls Try.prog 15 _ _ _) := get_all hsd i
          have hg6 : gErr { xz with now := delL xz.now i } i = 6 := by
            unfold gErr
            rw [if_pos hir, pgAt_del_same]
            rfl
          rw [hg6] at HGd
          clear hsd hod hg6
          go_wp2_with fail
          refine (show Calls Try.prog 15 _ _ _ from HGd.out).mono ?_
          rintro e we ⟨ue, rfl, HUe⟩
          clear HGd
          have HD2 : Hid (Calls Try.prog 19 _ _ _) := drop_none (HSd.out.1.still HUe.out.2) i hir (pgAt_del_same _ _)
          go_wp2_with (go_at_call 19; refine (show Calls Try.prog 19 _ _ _ from HD2.out).mono ?_; rintro e wf ⟨rfl, hof⟩)
          go_ret
          exact ⟨rfl, ((HSd.out.2.trans HUe.out.2 (fun _ _ e => e.elim)).trans hof (fun _ _ e => e.elim)).below (fun _ e => e) (Nat.le_refl _)⟩
        · have HPb : Hid (Calls Try.prog 16 _ _ _) := put_large hs8 i hir a8 nb c8 (by have := HNa.out.2; omega)
          obtain ⟨xz, hxz⟩ : ∃ xz : SS, xz = { x with now := putL x.now i (0, za) } := ⟨_, rfl⟩
          have HX : Hid (StAt w8 dk s p mc mn tv xz ∧ pgAt xz.now i = some (0, za) ∧ Only (fun k => w.heap.size ≤ k) w w8) := ⟨by rw [hxz]; exact hs8, by rw [hxz]; exact pgAt_put_same RX.out i za, ow8⟩
          clear hs8 hf8 ho8 ow8 hdk8 hxz
          go_wp2_with fail
          refine (show Calls Try.prog 16 _ _ _ from HPb.out).mono ?_
          rintro e w9 ⟨rfl, rfl⟩
          clear HPb
          have HDr : Hid (Calls Try.prog 19 _ _ _) := drop_ok HX.out.1 i hir HX.out.2.1
          have hmnZ := HX.out.1.now.lt
          go_wp2_with fail
          refine (show Calls Try.prog 19 _ _ _ from HDr.out).mono ?_
          rintro e wd ⟨rfl, hsd, hod⟩
          clear HDr
          have HSd : Hid (StAt wd dk s p mc mn tv { xz with now := delL xz.now i } ∧ Only (fun k => w.heap.size ≤ k) w wd) := ⟨hsd, HX.out.2.2.trans hod (fun k _ e => by omega)⟩
          have HGd : Hid (Calls Try.prog 15 _ _ _) := get_all hsd i
          have hg6 : gErr { xz with now := delL xz.now i } i = 6 := by
            unfold gErr
            rw [if_pos hir, pgAt_del_same]
            rfl
          rw [hg6] at HGd
          clear hsd hod hg6
          go_wp2_with fail
          refine (show Calls Try.prog 15 _ _ _ from HGd.out).mono ?_
          rintro e we ⟨ue, rfl, HUe⟩
          clear HGd
          have HD2 : Hid (Calls Try.prog 19 _ _ _) := drop_none (HSd.out.1.still HUe.out.2) i hir (pgAt_del_same _ _)
          go_wp2_with (go_at_call 19; refine (show Calls Try.prog 19 _ _ _ from HD2.out).mono ?_; rintro e wf ⟨rfl, hof⟩)
          go_ret
          exact ⟨rfl, ((HSd.out.2.trans HUe.out.2 (fun _ _ e => e.elim)).trans hof (fun _ _ e => e.elim)).below (fun _ e => e) (Nat.le_refl _)⟩
      · have hki : ¬ k = i := fun e => hik e.symm
        have hik' : (i == k) = false := by simpa using hik
        have eey : ey = eo := by
          rw [HEY.out, HEO.out]
          unfold gErr
          rw [pgAt_put_other RX.out hki]
        have hyd : gDat ({ x with now := putL x.now i (0, za) } : SS) k = gDat x k := by
          unfold gDat
          rw [pgAt_put_other RX.out hki]
        subst eey
        go_wp2_with fail
        refine (show Calls Try.prog 18 _ _ _ from HSa.out).mono ?_
        rintro e wq ⟨rfl, hoq⟩
        clear HSa
        have HSy : Hid (Calls Try.prog 18 _ _ _) := same_any uo uy (gDat x k) wq ((HU5.out.frame O57.out).frame hoq) (by rw [← hyd]; exact (HU7.out.1.bytes.frame hoq))
        have Oq : Hid (Only (fun _ => False) w7 wq) := hoq
        clear hoq hyd
        go_wp2_with fail
        refine (show Calls Try.prog 18 _ _ _ from HSy.out).mono ?_
        rintro e WB ⟨rfl, hoB0⟩
        clear HSy
        have hoB : Only (fun _ => False) w7 WB := Oq.out.trans hoB0 (fun _ _ e => e)
        have OB : Hid (Only (fun k => w.heap.size ≤ k) w WB) := O7.out.trans hoB (fun _ _ e => e.elim)
        have SB : Hid (StAt WB dk s p mc mn tv { x with now := putL x.now i (0, za) }) := (HS5.out.still O57.out).still hoB
        have DB : Hid (∀ k, dk k → k < WB.heap.size) := fun k hk => Nat.lt_of_lt_of_le (D5.out k hk) (Nat.le_trans O57.out.size hoB.size)
        clear hoB hoB0 Oq
        have HOb : Hid (Calls Try.prog 17 _ _ _) := own_any (.slice ab nb cb) zb WB (HA.out.2.older OB.out)
        go_wp2_with fail
        refine (show Calls Try.prog 17 _ _ _ from HOb.out).mono ?_
        rintro e w8 ⟨u8, rfl, hf8, ho8⟩
        clear HOb
        obtain ⟨a8, c8, rfl⟩ := hf8.form
        rw [← HNa.out.2] at hf8 ⊢
        have hs8 : StAt w8 dk s p mc mn tv { x with now := putL x.now i (0, za) } := SB.out.still ho8
        have ow8 : Only (fun k => w.heap.size ≤ k) w w8 := OB.out.trans ho8 (fun _ _ e => e.elim)
        have hdk8 : ∀ k, dk k → k < w8.heap.size := fun k hk => Nat.lt_of_lt_of_le (DB.out k hk) ho8.size
        by_cases hlb : zb.length ≤ 116
        · have HPb : Hid (Calls Try.prog 16 _ _ _) := put_ok hs8 hdk8 i hir (.slice a8 nb c8) zb hf8.bytes hlb
          have OW8 : Hid (Only (fun k => w.heap.size ≤ k) w w8) := ow8
          clear hs8 hf8 ho8 ow8 hdk8
          go_wp2_with fail
          refine (show Calls Try.prog 16 _ _ _ from HPb.out).mono ?_
          rintro e w9 ⟨rfl, hs9, ho9⟩
          clear HPb
          obtain ⟨xz, hxz⟩ : ∃ xz : SS, xz = { ({ x with now := putL x.now i (0, za) } : SS) with now := putL (putL x.now i (0, za)) i (0, zb) } := ⟨_, rfl⟩
          have hs9' : StAt w9 dk s p mc mn tv xz := by rw [hxz]; exact hs9
          have hpz : pgAt xz.now i = some (0, zb) := by rw [hxz]; exact pgAt_put_same (RX.out.put i (0, za)) i zb
          have O9 : Hid (Only (fun k => w.heap.size ≤ k) w w9) := OW8.out.trans ho9 (fun k _ e => by omega)
          have HGz : Hid (Calls Try.prog 15 _ _ _) := get_all hs9' i
          have ge : gErr xz i = 0 := by unfold gErr; rw [if_pos hir, hpz]; rfl
          have gd : gDat xz i = zb := by unfold gDat; rw [if_pos hir, hpz]; rfl
          rw [ge, gd] at HGz
          have S9 : Hid (StAt w9 dk s p mc mn tv xz ∧ pgAt xz.now i = some (0, zb)) := ⟨hs9', hpz⟩
          clear hs9 ho9 hxz hs9' hpz ge gd
          go_wp2_with fail
          refine (show Calls Try.prog 15 _ _ _ from HGz.out).mono ?_
          rintro e wz ⟨uz, rfl, HUz⟩
          clear HGz
          have Oz : Hid (Only (fun k => w.heap.size ≤ k) w wz) := O9.out.trans HUz.out.2 (fun _ _ e => e.elim)
          have HSb : Hid (Calls Try.prog 18 _ _ _) := same_any uz (.slice ab nb cb) zb wz HUz.out.1.bytes (HA.out.2.older Oz.out)
          go_wp2_with fail
          refine (show Calls Try.prog 18 _ _ _ from HSb.out).mono ?_
          rintro e wy ⟨rfl, hoy⟩
          clear HSb
          have HX : Hid (StAt wy dk s p mc mn tv xz ∧ pgAt xz.now i = some (0, zb) ∧ Only (fun k => w.heap.size ≤ k) w wy) := ⟨(S9.out.1.still HUz.out.2).still hoy, S9.out.2, Oz.out.trans hoy (fun _ _ e => e.elim)⟩
          clear hoy S9 HUz Oz O9
          have HDr : Hid (Calls Try.prog 19 _ _ _) := drop_ok HX.out.1 i hir HX.out.2.1
          have hmnZ := HX.out.1.now.lt
          go_wp2_with fail
          refine (show Calls Try.prog 19 _ _ _ from HDr.out).mono ?_
          rintro e wd ⟨rfl, hsd, hod⟩
          clear HDr
          have HSd : Hid (StAt wd dk s p mc mn tv { xz with now := delL xz.now i } ∧ Only (fun k => w.heap.size ≤ k) w wd) := ⟨hsd, HX.out.2.2.trans hod (fun k _ e => by omega)⟩
          have HGd : Hid (Calls Try.prog 15 _ _ _) := get_all hsd i
          have hg6 : gErr { xz with now := delL xz.now i } i = 6 := by
            unfold gErr
            rw [if_pos hir, pgAt_del_same]
            rfl
          rw [hg6] at HGd
          clear hsd hod hg6
          go_wp2_with fail
          refine (show Calls Try.prog 15 _ _ _ from HGd.out).mono ?_
          rintro e we ⟨ue, rfl, HUe⟩
          clear HGd
          have HD2 : Hid (Calls Try.prog 19 _ _ _) := drop_none (HSd.out.1.still HUe.out.2) i hir (pgAt_del_same _ _)
          go_wp2_with (go_at_call 19; refine (show Calls Try.prog 19 _ _ _ from HD2.out).mono ?_; rintro e wf ⟨rfl, hof⟩)
          go_ret
          exact ⟨rfl, ((HSd.out.2.trans HUe.out.2 (fun _ _ e => e.elim)).trans hof (fun _ _ e => e.elim)).below (fun _ e => e) (Nat.le_refl _)⟩
        · have HPb : Hid (Calls Try.prog 16 _ _ _) := put_large hs8 i hir a8 nb c8 (by have := HNa.out.2; omega)
          obtain ⟨xz, hxz⟩ : ∃ xz : SS, xz = { x with now := putL x.now i (0, za) } := ⟨_, rfl⟩
          have HX : Hid (StAt w8 dk s p mc mn tv xz ∧ pgAt xz.now i = some (0, za) ∧ Only (fun k => w.heap.size ≤ k) w w8) := ⟨by rw [hxz]; exact hs8, by rw [hxz]; exact pgAt_put_same RX.out i za, ow8⟩
          clear hs8 hf8 ho8 ow8 hdk8 hxz
          go_wp2_with fail
          refine (show Calls Try.prog 16 _ _ _ from HPb.out).mono ?_
          rintro e w9 ⟨rfl, rfl⟩
          clear HPb
          have HDr : Hid (Calls Try.prog 19 _ _ _) := drop_ok HX.out.1 i hir HX.out.2.1
          have hmnZ := HX.out.1.now.lt
          go_wp2_with fail
          refine (show Calls Try.prog 19 _ _ _ from HDr.out).mono ?_
          rintro e wd ⟨rfl, hsd, hod⟩
          clear HDr
          have HSd : Hid (StAt wd dk s p mc mn tv { xz with now := delL xz.now i } ∧ Only (fun k => w.heap.size ≤ k) w wd) := ⟨hsd, HX.out.2.2.trans hod (fun k _ e => by omega)⟩
          have HGd : Hid (Calls Try.prog 15 _ _ _) := get_all hsd i
          have hg6 : gErr { xz with now := delL xz.now i } i = 6 := by
            unfold gErr
            rw [if_pos hir, pgAt_del_same]
            rfl
          rw [hg6] at HGd
          clear hsd hod hg6
          go_wp2_with fail
          refine (show Calls Try.prog 15 _ _ _ from HGd.out).mono ?_
          rintro e we ⟨ue, rfl, HUe⟩
          clear HGd
          have HD2 : Hid (Calls Try.prog 19 _ _ _) := drop_none (HSd.out.1.still HUe.out.2) i hir (pgAt_del_same _ _)
          go_wp2_with (go_at_call 19; refine (show Calls Try.prog 19 _ _ _ from HD2.out).mono ?_; rintro e wf ⟨rfl, hof⟩)
          go_ret
          exact ⟨rfl, ((HSd.out.2.trans HUe.out.2 (fun _ _ e => e.elim)).trans hof (fun _ _ e => e.elim)).below (fun _ e => e) (Nat.le_refl _)⟩
    · have hna : 116 < na := by have := HNa.out.1; omega
      have hna' : (116 : Int) < (na : Int) := by omega
      have HPa : Hid (Calls Try.prog 16 _ _ _) := put_large hs4 i hir a4 na c4 hna
      clear hs4 hf4 ho4 hdk4
      go_wp2_with fail
      refine (show Calls Try.prog 16 _ _ _ from HPa.out).mono ?_
      rintro e w5 ⟨rfl, rfl⟩
      clear HPa
      go_wp2
      go_ret
      exact ⟨rfl, O4.out.below (fun _ e => e) (Nat.le_refl _)⟩
  · have HPa : Hid (Calls Try.prog 16 _ _ _) := put_out hs4 i (by omega) (.slice a4 na c4)
    clear hs4 hf4 ho4 hdk4
    go_wp2_with fail
    refine (show Calls Try.prog 16 _ _ _ from HPa.out).mono ?_
    rintro e w5 ⟨rfl, rfl⟩
    clear HPa
    by_cases hi0 : i < 0
    · go_wp2
      go_ret
      exact ⟨rfl, O4.out.below (fun _ e => e) (Nat.le_refl _)⟩
    · have hi1 : 728 ≤ i := by omega
      go_wp2
      go_ret
      exact ⟨rfl, O4.out.below (fun _ e => e) (Nat.le_refl _)⟩
end Go.Proofs.Ytpoakkdkibameaa
namespace Go.Proofs.Ytpoakkdkibameaa
open Go.RowKit Go.Maps Go.Shelf
set_option linter.unusedSimpArgs false
set_option linter.unusedVariables false

/-- Pages as they are told: numbers, slices of data. -/
def tdL (rs : List (Int × Value)) : List Value := rs.flatMap fun q => [.int .i64 q.1, q.2]
theorem tdL_length (rs : List (Int × Value)) : (tdL rs).length = rs.length * 2 := by
  induction rs with
  | nil => rfl
  | cons q r ih => simp only [tdL, List.flatMap_cons, List.length_append, List.length_cons, List.length_nil] at *; omega
theorem tdL_snoc (rs : List (Int × Value)) (q : Int × Value) : tdL (rs ++ [q]) = tdL rs ++ [.int .i64 q.1, q.2] := by simp [tdL]
theorem tdL_get : ∀ (rs : List (Int × Value)) (k : Nat) (h : k < rs.length), (tdL rs)[k * 2]? = some (.int .i64 rs[k].1) ∧ (tdL rs)[k * 2 + 1]? = some rs[k].2
  | q :: r, 0, _ => ⟨rfl, rfl⟩
  | q :: r, k + 1, h => by
    have ih := tdL_get r k (by simpa using h)
    have e : tdL (q :: r) = .int .i64 q.1 :: q.2 :: tdL r := rfl
    rw [e, show (k + 1) * 2 = k * 2 + 1 + 1 by omega]
    simpa using ih
/-- The slice v holds the pages l, told as rs; all of it was made since B. -/
structure TdAt (W : World) (B : Nat) (v : Value) (rs : List (Int × Value)) (l : List (Int × List Nat)) : Prop where
  own : W.ownsRow B 64 2 v rs.length (tdL rs)
  len : rs.length = l.length
  key : ∀ j (h1 : j < rs.length) (h2 : j < l.length), rs[j].1 = l[j].1 ∧ BytesAt W rs[j].2 l[j].2 ∧ ∀ b, rs[j].2.ownBlock = some b → (B ≤ b ∧ b < W.heap.size) ∧ ¬ v.ownBlock = some b
theorem TdAt.frame {W W' : World} {B : Nat} {v : Value} {rs : List (Int × Value)} {l : List (Int × List Nat)} {bs : Nat → Prop} (h : TdAt W B v rs l) (ho : Only bs W W') (hb : ∀ k, B ≤ k → k < W.heap.size → ¬ bs k) : TdAt W' B v rs l where
  own := ho.owns h.own (fun b e e' => hb b (h.own.lt b e).1 (h.own.lt b e).2 e')
  len := h.len
  key := fun j h1 h2 => by
    obtain ⟨q1, q2, q3⟩ := h.key j h1 h2
    exact ⟨q1, q2.keep ho (fun b e => hb b (q3 b e).1.1 (q3 b e).1.2), fun b e => ⟨⟨(q3 b e).1.1, Nat.lt_of_lt_of_le (q3 b e).1.2 ho.size⟩, (q3 b e).2⟩⟩
theorem infoP : (Try.prog.info? 64).map (fun i => (i.zero, i.size, i.bytes)) = some (some (.agg #[.int .i64 0, .slice none 0 0]), 2, 32) := by kernel_rfl
/-- append(v, page{i, u}) -/
theorem app_td {w : World} {B : Nat} {v : Value} {rs : List (Int × Value)} (h : w.ownsRow B 64 2 v rs.length (tdL rs)) (hB : B ≤ w.heap.size) (i : Int) (a : Option Addr) (n c : Nat) (hl : rs.length + 1 ≤ 1048576) :
    ∃ a' cap w', (∀ ty, (Builtin.append_ #[35, 35] ty #[v, .slice (some ⟨w.heap.size, 0, none⟩) 1 1]).run Try.prog (w.alloc (.cells #[.int .i64 i, .slice a n c] 64)) = .ok (.slice a' (rs.length + 1) cap) w') ∧ w'.ownsRow B 64 2 (.slice a' (rs.length + 1) cap) (rs.length + 1) (tdL (rs ++ [(i, .slice a n c)])) ∧ Only (fun k => v.ownBlock = some k) w w' ∧ ((Value.slice a' (rs.length + 1) cap).ownBlock = v.ownBlock ∨ (Value.slice a' (rs.length + 1) cap).ownBlock = some (w.heap.size + 1)) := by
  obtain ⟨i0, hi0, hz0, hz1, hz2⟩ := info_parts infoP
  have o1 : Only (fun _ => False) w (w.alloc (.cells #[.int .i64 i, .slice a n c] 64)) := (Only.refl _ w).alloc _
  have h2 := o1.owns h (fun _ _ e => e)
  have key := fun ty => run_append_own_at (P := Try.prog) (w.alloc (.cells #[.int .i64 i, .slice a n c] 64)) B 35 ty 64 i0 _ 2 32 Try.underlying35 hi0 hz0 hz1 hz2 rfl (by omega) v rs.length (tdL rs) h2 ⟨w.heap.size, 0, none⟩ 1 1 [.int .i64 i, .slice a n c] rfl (World.news_of_block (heap_alloc_new w _)) (by simp [Value.oneCell']) (by unfold maxLen; omega) (by omega) (by have := o1.size; omega)
  obtain ⟨v', w', hr, own', hg, _, hbk⟩ := key 0
  obtain ⟨a', cap, rfl⟩ := ownsRow_slice own'
  refine ⟨a', cap, w', fun ty => by rw [← hr]; rfl, ?_, (o1.mono (fun _ _ e => e.elim)).trans ((Only.refl _ _).grown hg (fun k e hk => e)) (fun _ _ e => e), by simpa using hbk⟩
  rw [tdL_snoc]
  exact own'
theorem own_cells {w : World} {B n : Nat} {v : Value} {zs : List Int} (h : w.ownsRow B 3 1 v n (zs.map (Value.int .i64))) (hn : zs.length = n) : ∃ a c, v = .slice a n c ∧ ∀ j, j < n → ∃ g, a = some ⟨g, 0, none⟩ ∧ w.cell? ⟨g, j, none⟩ = some (.int .i64 (zs.getD j 0)) := by
  rcases h.2 with ⟨rfl, h0⟩ | ⟨g, cap, cur, rfl, _⟩
  · exact ⟨none, 0, by rw [h0], fun j hj => by omega⟩
  · refine ⟨some ⟨g, 0, none⟩, cap, rfl, fun j hj => ⟨g, rfl, ?_⟩⟩
    rw [h.cellAt j (by omega)]
    simp [List.getD, hn, hj]
theorem build_td (i : Int) (a : Option Addr) (n c : Nat) (w : World) : (Instr.build 64 #[(0, .int .i64 i), (1, .slice a n c)]).run Try.prog w = .ok (.agg #[.int .i64 i, .slice a n c]) w := by kernel_rfl
/-- What a store tells. -/
def tells (x : SS) : List (Int × List Nat) := x.now.map fun p => (p.1, p.2.2)
set_option maxRecDepth 100000 in
set_option maxHeartbeats 2000000 in
theorem told_any {w : World} {dk : Nat → Prop} {s p mc mn : Nat} {tv : Value} {x : SS} (h : StAt w dk s p mc mn tv x) :
    Calls Try.prog 10 #[.pointer (some ⟨s, 0, none⟩)] w fun e w' => ∃ v rs, e = .returned (.tuple #[v, .bool true]) ∧ Hid (TdAt w' w.heap.size v rs (tells x) ∧ Only (fun _ => False) w w') := by
  obtain ⟨zs, hzs⟩ : ∃ q, q = x.now.map (·.1) := ⟨_, rfl⟩
  have hlen := st_len h
  have hzl : zs.length = x.now.length := by rw [hzs, List.length_map]
  have HL : Hid (Calls Try.prog 22 _ _ _) := (callsIn_wide (n := 6)).1 (listed_core zs (by omega) (some ⟨s, 0, none⟩) w (fun w1 ho => by rw [hzs]; exact (callsIn_wide (n := 5)).2 (pages_ok (h.still ho))))
  have HS : Hid (StAt w dk s p mc mn tv x) := h
  have HZ : Hid (zs = x.now.map (·.1)) := hzs
  obtain ⟨n, hn⟩ : ∃ n, n = zs.length := ⟨_, rfl⟩
  have HN : Hid (n = zs.length ∧ n = x.now.length) := ⟨hn, by omega⟩
  have hn7 : n ≤ 728 := by omega
  rw [← hn] at HL
  clear h hzs hzl hn hlen
  go_enter Try.func10, Try.ntmps10
  go_wp2_with fail
  refine (show Calls Try.prog 22 _ _ _ from HL.out).mono ?_
  rintro e w1 ⟨v, rfl, hrow, ho1⟩
  obtain ⟨al, cl, rfl, hcl⟩ := own_cells hrow HN.out.1.symm
  have HC : Hid _ := hcl
  have HO1 : Hid (Only (fun _ => False) w w1) := ho1
  clear HL hrow ho1 hcl
  go_wp2_with fail
  go_loopw [5, 6, 7] (fun ok out t W => ∃ (k : Nat) (rs : List (Int × Value)), k ≤ n ∧ ok = .bool true ∧ t = .int .i64 k ∧ TdAt W w1.heap.size out rs ((tells x).take k) ∧ Only (fun _ => False) w1 W) (fun _ _ t _ => n - (intOf t).toNat)
  case atStart => exact ⟨0, [], Nat.zero_le _, rfl, rfl, { own := World.ownsRow_nil _ _ _ _, len := rfl, key := fun j h1 _ => by simp at h1 }, Only.refl _ _⟩
  case round =>
    obtain ⟨k, rs, hk, rfl, rfl, ht, ho⟩ := hrel
    obtain ⟨W, rfl⟩ : ∃ W, W = wr := ⟨_, rfl⟩
    obtain ⟨out, rfl⟩ : ∃ q, q = u6 := ⟨_, rfl⟩
    obtain ⟨ao, co, rfl⟩ := ownsRow_slice ht.own
    have hrl : rs.length = k := by rw [ht.len, List.length_take]; unfold tells; rw [List.length_map, ← HN.out.2]; omega
    by_cases hlt : k < n
    · have hkx : k < x.now.length := by have := HN.out.2; omega
      obtain ⟨g, rfl, hcell⟩ := HC.out k hlt
      have y1 := ho.cell hcell (fun e => e)
      obtain ⟨q, hq⟩ : ∃ q, q = x.now[k] := ⟨_, rfl⟩
      have hqm : q ∈ x.now := by rw [hq]; exact List.getElem_mem hkx
      have hzq : zs.getD k 0 = q.1 := by rw [HZ.out, hq]; simp [List.getD, hkx]
      rw [hzq] at y1
      have hsW : StAt W dk s p mc mn tv x := (HS.out.still HO1.out).still ho
      have hi := (hsW.wf.now q hqm).1
      have hpg : pgAt x.now q.1 = some q.2 := (getL_mem hsW.now.rise q.1 q.2).2 hqm
      have HG : Hid (Calls Try.prog 15 _ _ _) := get_all hsW q.1
      have ge : gErr x q.1 = 0 := by unfold gErr; rw [if_pos hi, hpg]; rfl
      have gd : gDat x q.1 = q.2.2 := by unfold gDat; rw [if_pos hi, hpg]; rfl
      rw [ge, gd] at HG
      have HT : Hid (TdAt W w1.heap.size (.slice ao rs.length co) rs ((tells x).take k) ∧ Only (fun _ => False) w1 W) := ⟨ht, ho⟩
      have HQ : Hid (q = x.now[k]) := hq
      obtain ⟨i, hie⟩ : ∃ i, i = q.1 := ⟨_, rfl⟩
      have HIE : Hid (i = q.1) := hie
      rw [← hie] at y1 HG
      have k0 : (0 : Int) ≤ (k : Int) := by omega
      have k1 : (k : Int) < (n : Int) := by omega
      rw [hrl] at HT ⊢
      have HRL : Hid (rs.length = k) := hrl
      have hcW : W.cell? ⟨g, k, none⟩ = some (.int .i64 i) := y1
      clear ht ho hcell hsW hpg ge gd hq hie hzq hqm y1 hi hrl
      go_wp2_with fail
      refine (show Calls Try.prog 15 _ _ _ from HG.out).mono ?_
      rintro e W2 ⟨u, rfl, HU⟩
      clear HG
      obtain ⟨au, cu, rfl⟩ := HU.out.1.form
      have hc2 : W2.cell? ⟨g, k, none⟩ = some (.int .i64 i) := HU.out.2.cell hcW (fun e => e)
      obtain ⟨nu, hnu⟩ : ∃ nu, nu = q.2.2.length := ⟨_, rfl⟩
      rw [← hnu] at HU ⊢
      have hB2 : w1.heap.size ≤ W2.heap.size := Nat.le_trans HT.out.2.size HU.out.2.size
      have hT2 := HT.out.1.frame HU.out.2 (fun _ _ _ e => e)
      have hrl := HRL.out
      obtain ⟨a5, c5, W5, hr5, hown5, ho5, hbk5⟩ := app_td (rs := rs) (by have := hT2.own; rw [hrl] at this ⊢; exact this) hB2 i au nu cu (by omega)
      rw [hrl] at hr5 hown5 hbk5
      have HR5 : Hid _ := hr5
      have hbt := build_td i au nu cu
      have HE5 : Hid (TdAt W5 w1.heap.size (.slice a5 (k + 1) c5) (rs ++ [(i, .slice au nu cu)]) ((tells x).take (k + 1)) ∧ Only (fun _ => False) w1 W5) := by
        have ow5 : Only (fun _ => False) w1 W5 := ((HT.out.2.trans HU.out.2 (fun _ _ e => e))).trans ho5 (fun b hb e => by have := (HT.out.1.own.lt b e).1; omega)
        have htk : (tells x).take (k + 1) = (tells x).take k ++ [(i, q.2.2)] := by
          have hkt : k < (tells x).length := by unfold tells; rw [List.length_map]; exact hkx
          rw [List.take_succ_eq_append_getElem hkt]
          congr 1
          simp [tells, ← HQ.out, HIE.out]
        refine ⟨{ own := by rw [List.length_append, hrl]; exact hown5, len := by rw [htk]; simp only [List.length_append, List.length_cons, List.length_nil]; have := hT2.len; omega, key := fun j h1 h2 => ?_ }, ow5⟩
        have hl0 : ((tells x).take k).length = k := by have := hT2.len; omega
        by_cases hj : j < k
        · have e1 : (rs ++ [(i, .slice au nu cu)])[j] = rs[j]'(by omega) := List.getElem_append_left _
          have e2 : ((tells x).take (k + 1))[j] = ((tells x).take k)[j]'(by omega) := by simp only [htk]; exact List.getElem_append_left _
          rw [e1, e2]
          obtain ⟨q1, q2, q3⟩ := hT2.key j (by omega) (by omega)
          have q3' : ∀ b, (rs[j]'(by omega)).2.ownBlock = some b → (w1.heap.size ≤ b ∧ b < W2.heap.size) ∧ ¬ (Value.slice ao k co).ownBlock = some b := fun b e => q3 b e
          refine ⟨q1, q2.keep ho5 (fun b e => (q3' b e).2), fun b e => ⟨⟨(q3' b e).1.1, Nat.lt_of_lt_of_le (q3' b e).1.2 ho5.size⟩, fun e' => ?_⟩⟩
          rcases hbk5 with h5 | h5
          · rw [h5] at e'; exact (q3' b e).2 e'
          · rw [h5] at e'
            injection e' with e'
            have := (q3' b e).1.2
            omega
        · have hjk : j = k := by simp only [List.length_append, List.length_cons, List.length_nil] at h1; omega
          subst hjk
          have e1 : (rs ++ [(i, .slice au nu cu)])[j] = (i, .slice au nu cu) := by simp [← hrl]
          have e2 : ((tells x).take (j + 1))[j] = (i, q.2.2) := by simp only [htk]; rw [List.getElem_append_right (by omega)]; simp [hl0]
          rw [e1, e2]
          have hub := HU.out.1
          have hno : ∀ b, (Value.slice au nu cu).ownBlock = some b → ¬ (Value.slice ao j co).ownBlock = some b := fun b e e' => by
            have h9 := (hub.1.lt b e).1
            have h8 := (HT.out.1.own.lt b e').2
            omega
          refine ⟨rfl, hub.bytes.keep ho5 hno, fun b e => ⟨⟨by have := (hub.1.lt b e).1; have := HT.out.2.size; omega, Nat.lt_of_lt_of_le (hub.1.lt b e).2 ho5.size⟩, fun e' => ?_⟩⟩
          rcases hbk5 with h5 | h5
          · rw [h5] at e'; exact hno b e e'
          · rw [h5] at e'
            injection e' with e'
            have := (hub.1.lt b e).2
            omega
      clear hT2 hown5 ho5 hr5 hrl hbk5 hnu
      go_wp2_with (at_builtin; go_must (refine wpList_append_run rfl _ _ 35 rfl _ _ (.slice a5 (k + 1) c5) rfl rfl HR5.out ?_))
      go_roundw
      case rel => exact ⟨k + 1, rs ++ [(i, .slice au nu cu)], by omega, rfl, by go_num, HE5.out.1, HE5.out.2⟩
      case measure => simp [intOf]; omega
    · have e : n = k := by omega
      subst e
      have HE : Hid (TdAt W w1.heap.size (.slice ao rs.length co) rs ((tells x).take n) ∧ Only (fun _ => False) w1 W) := ⟨ht, ho⟩
      have hfull : (tells x).take n = tells x := List.take_of_length_le (by unfold tells; rw [List.length_map, ← HN.out.2]; omega)
      rw [hfull] at HE
      clear ht ho hfull
      go_wp2
      go_ret2
      refine ⟨_, rs, rfl, ?_, HO1.out.trans HE.out.2 (fun _ _ e => e)⟩
      have s1 := HO1.out.size
      refine ⟨ownsRow_base HE.out.1.own s1, HE.out.1.len, fun j h1 h2 => ?_⟩
      obtain ⟨q1, q2, q3⟩ := HE.out.1.key j h1 h2
      exact ⟨q1, q2, fun b e => ⟨⟨by have := (q3 b e).1.1; omega, (q3 b e).1.2⟩, (q3 b e).2⟩⟩
end Go.Proofs.Ytpoakkdkibameaa
namespace Go.Proofs.Ytpoakkdkibameaa
open Go.RowKit Go.Maps Go.Shelf
set_option linter.unusedSimpArgs false
set_option linter.unusedVariables false

theorem TdAt.cells {W : World} {B : Nat} {v : Value} {rs : List (Int × Value)} {l : List (Int × List Nat)} (h : TdAt W B v rs l) : ∃ a c, v = .slice a l.length c ∧ ∀ k (hk : k < l.length), ∃ g u, a = some ⟨g, 0, none⟩ ∧ W.cell? ⟨g, k * 2, none⟩ = some (.int .i64 l[k].1) ∧ W.cell? ⟨g, k * 2 + 1, none⟩ = some u ∧ BytesAt W u l[k].2 := by
  have hl := h.len
  rcases h.own.2 with ⟨rfl, h0⟩ | ⟨g, cap, cur, rfl, _⟩
  · exact ⟨none, 0, by rw [← hl, h0], fun k hk => by omega⟩
  · refine ⟨some ⟨g, 0, none⟩, cap, by rw [hl], fun k hk => ?_⟩
    have hk' : k < rs.length := by omega
    obtain ⟨q1, q2⟩ := tdL_get rs k hk'
    obtain ⟨k1, k2, _⟩ := h.key k hk' hk
    refine ⟨g, rs[k].2, rfl, ?_, ?_, k2⟩
    · rw [h.own.cellAt (k * 2) (by omega), q1, k1]
    · rw [h.own.cellAt (k * 2 + 1) (by omega), q2]
set_option maxRecDepth 100000 in
set_option maxHeartbeats 2000000 in
theorem same_td {w : World} {B1 B2 : Nat} {v1 v2 : Value} {rs1 rs2 : List (Int × Value)} {l : List (Int × List Nat)} (h1 : TdAt w B1 v1 rs1 l) (h2 : TdAt w B2 v2 rs2 l) (hl : l.length ≤ 1000) :
    Calls Try.prog 13 #[v1, v2] w fun e w' => e = .returned (.bool true) ∧ Only (fun _ => False) w w' := by
  obtain ⟨a1, c1, rfl, f1⟩ := h1.cells
  obtain ⟨a2, c2, rfl, f2⟩ := h2.cells
  obtain ⟨n, hn⟩ : ∃ n, n = l.length := ⟨_, rfl⟩
  have HN : Hid (n = l.length) := hn
  have HF1 : Hid (∀ k (hk : k < l.length), ∃ g u, a1 = some ⟨g, 0, none⟩ ∧ w.cell? ⟨g, k * 2, none⟩ = some (.int .i64 l[k].1) ∧ w.cell? ⟨g, k * 2 + 1, none⟩ = some u ∧ BytesAt w u l[k].2) := f1
  have HF2 : Hid (∀ k (hk : k < l.length), ∃ g u, a2 = some ⟨g, 0, none⟩ ∧ w.cell? ⟨g, k * 2, none⟩ = some (.int .i64 l[k].1) ∧ w.cell? ⟨g, k * 2 + 1, none⟩ = some u ∧ BytesAt w u l[k].2) := f2
  rw [← hn] at hl ⊢
  clear h1 h2 f1 f2 hn
  go_enter Try.func13, Try.ntmps13
  go_wp2
  go_loopw [5] (fun t W => ∃ k : Nat, k ≤ n ∧ t = .int .i64 k ∧ Only (fun _ => False) w W) (fun t _ => n - (intOf t).toNat)
  case atStart => exact ⟨0, Nat.zero_le _, rfl, Only.refl _ _⟩
  case round =>
    obtain ⟨k, hk, rfl, ho⟩ := hrel
    obtain ⟨W, rfl⟩ : ∃ W, W = wr := ⟨_, rfl⟩
    by_cases hlt : k < n
    · have hkl : k < l.length := by have := HN.out; omega
      obtain ⟨g1, u1, rfl, x1, x2, x3⟩ := HF1.out k hkl
      obtain ⟨g2, u2, rfl, y1, y2, y3⟩ := HF2.out k hkl
      obtain ⟨i, hi⟩ : ∃ i, i = l[k].1 := ⟨_, rfl⟩
      rw [← hi] at x1 y1
      have k0 : (0 : Int) ≤ (k : Int) := by omega
      have k1 : (k : Int) < (n : Int) := by omega
      have HO : Hid (Only (fun _ => False) w W) := ho
      have HSS : Hid (∀ (W' : World), Only (fun _ => False) w W' → W'.cell? ⟨g1, k * 2, none⟩ = some (.int .i64 i) ∧ W'.cell? ⟨g1, k * 2 + 1, none⟩ = some u1 ∧ W'.cell? ⟨g2, k * 2, none⟩ = some (.int .i64 i) ∧ W'.cell? ⟨g2, k * 2 + 1, none⟩ = some u2) := fun W' ho' => ⟨ho'.cell x1 (fun e => e), ho'.cell x2 (fun e => e), ho'.cell y1 (fun e => e), ho'.cell y2 (fun e => e)⟩
      have od : Only (fun _ => False) w W.drew := ho.drew
      have HSa : Hid (Calls Try.prog 18 #[u1, u2] W.drew fun e W2 => e = .returned (.bool true) ∧ Hid (Only (fun _ => False) w W2)) := by
        refine (same_any u1 u2 l[k].2 W.drew (x3.frame od) (y3.frame od)).mono ?_
        rintro e W2 ⟨rfl, q⟩
        exact ⟨rfl, od.trans q (fun _ _ e => e)⟩
      have HOD : Hid (Only (fun _ => False) w W.drew) := od
      obtain ⟨a1', n1', c1', hu1⟩ := bytes_slice x3
      obtain ⟨a2', n2', c2', hu2⟩ := bytes_slice y3
      clear x1 x2 x3 y1 y2 y3 hi ho od
      subst hu1 hu2
      go_wp2_with fail
      refine wp_region_held_drew (S := fun W' => W'.cell? ⟨g1, k * 2, none⟩ = some (.int .i64 i) ∧ W'.cell? ⟨g1, k * 2 + 1, none⟩ = some (.slice a1' n1' c1') ∧ W'.cell? ⟨g2, k * 2, none⟩ = some (.int .i64 i) ∧ W'.cell? ⟨g2, k * 2 + 1, none⟩ = some (.slice a2' n2' c2')) (by kernel_rfl) (HSS.out _ HOD.out) (fun hHeld => ?_)
      refine wpAnyH_take (i := 0) (v := .slice (some ⟨g1, 0, none⟩) n c1) rfl (by kernel_rfl) (by kernel_rfl) (by kernel_rfl) (fun _ _ _ h => h) (Or.inl ⟨by rfl, fun wx hSw => by go_simp⟩) hHeld ?_
      simp only [Act.put, List.setIfInBounds_toArray, List.set_cons_zero, List.set_cons_succ, List.getElem_toArray, List.getElem_cons_zero, List.getElem_cons_succ]
      refine wpAnyH_take (i := 1) (v := .int .i64 (k : Nat)) rfl (by kernel_rfl) (by kernel_rfl) (by kernel_rfl) (fun _ _ _ h => h) (Or.inl ⟨by rfl, fun wx hSw => by go_simp⟩) hHeld ?_
      simp only [Act.put, List.setIfInBounds_toArray, List.set_cons_zero, List.set_cons_succ, List.getElem_toArray, List.getElem_cons_zero, List.getElem_cons_succ]
      refine wpAnyH_take (i := 2) (v := .pointer (some ⟨g1, k * 2, none⟩)) rfl (by kernel_rfl) (by kernel_rfl) (by kernel_rfl) (fun _ _ _ h => h) (Or.inl ⟨by rfl, fun wx hSw => by go_simp⟩) hHeld ?_
      simp only [Act.put, List.setIfInBounds_toArray, List.set_cons_zero, List.set_cons_succ, List.getElem_toArray, List.getElem_cons_zero, List.getElem_cons_succ]
      refine wpAnyH_take (i := 3) (v := .pointer (some ⟨g1, k * 2, none⟩)) rfl (by kernel_rfl) (by kernel_rfl) (by kernel_rfl) (fun _ _ _ h => h) (Or.inl ⟨by rfl, fun wx hSw => by go_simp⟩) hHeld ?_
      simp only [Act.put, List.setIfInBounds_toArray, List.set_cons_zero, List.set_cons_succ, List.getElem_toArray, List.getElem_cons_zero, List.getElem_cons_succ]
      refine wpAnyH_take (i := 4) (v := .int .i64 i) rfl (by kernel_rfl) (by kernel_rfl) (by kernel_rfl) (fun _ _ _ h => h) (Or.inl ⟨by rfl, fun wx hSw => by go_simp⟩) hHeld ?_
      simp only [Act.put, List.setIfInBounds_toArray, List.set_cons_zero, List.set_cons_succ, List.getElem_toArray, List.getElem_cons_zero, List.getElem_cons_succ]
      refine wpAnyH_take (i := 5) (v := .slice (some ⟨g2, 0, none⟩) n c2) rfl (by kernel_rfl) (by kernel_rfl) (by kernel_rfl) (fun _ _ _ h => h) (Or.inl ⟨by rfl, fun wx hSw => by go_simp⟩) hHeld ?_
      simp only [Act.put, List.setIfInBounds_toArray, List.set_cons_zero, List.set_cons_succ, List.getElem_toArray, List.getElem_cons_zero, List.getElem_cons_succ]
      refine wpAnyH_take (i := 6) (v := .int .i64 (k : Nat)) rfl (by kernel_rfl) (by kernel_rfl) (by kernel_rfl) (fun _ _ _ h => h) (Or.inl ⟨by rfl, fun wx hSw => by go_simp⟩) hHeld ?_
      simp only [Act.put, List.setIfInBounds_toArray, List.set_cons_zero, List.set_cons_succ, List.getElem_toArray, List.getElem_cons_zero, List.getElem_cons_succ]
      refine wpAnyH_take (i := 7) (v := .pointer (some ⟨g2, k * 2, none⟩)) rfl (by kernel_rfl) (by kernel_rfl) (by kernel_rfl) (fun _ _ _ h => h) (Or.inl ⟨by rfl, fun wx hSw => by go_simp⟩) hHeld ?_
      simp only [Act.put, List.setIfInBounds_toArray, List.set_cons_zero, List.set_cons_succ, List.getElem_toArray, List.getElem_cons_zero, List.getElem_cons_succ]
      refine wpAnyH_take (i := 8) (v := .pointer (some ⟨g2, k * 2, none⟩)) rfl (by kernel_rfl) (by kernel_rfl) (by kernel_rfl) (fun _ _ _ h => h) (Or.inl ⟨by rfl, fun wx hSw => by go_simp⟩) hHeld ?_
      simp only [Act.put, List.setIfInBounds_toArray, List.set_cons_zero, List.set_cons_succ, List.getElem_toArray, List.getElem_cons_zero, List.getElem_cons_succ]
      refine wpAnyH_take (i := 9) (v := .int .i64 i) rfl (by kernel_rfl) (by kernel_rfl) (by kernel_rfl) (fun _ _ _ h => h) (Or.inl ⟨by rfl, fun wx hSw => by go_simp⟩) hHeld ?_
      simp only [Act.put, List.setIfInBounds_toArray, List.set_cons_zero, List.set_cons_succ, List.getElem_toArray, List.getElem_cons_zero, List.getElem_cons_succ]
      refine wpAnyH_take (i := 10) (v := .bool false) rfl (by kernel_rfl) (by kernel_rfl) (by kernel_rfl) (fun _ _ _ h => h) (Or.inl ⟨by rfl, fun wx hSw => by go_simp⟩) hHeld ?_
      simp only [Act.put, List.setIfInBounds_toArray, List.set_cons_zero, List.set_cons_succ, List.getElem_toArray, List.getElem_cons_zero, List.getElem_cons_succ]
      refine wpAnyH_take (i := 11) (v := .bool false) rfl (by kernel_rfl) (by kernel_rfl) (by kernel_rfl) (fun _ _ _ h => h) (Or.inl ⟨by rfl, fun wx hSw => by go_simp⟩) hHeld ?_
      simp only [Act.put, List.setIfInBounds_toArray, List.set_cons_zero, List.set_cons_succ, List.getElem_toArray, List.getElem_cons_zero, List.getElem_cons_succ]
      refine wpAnyH_take (i := 12) (v := .slice (some ⟨g1, 0, none⟩) n c1) rfl (by kernel_rfl) (by kernel_rfl) (by kernel_rfl) (fun _ _ _ h => h) (Or.inl ⟨by rfl, fun wx hSw => by go_simp⟩) hHeld ?_
      simp only [Act.put, List.setIfInBounds_toArray, List.set_cons_zero, List.set_cons_succ, List.getElem_toArray, List.getElem_cons_zero, List.getElem_cons_succ]
      refine wpAnyH_take (i := 13) (v := .int .i64 (k : Nat)) rfl (by kernel_rfl) (by kernel_rfl) (by kernel_rfl) (fun _ _ _ h => h) (Or.inl ⟨by rfl, fun wx hSw => by go_simp⟩) hHeld ?_
      simp only [Act.put, List.setIfInBounds_toArray, List.set_cons_zero, List.set_cons_succ, List.getElem_toArray, List.getElem_cons_zero, List.getElem_cons_succ]
      refine wpAnyH_take (i := 14) (v := .pointer (some ⟨g1, k * 2, none⟩)) rfl (by kernel_rfl) (by kernel_rfl) (by kernel_rfl) (fun _ _ _ h => h) (Or.inl ⟨by rfl, fun wx hSw => by go_simp⟩) hHeld ?_
      simp only [Act.put, List.setIfInBounds_toArray, List.set_cons_zero, List.set_cons_succ, List.getElem_toArray, List.getElem_cons_zero, List.getElem_cons_succ]
      refine wpAnyH_take (i := 15) (v := .pointer (some ⟨g1, k * 2 + 1, none⟩)) rfl (by kernel_rfl) (by kernel_rfl) (by kernel_rfl) (fun _ _ _ h => h) (Or.inl ⟨by rfl, fun wx hSw => by go_simp⟩) hHeld ?_
      simp only [Act.put, List.setIfInBounds_toArray, List.set_cons_zero, List.set_cons_succ, List.getElem_toArray, List.getElem_cons_zero, List.getElem_cons_succ]
      refine wpAnyH_take (i := 16) (v := .slice a1' n1' c1') rfl (by kernel_rfl) (by kernel_rfl) (by kernel_rfl) (fun _ _ _ h => h) (Or.inl ⟨by rfl, fun wx hSw => by go_simp⟩) hHeld ?_
      simp only [Act.put, List.setIfInBounds_toArray, List.set_cons_zero, List.set_cons_succ, List.getElem_toArray, List.getElem_cons_zero, List.getElem_cons_succ]
      refine wpAnyH_take (i := 17) (v := .slice (some ⟨g2, 0, none⟩) n c2) rfl (by kernel_rfl) (by kernel_rfl) (by kernel_rfl) (fun _ _ _ h => h) (Or.inl ⟨by rfl, fun wx hSw => by go_simp⟩) hHeld ?_
      simp only [Act.put, List.setIfInBounds_toArray, List.set_cons_zero, List.set_cons_succ, List.getElem_toArray, List.getElem_cons_zero, List.getElem_cons_succ]
      refine wpAnyH_take (i := 18) (v := .int .i64 (k : Nat)) rfl (by kernel_rfl) (by kernel_rfl) (by kernel_rfl) (fun _ _ _ h => h) (Or.inl ⟨by rfl, fun wx hSw => by go_simp⟩) hHeld ?_
      simp only [Act.put, List.setIfInBounds_toArray, List.set_cons_zero, List.set_cons_succ, List.getElem_toArray, List.getElem_cons_zero, List.getElem_cons_succ]
      refine wpAnyH_take (i := 19) (v := .pointer (some ⟨g2, k * 2, none⟩)) rfl (by kernel_rfl) (by kernel_rfl) (by kernel_rfl) (fun _ _ _ h => h) (Or.inl ⟨by rfl, fun wx hSw => by go_simp⟩) hHeld ?_
      simp only [Act.put, List.setIfInBounds_toArray, List.set_cons_zero, List.set_cons_succ, List.getElem_toArray, List.getElem_cons_zero, List.getElem_cons_succ]
      refine wpAnyH_take (i := 20) (v := .pointer (some ⟨g2, k * 2 + 1, none⟩)) rfl (by kernel_rfl) (by kernel_rfl) (by kernel_rfl) (fun _ _ _ h => h) (Or.inl ⟨by rfl, fun wx hSw => by go_simp⟩) hHeld ?_
      simp only [Act.put, List.setIfInBounds_toArray, List.set_cons_zero, List.set_cons_succ, List.getElem_toArray, List.getElem_cons_zero, List.getElem_cons_succ]
      refine wpAnyH_take (i := 21) (v := .slice a2' n2' c2') rfl (by kernel_rfl) (by kernel_rfl) (by kernel_rfl) (fun _ _ _ h => h) (Or.inl ⟨by rfl, fun wx hSw => by go_simp⟩) hHeld ?_
      simp only [Act.put, List.setIfInBounds_toArray, List.set_cons_zero, List.set_cons_succ, List.getElem_toArray, List.getElem_cons_zero, List.getElem_cons_succ]
      refine wpAnyH_ready (rs := [22]) (by kernel_rfl) (by simp) ?_
      refine AllReadyH.cons rfl (fun K hK => ?_) AllReadyH.nil
      rw [if_pos (by rfl)]
      refine wp_call_func #[.tmp 33, .tmp 38] #[28, 28] rfl #[.slice a1' n1' c1', .slice a2' n2' c2'] (by simp [Act.eval]) (enters_of Try.func18 (by kernel_rfl) rfl) (show Calls Try.prog 18 _ _ _ from HSa.out) (fun e W2 he => ?_)
      obtain ⟨rfl, HO2⟩ := he
      refine ⟨_, rfl, hK _ _ (HSS.out W2 HO2.out) (fun hHeld => ?_)⟩
      clear hK K HSa
      simp only [Act.put, List.setIfInBounds_toArray, List.set_cons_zero, List.set_cons_succ, List.getElem_toArray, List.getElem_cons_zero, List.getElem_cons_succ]
      refine wpAnyH_take (i := 23) (v := .bool false) rfl (by kernel_rfl) (by kernel_rfl) (by kernel_rfl) (fun _ _ _ h => h) (Or.inl ⟨by rfl, fun wx hSw => by go_simp⟩) hHeld ?_
      simp only [Act.put, List.setIfInBounds_toArray, List.set_cons_zero, List.set_cons_succ, List.getElem_toArray, List.getElem_cons_zero, List.getElem_cons_succ]
      refine wpAnyH_take (i := 24) (v := .bool false) rfl (by kernel_rfl) (by kernel_rfl) (by kernel_rfl) (fun _ _ _ h => h) (Or.inl ⟨by rfl, fun wx hSw => by go_simp⟩) hHeld ?_
      simp only [Act.put, List.setIfInBounds_toArray, List.set_cons_zero, List.set_cons_succ, List.getElem_toArray, List.getElem_cons_zero, List.getElem_cons_succ]
      refine wpAnyH_done (by kernel_rfl) ?_ _
      clear hHeld HSS HOD
      go_wp2
      go_roundw
      case rel => exact ⟨k + 1, by omega, by go_num, HO2.out⟩
      case measure => simp [intOf]; omega
    · have HO : Hid (Only (fun _ => False) w W) := ho
      clear ho
      go_wp2
      go_ret
      exact ⟨rfl, HO.out⟩
end Go.Proofs.Ytpoakkdkibameaa
namespace Go.Proofs.Ytpoakkdkibameaa
open Go.RowKit Go.Maps Go.Shelf
set_option linter.unusedSimpArgs false
set_option linter.unusedVariables false

/-- No page of the disk is in use twice; what was not put since is as it was committed. -/
def Inv (x : SS) : Prop := (x.com.map (fun p => p.2.1) ++ x.tabs).Nodup ∧ ∀ p ∈ x.now, p.2.1 ≠ 0 → p ∈ x.com
theorem room_count {x : SS} (hw : x.Wf) (hn : (x.com.map (fun p => p.2.1) ++ x.tabs).Nodup) : freeN x x.size + x.com.length + x.tabs.length + 2 = x.size := by
  obtain ⟨U, hU⟩ : ∃ U, U = x.com.map (fun p => p.2.1) ++ x.tabs := ⟨_, rfl⟩
  have hUm : ∀ j, j ∈ U ↔ (∃ p ∈ x.com, p.2.1 = j) ∨ j ∈ x.tabs := fun j => by rw [hU]; simp only [List.mem_append, List.mem_map]
  have hU2 : ∀ j ∈ U, 2 ≤ j ∧ j < x.size := fun j hj => by
    rcases (hUm j).1 hj with ⟨p, hp, rfl⟩ | h
    · exact (hw.com p hp).2.1
    · exact hw.tabs.2 j h
  have hus : ∀ j, usedF x j = true ↔ j < 2 ∨ j ∈ U := fun j => by
    rw [hUm]
    unfold usedF
    simp only [Bool.or_eq_true, decide_eq_true_eq, List.any_eq_true, beq_iff_eq, or_assoc]
    constructor
    · rintro (h | ⟨p, hp, e⟩ | ⟨t, ht, e⟩)
      · exact .inl h
      · exact .inr (.inl ⟨p, hp, e⟩)
      · exact .inr (.inr (e ▸ ht))
    · rintro (h | ⟨p, hp, e⟩ | h)
      · exact .inl h
      · exact .inr (.inl ⟨p, hp, e⟩)
      · exact .inr (.inr ⟨j, h, rfl⟩)
  have hfr : ∀ j, j ∈ freeL x x.size ↔ j < x.size ∧ ¬ (j < 2 ∨ j ∈ U) := fun j => by
    rw [freeL_mem, ← hus]
    simp
  have nd : ([0, 1] ++ (U ++ freeL x x.size)).Nodup := by
    have h1 : (U ++ freeL x x.size).Nodup := by
      refine List.pairwise_append.2 ⟨by rw [hU]; exact hn, (freeL_rise x x.size).imp (fun h => Nat.ne_of_lt h), fun a ha b hb e => ?_⟩
      subst e
      exact ((hfr a).1 hb).2 (.inr ha)
    refine List.pairwise_append.2 ⟨by simp, h1, fun a ha b hb e => ?_⟩
    subst e
    have : a < 2 := by simp at ha; omega
    rcases List.mem_append.1 hb with h | h
    · have := hU2 a h; omega
    · exact ((hfr a).1 h).2 (.inl this)
  have P : (List.range x.size).Perm ([0, 1] ++ (U ++ freeL x x.size)) := (List.perm_ext_iff_of_nodup List.nodup_range nd).2 (fun j => by
    rw [List.mem_range, List.mem_append, List.mem_append, hfr]
    have hs := hw.size
    constructor
    · intro h
      by_cases h2 : j < 2
      · exact .inl (by simp; omega)
      · by_cases hj : j ∈ U
        · exact .inr (.inl hj)
        · exact .inr (.inr ⟨h, fun e => e.elim h2 hj⟩)
    · rintro (h | h | h)
      · simp at h; omega
      · exact (hU2 j h).2
      · exact h.1)
  have hl := P.length_eq
  simp only [List.length_range, List.length_append, freeL_len, hU, List.length_map, List.length_cons, List.length_nil] at hl
  omega
theorem lay_perm : ∀ (l : Pgs) (A : List Nat) (k : Nat), (freshN l).length ≤ k → (freshN l).length ≤ A.length → ((layK l A k).map (fun p => p.2.1)).Perm (((l.filter fun p => !(p.2.1 == 0)).map (fun p => p.2.1)) ++ A.take (freshN l).length)
  | [], A, k, _, _ => by simp [layK, freshN]
  | p :: l, A, k, hk, hA => by
    by_cases hz : p.2.1 = 0
    · have hz' : (p.2.1 == 0) = true := by simpa using hz
      have ef : (freshN (p :: l)).length = (freshN l).length + 1 := by simp [freshN, List.filter_cons, hz']
      rw [ef] at hk hA ⊢
      cases A with
      | nil => simp at hA
      | cons a r =>
        have ih := lay_perm l r (k - 1) (by omega) (by simp at hA; omega)
        simp only [layK, if_pos hz]
        rw [if_neg (by omega)]
        simp only [List.map_cons, List.filter_cons, hz', Bool.not_true, Bool.false_eq_true, if_false, List.take_succ_cons, List.getD_cons_zero, List.drop_succ_cons, List.drop_zero]
        exact (ih.cons a).trans List.perm_middle.symm
    · have hz' : (p.2.1 == 0) = false := by simpa using hz
      have ef : (freshN (p :: l)).length = (freshN l).length := by simp [freshN, List.filter_cons, hz']
      rw [ef] at hk hA ⊢
      have ih := lay_perm l A k hk hA
      simp only [layK, if_neg hz, List.map_cons, List.filter_cons, hz', Bool.not_false, if_true, List.cons_append]
      exact ih.cons _
theorem next_nodup {x : SS} (hw : x.Wf) (hr : Rise x.now) (hf : needN x ≤ freeN x x.size) (hi : Inv x) : ((laid x).map (fun p => p.2.1) ++ tbs x).Nodup := by
  obtain ⟨kept, hk⟩ : ∃ kept, kept = (x.now.filter fun p => !(p.2.1 == 0)).map (fun p => p.2.1) := ⟨_, rfl⟩
  have hp := lay_perm x.now (plA x) (freshN x.now).length (Nat.le_refl _) (by rw [plA_length]; exact Nat.le_refl _)
  rw [← hk, List.take_of_length_le (by rw [plA_length]; exact Nat.le_refl _), plA_true hw hf] at hp
  have hle : putN x ≤ needN x := by unfold needN needA; omega
  have he : (freeL x x.size).take (putN x) ++ tbs x = (freeL x x.size).take (needN x) := by
    unfold tbs
    have := List.take_append_drop (putN x) ((freeL x x.size).take (needN x))
    rw [List.take_take, Nat.min_eq_left hle] at this
    exact this
  have hP : ((laid x).map (fun p => p.2.1) ++ tbs x).Perm (kept ++ (freeL x x.size).take (needN x)) := by
    have := hp.append_right (tbs x)
    rw [List.append_assoc, he] at this
    unfold laid layP
    rw [plA_true hw hf]
    exact this
  refine hP.symm.nodup (List.pairwise_append.2 ⟨?_, ((freeL_rise x x.size).imp (fun h => Nat.ne_of_lt h)).sublist (List.take_sublist _ _), fun a ha b hb e => ?_⟩)
  · rw [hk]
    refine List.pairwise_map.2 ?_
    have hc : x.com.Pairwise (fun p q => p.2.1 ≠ q.2.1) := by
      have := (List.pairwise_append.1 hi.1).1
      exact List.pairwise_map.1 this
    have hcc : ∀ p ∈ x.com, ∀ q ∈ x.com, p.2.1 = q.2.1 → p = q := by
      intro p hp q hq e
      obtain ⟨i, h1, rfl⟩ := List.getElem_of_mem hp
      obtain ⟨j, h2, rfl⟩ := List.getElem_of_mem hq
      have hpw := List.pairwise_iff_getElem.1 hc
      rcases Nat.lt_trichotomy i j with h | h | h
      · exact absurd e (hpw i j h1 h2 h)
      · subst h; rfl
      · exact absurd e.symm (hpw j i h2 h1 h)
    have hrf : (x.now.filter fun p => !(p.2.1 == 0)).Pairwise (fun p q => p.1 < q.1) := List.Pairwise.filter _ hr
    refine List.Pairwise.imp_of_mem (fun {p q} hp hq h e => ?_) hrf
    have h1 := List.mem_filter.1 hp
    have h2 := List.mem_filter.1 hq
    have e2 := hcc p (hi.2 p h1.1 (by simpa using h1.2)) q (hi.2 q h2.1 (by simpa using h2.2)) e
    rw [e2] at h
    omega
  · subst e
    rw [hk] at ha
    obtain ⟨p, hp, rfl⟩ := List.mem_map.1 ha
    have h1 := List.mem_filter.1 hp
    have hpc := hi.2 p h1.1 (by simpa using h1.2)
    have := (freeL_mem.1 (List.mem_of_mem_take hb)).2
    unfold usedF at this
    simp only [Bool.or_eq_false_iff, List.any_eq_false] at this
    have := this.1.2 p hpc
    simp at this
theorem laid_places {x : SS} (hw : x.Wf) (hf : needN x ≤ freeN x x.size) : ∀ p ∈ laid x, p.2.1 ≠ 0 := fun p hp => by
  have := ((next_wf hw hf).com p hp).2.1.1
  omega
theorem layK_none : ∀ (l : Pgs) (A : List Nat) (k : Nat), (∀ p ∈ l, p.2.1 ≠ 0) → layK l A k = l
  | [], _, _, _ => rfl
  | p :: l, A, k, h => by
    simp only [layK, if_neg (h p (List.mem_cons_self ..))]
    rw [layK_none l A k (fun q hq => h q (List.mem_cons_of_mem _ hq))]
theorem fresh_none {l : Pgs} (h : ∀ p ∈ l, p.2.1 ≠ 0) : freshN l = [] := by
  unfold freshN
  rw [List.filter_eq_nil_iff.2 (fun p hp => by simpa using h p hp)]
  rfl
theorem next_need {x : SS} (hw : x.Wf) (hf : needN x ≤ freeN x x.size) : needN x.next = (tbs x).length := by
  have h := laid_places hw hf
  have e : x.next.now = laid x := rfl
  unfold needN needA putN layP
  rw [e, layK_none _ _ _ h, fresh_none h, tbs_length hf]
  simp
theorem stable_inv : Stable (fun x _ => Inv x) := by
  refine ⟨fun {w B0 s p S x d} h i zs hi hl hx => ⟨hx.1, fun q hq hz => ?_⟩, fun {w B0 s p S x d} h i hx => ⟨hx.1, fun q hq hz => hx.2 q ((delL_mem _ _ _).1 hq).1 hz⟩, fun {w B0 s p S x d} h hx => ⟨hx.1, fun q hq hz => hq⟩, fun {w B0 s p S x d} h hf hx => ?_⟩
  · rcases (putL_mem _ _ _ _).1 hq with rfl | hq
    · exact absurd rfl hz
    · exact hx.2 q hq.1 hz
  · obtain ⟨pv, mc, mn, tv, B, h1, h2, h3, h4⟩ := h.all
    exact ⟨next_nodup h3.wf h3.now.rise hf hx, fun q hq hz => hq⟩
end Go.Proofs.Ytpoakkdkibameaa
