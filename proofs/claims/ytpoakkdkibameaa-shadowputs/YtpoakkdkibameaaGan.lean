/- What SameBytes answers of the same bytes; the calls on a store, for the laws' walks; the walk of ShadowPuts. -/
import Derived.Test.YtpoakkdkibameaaGam
namespace Go.Proofs.Ytpoakkdkibameaa
open Go.RowKit Go.Maps Go.Shelf
set_option linter.unusedSimpArgs false
set_option linter.unusedVariables false

set_option maxRecDepth 100000 in
set_option maxHeartbeats 1000000 in
theorem same_any (v1 v2 : Value) (zs : List Nat) (w : World) (h1 : BytesAt w v1 zs) (h2 : BytesAt w v2 zs) :
    Calls Try.prog 18 #[v1, v2] w fun e w' => e = .returned (.bool true) ∧ Only (fun _ => False) w w' := by
  obtain ⟨a1, c1, rfl, _, f1⟩ := h1.form
  obtain ⟨a2, c2, rfl, _, f2⟩ := h2.form
  obtain ⟨m, hm⟩ : ∃ m, m = zs.length := ⟨_, rfl⟩
  have hm2 : m ≤ 140737488355328 := hm ▸ h1.2.1
  rw [← hm]
  rw [← hm] at f1 f2
  clear h1 h2 hm
  go_enter Try.func18, Try.ntmps18
  go_wp2
  go_loopw [5] (fun t wr => ∃ k : Nat, k ≤ m ∧ t = .int .i64 k ∧ Only (fun _ => False) w wr) (fun t _ => m - (intOf t).toNat)
  case atStart => exact ⟨0, Nat.zero_le _, rfl, Only.refl _ _⟩
  case round =>
    obtain ⟨k, hk, rfl, ho⟩ := hrel
    by_cases hlt : k < m
    · obtain ⟨g1, o1, rfl, x1⟩ := f1 k hlt
      obtain ⟨g2, o2, rfl, x2⟩ := f2 k hlt
      have y1 := ho.cell x1 (fun e => e)
      have y2 := ho.cell x2 (fun e => e)
      have k0 : (0 : Int) ≤ (k : Int) := Int.natCast_nonneg _
      have k1 : (k : Int) < (m : Int) := by omega
      obtain ⟨z, hz⟩ : ∃ z, z = zs.getD k 0 := ⟨_, rfl⟩
      rw [← hz] at y1 y2
      have HO : Hid (Only (fun _ => False) w wr) := ho
      clear f1 f2 x1 x2 ho hz
      go_wp2_with fail
      go_region_held3 (fun w' => w'.cell? ⟨g1, o1 + k, none⟩ = some (.int .u8 (z : Nat)) ∧ w'.cell? ⟨g2, o2 + k, none⟩ = some (.int .u8 (z : Nat))) (go_keep) (fail)
      go_wp2
      go_roundw
      case rel => exact ⟨k + 1, by omega, by go_num, HO.out.drew⟩
      case measure => simp [intOf]; omega
    · obtain rfl : k = m := by omega
      clear f1 f2
      go_wp2
      go_ret
      exact ⟨rfl, ho⟩

/-- What Get answers. -/
def gErr (x : SS) (i : Int) : Int := if 0 ≤ i ∧ i < 728 then (if (pgAt x.now i).isSome then 0 else 6) else 4
def gDat (x : SS) (i : Int) : List Nat := if 0 ≤ i ∧ i < 728 then ((pgAt x.now i).getD (0, [])).2 else []
section
variable {w : World} {dk : Nat → Prop} {s p mc mn : Nat} {tv : Value} {x : SS}
theorem get_all (h : StAt w dk s p mc mn tv x) (i : Int) :
    Calls Try.prog 15 #[.pointer (some ⟨s, 0, none⟩), .int .i64 i] w fun e w' => ∃ u, e = .returned (.tuple #[u, .int .i64 (gErr x i)]) ∧ Hid (Fresh w' w.heap.size u (gDat x i) ∧ Only (fun _ => False) w w') := by
  unfold gErr gDat
  by_cases hi : 0 ≤ i ∧ i < 728
  · rw [if_pos hi, if_pos hi]
    cases hg : pgAt x.now i with
    | some y =>
      obtain ⟨a, zs⟩ := y
      refine (get_some h i hi hg).mono ?_
      rintro e w' ⟨u, rfl, q1, q2⟩
      exact ⟨u, rfl, q1, q2⟩
    | none =>
      refine (get_none h i hi hg).mono ?_
      rintro e w' ⟨rfl, q2⟩
      exact ⟨_, rfl, Fresh.nil _ _, q2⟩
  · rw [if_neg hi, if_neg hi]
    refine (get_out h i (by omega)).mono ?_
    rintro e w' ⟨rfl, rfl⟩
    exact ⟨_, rfl, Fresh.nil _ _, Only.refl _ _⟩
end
theorem stable_true : Stable (fun _ _ => True) := ⟨fun _ _ _ _ _ _ => trivial, fun _ _ _ => trivial, fun _ _ => trivial, fun _ _ _ => trivial⟩
theorem pgAt_put_same {x : Pgs} (h : Rise x) (i : Int) (zs : List Nat) : pgAt (putL x i (0, zs)) i = some (0, zs) := getL_put_same h i _
theorem pgAt_put_other {x : Pgs} (h : Rise x) {i k : Int} (hk : k ≠ i) (zs : List Nat) : pgAt (putL x i (0, zs)) k = pgAt x k := getL_put_other h hk _
theorem pgAt_del_same (x : Pgs) (i : Int) : pgAt (delL x i) i = none := getL_del_same _ _

set_option maxRecDepth 100000 in
set_option maxHeartbeats 2000000 in
theorem puts_any (n : Int) (v : Value) (os : List OpS) (i k : Int) (va vb : Value) (za zb : List Nat) (w : World) (hsc : ScriptAt w v os) (ha : BytesAt w va za) (hb : BytesAt w vb zb) :
    Calls Try.prog 4 #[.int .i64 n, v, .int .i64 i, .int .i64 k, va, vb] w fun e w' => e = .returned (.bool true) ∧ Below w.heap.size w w' := by
  have hN := secsN_ge n
  have HG : Hid (Calls Try.prog 6 _ _ _) := grown_core stable_true (secsN n) hN trivial n rfl v os w hsc
  obtain ⟨aa, ca, rfl, _, _⟩ := ha.form
  obtain ⟨ab, cb, rfl, _, _⟩ := hb.form
  have HA : Hid (BytesAt w (.slice aa za.length ca) za ∧ BytesAt w (.slice ab zb.length cb) zb) := ⟨ha, hb⟩
  obtain ⟨na, hna⟩ : ∃ q, q = za.length := ⟨_, rfl⟩
  obtain ⟨nb, hnb⟩ : ∃ q, q = zb.length := ⟨_, rfl⟩
  have HNa : Hid (na = za.length ∧ nb = zb.length) := ⟨hna, hnb⟩
  rw [← hna, ← hnb] at HA ⊢
  clear hsc ha hb hna hnb
  go_enter Try.func4, Try.ntmps4
  go_wp2_with fail
  refine (show Calls Try.prog 6 _ _ _ from HG.out).mono ?_
  rintro e w1 ⟨p, s, S, rfl, HW1⟩
  clear HG
  go_wp2_with fail
  refine (awake_any w1).mono ?_
  rintro e w2 ⟨rfl, ho2⟩
  have HST : Hid (∃ dk mc mn tv x, StAt w2 dk s p mc mn tv x ∧ (∀ k, dk k → k < w2.heap.size) ∧ w.heap.size ≤ mn ∧ Only (fun k => w.heap.size ≤ k) w w2) := by
    obtain ⟨⟨x, d, hp, _, _, ho⟩, _⟩ := HW1.out
    obtain ⟨pv, mc, mn, tv, B, h1, h2, h3, h4⟩ := hp.all
    exact ⟨diskB p S pv, mc, mn, tv, x, h3.still ho2, fun k hk => Nat.lt_of_lt_of_le (h1.lt k hk).2 ho2.size, h4 mn (.inr (.inr (.inl rfl))), ho.trans ho2 (fun _ _ e => e.elim)⟩
  clear HW1 ho2
  obtain ⟨dk, mc, mn, tv, x, hst, hdk, hmnB, how⟩ := HST.out
  have hmn := hst.now.lt
  have HS2 : Hid (StAt w2 dk s p mc mn tv x ∧ Only (fun k => w.heap.size ≤ k) w w2) := ⟨hst, how⟩
  have HGk : Hid (Calls Try.prog 15 _ _ _) := get_all hst k
  clear HST hst how
  go_wp2_with fail
  refine (show Calls Try.prog 15 _ _ _ from HGk.out).mono ?_
  rintro e w3 ⟨uo, rfl, HU3⟩
  clear HGk
  have O3 : Hid (Only (fun k => w.heap.size ≤ k) w w3) := HS2.out.2.trans HU3.out.2 (fun _ _ e => e.elim)
  have HOa : Hid (Calls Try.prog 17 _ _ _) := own_any (.slice aa na ca) za w3 (HA.out.1.older O3.out)
  obtain ⟨eo, heo⟩ : ∃ eo, eo = gErr x k := ⟨_, rfl⟩
  have HEO : Hid (eo = gErr x k) := heo
  rw [← heo]
  clear heo
  go_wp2_with fail
  refine (show Calls Try.prog 17 _ _ _ from HOa.out).mono ?_
  rintro e w4 ⟨u4, rfl, hf4, ho4⟩
  clear HOa
  obtain ⟨a4, c4, rfl⟩ := hf4.form
  rw [← HNa.out.1] at hf4 ⊢
  have s3 := HU3.out.2.size
  have hs4 : StAt w4 dk s p mc mn tv x := (HS2.out.1.still HU3.out.2).still ho4
  have hdk4 : ∀ k, dk k → k < w4.heap.size := fun k hk => by have := hdk k hk; have := ho4.size; omega
  have O4 : Hid (Only (fun k => w.heap.size ≤ k) w w4) := O3.out.trans ho4 (fun _ _ e => e.elim)
  by_cases hir : 0 ≤ i ∧ i < 728
  · by_cases hla : za.length ≤ 116
    · have HPa : Hid (Calls Try.prog 16 _ _ _) := put_ok hs4 hdk4 i hir (.slice a4 na c4) za hf4.bytes hla
      have RX : Hid (Rise x.now) := hs4.now.rise
      have HU4 : Hid (Fresh w4 w2.heap.size uo (gDat x k)) := HU3.out.1.frame ho4
      clear hs4 hf4 ho4
      go_wp2_with fail
      refine (show Calls Try.prog 16 _ _ _ from HPa.out).mono ?_
      rintro e w5 ⟨rfl, hs5, ho5⟩
      clear HPa
      have hpi : pgAt ({ x with now := putL x.now i (0, za) } : SS).now i = some (0, za) := pgAt_put_same RX.out i za
      have HG1 : Hid (Calls Try.prog 15 _ _ _) := get_all hs5 i
      have ge : gErr ({ x with now := putL x.now i (0, za) } : SS) i = 0 := by unfold gErr; rw [if_pos hir, hpi]; rfl
      have gd : gDat ({ x with now := putL x.now i (0, za) } : SS) i = za := by unfold gDat; rw [if_pos hir, hpi]; rfl
      rw [ge, gd] at HG1
      have HS5 : Hid (StAt w5 dk s p mc mn tv { x with now := putL x.now i (0, za) }) := hs5
      have O5 : Hid (Only (fun k => w.heap.size ≤ k) w w5) := O4.out.trans ho5 (fun k _ e => by omega)
      have HU5 : Hid (BytesAt w5 uo (gDat x k)) := HU4.out.bytes.keep ho5 (fun b e e' => by have := (HU4.out.1.lt b e).1; omega)
      have D5 : Hid (∀ k, dk k → k < w5.heap.size) := fun k hk => Nat.lt_of_lt_of_le (hdk4 k hk) ho5.size
      clear hs5 ho5 hpi ge gd HU4
      go_wp2_with fail
      refine (show Calls Try.prog 15 _ _ _ from HG1.out).mono ?_
      rintro e w6 ⟨ux, rfl, HU6⟩
      clear HG1
      have HG2 : Hid (Calls Try.prog 15 _ _ _) := get_all (HS5.out.still HU6.out.2) k
      obtain ⟨ey, hey⟩ : ∃ ey, ey = gErr ({ x with now := putL x.now i (0, za) } : SS) k := ⟨_, rfl⟩
      have HEY : Hid (ey = gErr ({ x with now := putL x.now i (0, za) } : SS) k) := hey
      rw [← hey] at HG2
      clear hey
      go_wp2_with fail
      refine (show Calls Try.prog 15 _ _ _ from HG2.out).mono ?_
      rintro e w7 ⟨uy, rfl, HU7⟩
      clear HG2
      have O57 : Hid (Only (fun _ => False) w5 w7) := HU6.out.2.trans HU7.out.2 (fun _ _ e => e)
      have O7 : Hid (Only (fun k => w.heap.size ≤ k) w w7) := O5.out.trans O57.out (fun _ _ e => e.elim)
      have HSa : Hid (Calls Try.prog 18 _ _ _) := same_any ux (.slice aa na ca) za w7 (HU6.out.1.bytes.frame HU7.out.2) (HA.out.1.older O7.out)
      by_cases hik : i = k
      · subst hik
        go_wp2_with fail
        refine (show Calls Try.prog 18 _ _ _ from HSa.out).mono ?_
        rintro e WB ⟨rfl, hoB⟩
        clear HSa
        have OB : Hid (Only (fun k => w.heap.size ≤ k) w WB) := O7.out.trans hoB (fun _ _ e => e.elim)
        have SB : Hid (StAt WB dk s p mc mn tv { x with now := putL x.now i (0, za) }) := (HS5.out.still O57.out).still hoB
        have DB : Hid (∀ k, dk k → k < WB.heap.size) := fun k hk => Nat.lt_of_lt_of_le (D5.out k hk) (Nat.le_trans O57.out.size hoB.size)
        clear hoB
        have HOb : Hid (Calls Try.prog 17 _ _ _) := own_any (.slice ab nb cb) zb WB (HA.out.2.older OB.out)
        go_wp2_with fail
        refine (show Calls Try.prog 17 _ _ _ from HOb.out).mono ?_
        rintro e w8 ⟨u8, rfl, hf8, ho8⟩
        clear HOb
        obtain ⟨a8, c8, rfl⟩ := hf8.form
        rw [← HNa.out.2] at hf8 ⊢
        have hs8 : StAt w8 dk s p mc mn tv { x with now := putL x.now i (0, za) } := SB.out.still ho8
        have ow8 : Only (fun k => w.heap.size ≤ k) w w8 := OB.out.trans ho8 (fun _ _ e => e.elim)
        have hdk8 : ∀ k, dk k → k < w8.heap.size := fun k hk => Nat.lt_of_lt_of_le (DB.out k hk) ho8.size
        by_cases hlb : zb.length ≤ 116
        · have HPb : Hid (Calls Try.prog 16 _ _ _) := put_ok hs8 hdk8 i hir (.slice a8 nb c8) zb hf8.bytes hlb
          have OW8 : Hid (Only (fun k => w.heap.size ≤ k) w w8) := ow8
          clear hs8 hf8 ho8 ow8 hdk8
          go_wp2_with fail
          refine (show Calls Try.prog 16 _ _ _ from HPb.out).mono ?_
          rintro e w9 ⟨rfl, hs9, ho9⟩
          clear HPb
          obtain ⟨xz, hxz⟩ : ∃ xz : SS, xz = { ({ x with now := putL x.now i (0, za) } : SS) with now := putL (putL x.now i (0, za)) i (0, zb) } := ⟨_, rfl⟩
          have hs9' : StAt w9 dk s p mc mn tv xz := by rw [hxz]; exact hs9
          have hpz : pgAt xz.now i = some (0, zb) := by rw [hxz]; exact pgAt_put_same (RX.out.put i (0, za)) i zb
          have O9 : Hid (Only (fun k => w.heap.size ≤ k) w w9) := OW8.out.trans ho9 (fun k _ e => by omega)
          have HGz : Hid (Calls Try.prog 15 _ _ _) := get_all hs9' i
          have ge : gErr xz i = 0 := by unfold gErr; rw [if_pos hir, hpz]; rfl
          have gd : gDat xz i = zb := by unfold gDat; rw [if_pos hir, hpz]; rfl
          rw [ge, gd] at HGz
          have S9 : Hid (StAt w9 dk s p mc mn tv xz ∧ pgAt xz.now i = some (0, zb)) := ⟨hs9', hpz⟩
          clear hs9 ho9 hxz hs9' hpz ge gd
          go_wp2_with fail
          refine (show Calls Try.prog 15 _ _ _ from HGz.out).mono ?_
          rintro e wz ⟨uz, rfl, HUz⟩
          clear HGz
          have Oz : Hid (Only (fun k => w.heap.size ≤ k) w wz) := O9.out.trans HUz.out.2 (fun _ _ e => e.elim)
          have HSb : Hid (Calls Try.prog 18 _ _ _) := same_any uz (.slice ab nb cb) zb wz HUz.out.1.bytes (HA.out.2.older Oz.out)
          go_wp2_with fail
          refine (show Calls Try.prog 18 _ _ _ from HSb.out).mono ?_
          rintro e wy ⟨rfl, hoy⟩
          clear HSb
          have HX : Hid (StAt wy dk s p mc mn tv xz ∧ pgAt xz.now i = some (0, zb) ∧ Only (fun k => w.heap.size ≤ k) w wy) := ⟨(S9.out.1.still HUz.out.2).still hoy, S9.out.2, Oz.out.trans hoy (fun _ _ e => e.elim)⟩
          clear hoy S9 HUz Oz O9
          have HDr : Hid (Calls Try.prog 19 _ _ _) := drop_ok HX.out.1 i hir HX.out.2.1
          have hmnZ := HX.out.1.now.lt
          go_wp2_with fail
          refine (show Calls Try.prog 19 _ _ _ from HDr.out).mono ?_
          rintro e wd ⟨rfl, hsd, hod⟩
          clear HDr
          have HSd : Hid (StAt wd dk s p mc mn tv { xz with now := delL xz.now i } ∧ Only (fun k => w.heap.size ≤ k) w wd) := ⟨hsd, HX.out.2.2.trans hod (fun k _ e => by omega)⟩
          have HGd : Hid (Calls Try.prog 15 _ _ _) := get_all hsd i
          have hg6 : gErr { xz with now := delL xz.now i } i = 6 := by
            unfold gErr
            rw [if_pos hir, pgAt_del_same]
            rfl
          rw [hg6] at HGd
          clear hsd hod hg6
          go_wp2_with fail
          refine (show Calls Try.prog 15 _ _ _ from HGd.out).mono ?_
          rintro e we ⟨ue, rfl, HUe⟩
          clear HGd
          have HD2 : Hid (Calls Try.prog 19 _ _ _) := drop_none (HSd.out.1.still HUe.out.2) i hir (pgAt_del_same _ _)
          go_wp2_with (go_at_call 19; refine (show Calls Try.prog 19 _ _ _ from HD2.out).mono ?_; rintro e wf ⟨rfl, hof⟩)
          go_ret
          exact ⟨rfl, ((HSd.out.2.trans HUe.out.2 (fun _ _ e => e.elim)).trans hof (fun _ _ e => e.elim)).below (fun _ e => e) (Nat.le_refl _)⟩
        · have HPb : Hid (Calls Try.prog 16 _ _ _) := put_large hs8 i hir a8 nb c8 (by have := HNa.out.2; omega)
          obtain ⟨xz, hxz⟩ : ∃ xz : SS, xz = { x with now := putL x.now i (0, za) } := ⟨_, rfl⟩
          have HX : Hid (StAt w8 dk s p mc mn tv xz ∧ pgAt xz.now i = some (0, za) ∧ Only (fun k => w.heap.size ≤ k) w w8) := ⟨by rw [hxz]; exact hs8, by rw [hxz]; exact pgAt_put_same RX.out i za, ow8⟩
          clear hs8 hf8 ho8 ow8 hdk8 hxz
          go_wp2_with fail
          refine (show Calls Try.prog 16 _ _ _ from HPb.out).mono ?_
          rintro e w9 ⟨rfl, rfl⟩
          clear HPb
          have HDr : Hid (Calls Try.prog 19 _ _ _) := drop_ok HX.out.1 i hir HX.out.2.1
          have hmnZ := HX.out.1.now.lt
          go_wp2_with fail
          refine (show Calls Try.prog 19 _ _ _ from HDr.out).mono ?_
          rintro e wd ⟨rfl, hsd, hod⟩
          clear HDr
          have HSd : Hid (StAt wd dk s p mc mn tv { xz with now := delL xz.now i } ∧ Only (fun k => w.heap.size ≤ k) w wd) := ⟨hsd, HX.out.2.2.trans hod (fun k _ e => by omega)⟩
          have HGd : Hid (Calls Try.prog 15 _ _ _) := get_all hsd i
          have hg6 : gErr { xz with now := delL xz.now i } i = 6 := by
            unfold gErr
            rw [if_pos hir, pgAt_del_same]
            rfl
          rw [hg6] at HGd
          clear hsd hod hg6
          go_wp2_with fail
          refine (show Calls Try.prog 15 _ _ _ from HGd.out).mono ?_
          rintro e we ⟨ue, rfl, HUe⟩
          clear HGd
          have HD2 : Hid (Calls Try.prog 19 _ _ _) := drop_none (HSd.out.1.still HUe.out.2) i hir (pgAt_del_same _ _)
          go_wp2_with (go_at_call 19; refine (show Calls Try.prog 19 _ _ _ from HD2.out).mono ?_; rintro e wf ⟨rfl, hof⟩)
          go_ret
          exact ⟨rfl, ((HSd.out.2.trans HUe.out.2 (fun _ _ e => e.elim)).trans hof (fun _ _ e => e.elim)).below (fun _ e => e) (Nat.le_refl _)⟩
      · have hki : ¬ k = i := fun e => hik e.symm
        have hik' : (i == k) = false := by simpa using hik
        have eey : ey = eo := by
          rw [HEY.out, HEO.out]
          unfold gErr
          rw [pgAt_put_other RX.out hki]
        have hyd : gDat ({ x with now := putL x.now i (0, za) } : SS) k = gDat x k := by
          unfold gDat
          rw [pgAt_put_other RX.out hki]
        subst eey
        go_wp2_with fail
        refine (show Calls Try.prog 18 _ _ _ from HSa.out).mono ?_
        rintro e wq ⟨rfl, hoq⟩
        clear HSa
        have HSy : Hid (Calls Try.prog 18 _ _ _) := same_any uo uy (gDat x k) wq ((HU5.out.frame O57.out).frame hoq) (by rw [← hyd]; exact (HU7.out.1.bytes.frame hoq))
        have Oq : Hid (Only (fun _ => False) w7 wq) := hoq
        clear hoq hyd
        go_wp2_with fail
        refine (show Calls Try.prog 18 _ _ _ from HSy.out).mono ?_
        rintro e WB ⟨rfl, hoB0⟩
        clear HSy
        have hoB : Only (fun _ => False) w7 WB := Oq.out.trans hoB0 (fun _ _ e => e)
        have OB : Hid (Only (fun k => w.heap.size ≤ k) w WB) := O7.out.trans hoB (fun _ _ e => e.elim)
        have SB : Hid (StAt WB dk s p mc mn tv { x with now := putL x.now i (0, za) }) := (HS5.out.still O57.out).still hoB
        have DB : Hid (∀ k, dk k → k < WB.heap.size) := fun k hk => Nat.lt_of_lt_of_le (D5.out k hk) (Nat.le_trans O57.out.size hoB.size)
        clear hoB hoB0 Oq
        have HOb : Hid (Calls Try.prog 17 _ _ _) := own_any (.slice ab nb cb) zb WB (HA.out.2.older OB.out)
        go_wp2_with fail
        refine (show Calls Try.prog 17 _ _ _ from HOb.out).mono ?_
        rintro e w8 ⟨u8, rfl, hf8, ho8⟩
        clear HOb
        obtain ⟨a8, c8, rfl⟩ := hf8.form
        rw [← HNa.out.2] at hf8 ⊢
        have hs8 : StAt w8 dk s p mc mn tv { x with now := putL x.now i (0, za) } := SB.out.still ho8
        have ow8 : Only (fun k => w.heap.size ≤ k) w w8 := OB.out.trans ho8 (fun _ _ e => e.elim)
        have hdk8 : ∀ k, dk k → k < w8.heap.size := fun k hk => Nat.lt_of_lt_of_le (DB.out k hk) ho8.size
        by_cases hlb : zb.length ≤ 116
        · have HPb : Hid (Calls Try.prog 16 _ _ _) := put_ok hs8 hdk8 i hir (.slice a8 nb c8) zb hf8.bytes hlb
          have OW8 : Hid (Only (fun k => w.heap.size ≤ k) w w8) := ow8
          clear hs8 hf8 ho8 ow8 hdk8
          go_wp2_with fail
          refine (show Calls Try.prog 16 _ _ _ from HPb.out).mono ?_
          rintro e w9 ⟨rfl, hs9, ho9⟩
          clear HPb
          obtain ⟨xz, hxz⟩ : ∃ xz : SS, xz = { ({ x with now := putL x.now i (0, za) } : SS) with now := putL (putL x.now i (0, za)) i (0, zb) } := ⟨_, rfl⟩
          have hs9' : StAt w9 dk s p mc mn tv xz := by rw [hxz]; exact hs9
          have hpz : pgAt xz.now i = some (0, zb) := by rw [hxz]; exact pgAt_put_same (RX.out.put i (0, za)) i zb
          have O9 : Hid (Only (fun k => w.heap.size ≤ k) w w9) := OW8.out.trans ho9 (fun k _ e => by omega)
          have HGz : Hid (Calls Try.prog 15 _ _ _) := get_all hs9' i
          have ge : gErr xz i = 0 := by unfold gErr; rw [if_pos hir, hpz]; rfl
          have gd : gDat xz i = zb := by unfold gDat; rw [if_pos hir, hpz]; rfl
          rw [ge, gd] at HGz
          have S9 : Hid (StAt w9 dk s p mc mn tv xz ∧ pgAt xz.now i = some (0, zb)) := ⟨hs9', hpz⟩
          clear hs9 ho9 hxz hs9' hpz ge gd
          go_wp2_with fail
          refine (show Calls Try.prog 15 _ _ _ from HGz.out).mono ?_
          rintro e wz ⟨uz, rfl, HUz⟩
          clear HGz
          have Oz : Hid (Only (fun k => w.heap.size ≤ k) w wz) := O9.out.trans HUz.out.2 (fun _ _ e => e.elim)
          have HSb : Hid (Calls Try.prog 18 _ _ _) := same_any uz (.slice ab nb cb) zb wz HUz.out.1.bytes (HA.out.2.older Oz.out)
          go_wp2_with fail
          refine (show Calls Try.prog 18 _ _ _ from HSb.out).mono ?_
          rintro e wy ⟨rfl, hoy⟩
          clear HSb
          have HX : Hid (StAt wy dk s p mc mn tv xz ∧ pgAt xz.now i = some (0, zb) ∧ Only (fun k => w.heap.size ≤ k) w wy) := ⟨(S9.out.1.still HUz.out.2).still hoy, S9.out.2, Oz.out.trans hoy (fun _ _ e => e.elim)⟩
          clear hoy S9 HUz Oz O9
          have HDr : Hid (Calls Try.prog 19 _ _ _) := drop_ok HX.out.1 i hir HX.out.2.1
          have hmnZ := HX.out.1.now.lt
          go_wp2_with fail
          refine (show Calls Try.prog 19 _ _ _ from HDr.out).mono ?_
          rintro e wd ⟨rfl, hsd, hod⟩
          clear HDr
          have HSd : Hid (StAt wd dk s p mc mn tv { xz with now := delL xz.now i } ∧ Only (fun k => w.heap.size ≤ k) w wd) := ⟨hsd, HX.out.2.2.trans hod (fun k _ e => by omega)⟩
          have HGd : Hid (Calls Try.prog 15 _ _ _) := get_all hsd i
          have hg6 : gErr { xz with now := delL xz.now i } i = 6 := by
            unfold gErr
            rw [if_pos hir, pgAt_del_same]
            rfl
          rw [hg6] at HGd
          clear hsd hod hg6
          go_wp2_with fail
          refine (show Calls Try.prog 15 _ _ _ from HGd.out).mono ?_
          rintro e we ⟨ue, rfl, HUe⟩
          clear HGd
          have HD2 : Hid (Calls Try.prog 19 _ _ _) := drop_none (HSd.out.1.still HUe.out.2) i hir (pgAt_del_same _ _)
          go_wp2_with (go_at_call 19; refine (show Calls Try.prog 19 _ _ _ from HD2.out).mono ?_; rintro e wf ⟨rfl, hof⟩)
          go_ret
          exact ⟨rfl, ((HSd.out.2.trans HUe.out.2 (fun _ _ e => e.elim)).trans hof (fun _ _ e => e.elim)).below (fun _ e => e) (Nat.le_refl _)⟩
        · have HPb : Hid (Calls Try.prog 16 _ _ _) := put_large hs8 i hir a8 nb c8 (by have := HNa.out.2; omega)
          obtain ⟨xz, hxz⟩ : ∃ xz : SS, xz = { x with now := putL x.now i (0, za) } := ⟨_, rfl⟩
          have HX : Hid (StAt w8 dk s p mc mn tv xz ∧ pgAt xz.now i = some (0, za) ∧ Only (fun k => w.heap.size ≤ k) w w8) := ⟨by rw [hxz]; exact hs8, by rw [hxz]; exact pgAt_put_same RX.out i za, ow8⟩
          clear hs8 hf8 ho8 ow8 hdk8 hxz
          go_wp2_with fail
          refine (show Calls Try.prog 16 _ _ _ from HPb.out).mono ?_
          rintro e w9 ⟨rfl, rfl⟩
          clear HPb
          have HDr : Hid (Calls Try.prog 19 _ _ _) := drop_ok HX.out.1 i hir HX.out.2.1
          have hmnZ := HX.out.1.now.lt
          go_wp2_with fail
          refine (show Calls Try.prog 19 _ _ _ from HDr.out).mono ?_
          rintro e wd ⟨rfl, hsd, hod⟩
          clear HDr
          have HSd : Hid (StAt wd dk s p mc mn tv { xz with now := delL xz.now i } ∧ Only (fun k => w.heap.size ≤ k) w wd) := ⟨hsd, HX.out.2.2.trans hod (fun k _ e => by omega)⟩
          have HGd : Hid (Calls Try.prog 15 _ _ _) := get_all hsd i
          have hg6 : gErr { xz with now := delL xz.now i } i = 6 := by
            unfold gErr
            rw [if_pos hir, pgAt_del_same]
            rfl
          rw [hg6] at HGd
          clear hsd hod hg6
          go_wp2_with fail
          refine (show Calls Try.prog 15 _ _ _ from HGd.out).mono ?_
          rintro e we ⟨ue, rfl, HUe⟩
          clear HGd
          have HD2 : Hid (Calls Try.prog 19 _ _ _) := drop_none (HSd.out.1.still HUe.out.2) i hir (pgAt_del_same _ _)
          go_wp2_with (go_at_call 19; refine (show Calls Try.prog 19 _ _ _ from HD2.out).mono ?_; rintro e wf ⟨rfl, hof⟩)
          go_ret
          exact ⟨rfl, ((HSd.out.2.trans HUe.out.2 (fun _ _ e => e.elim)).trans hof (fun _ _ e => e.elim)).below (fun _ e => e) (Nat.le_refl _)⟩
    · have hna : 116 < na := by have := HNa.out.1; omega
      have hna' : (116 : Int) < (na : Int) := by omega
      have HPa : Hid (Calls Try.prog 16 _ _ _) := put_large hs4 i hir a4 na c4 hna
      clear hs4 hf4 ho4 hdk4
      go_wp2_with fail
      refine (show Calls Try.prog 16 _ _ _ from HPa.out).mono ?_
      rintro e w5 ⟨rfl, rfl⟩
      clear HPa
      go_wp2
      go_ret
      exact ⟨rfl, O4.out.below (fun _ e => e) (Nat.le_refl _)⟩
  · have HPa : Hid (Calls Try.prog 16 _ _ _) := put_out hs4 i (by omega) (.slice a4 na c4)
    clear hs4 hf4 ho4 hdk4
    go_wp2_with fail
    refine (show Calls Try.prog 16 _ _ _ from HPa.out).mono ?_
    rintro e w5 ⟨rfl, rfl⟩
    clear HPa
    by_cases hi0 : i < 0
    · go_wp2
      go_ret
      exact ⟨rfl, O4.out.below (fun _ e => e) (Nat.le_refl _)⟩
    · have hi1 : 728 ≤ i := by omega
      go_wp2
      go_ret
      exact ⟨rfl, O4.out.below (fun _ e => e) (Nat.le_refl _)⟩
end Go.Proofs.Ytpoakkdkibameaa
