/- One item. One item, and all of them. -/
import Derived.Test.YtodbkihobgdpdaaGreatDoorGam
import Derived.Test.YtodbkihobgdpdaaGreatDoorGaf
namespace Go.Proofs.YtodbkihobgdpdaaGreatDoor
open Go.RowKit Go.Lib
set_option linter.unusedSimpArgs false
set_option linter.unusedVariables false
/-- one item does what the account says -/
def ItC (W : ByteArray → Option (Nat × Nat)) (S : Nat → Prop) (d F M n : Nat) : Prop := ∀ (x : Vt) (u : Value) (s : Nat) (v : Value) (t : Ist) (w : World), Env S F M s → EvAt w F M W t.a → EsV w S d s t.st t.tk v → TiAt w S d true x u → (∃ e, SmT e x) → potE t ≤ 900000 → t.a < n →
  Calls Tryz.prog 46 #[.pointer (some ⟨F, 0, none⟩), u, .pointer (some ⟨s, 0, none⟩)] w (TrP S d F M W s v (itmE W n x t) w)
theorem InV.cnt {w w1 w2 : World} {S : Nat → Prop} {d F M s : Nat} {W : ByteArray → Option (Nat × Nat)} {v v1 : Value} {t t2 : Ist} (h : InV w w1 S d F M W s v v1 t) (he : Env S F M s) (hc : cntE t = .ok t2) (g : IfAt w2 F M t2.a) (o : Only (fun b => b = F) w1 w2) : InV w w2 S d F M W s v v1 t2 := by
  have h1 := cntE_ok hc
  have g2 : EvAt w2 F M W t2.a := by
    obtain ⟨_, ob, h2, h3⟩ := h.1
    exact ⟨g, ob, (o.block M (Array.getElem?_eq_some_iff.1 h2).1 he.2.2.1).trans h2, h3⟩
  have := h.own he o g2
  rw [← h1.2.2.1, ← h1.2.2.2] at this
  exact this
set_option maxRecDepth 100000 in
theorem move_f {W : ByteArray → Option (Nat × Nat)} {S : Nat → Prop} {d F M s : Nat} {v : Value} {t : Ist} {w : World} (X Z : Nat) (i o : Nat) (ps : List Nat) (pa : Option Addr) (pc : Nat) (h : EsV w S d s t.st t.tk v) (hS : ∀ b, S b → b < s) (hX : w.heap[X]? = some (.cells #[.int .i64 (i : Int), .int .i64 (o : Int)] 30)) (hZ : w.heap[Z]? = some (.cells #[.slice pa ps.length pc] 76)) (hp : PlAt w s v ps pa) (hi : 1 ≤ i ∧ i ≤ 3) (hps : ∀ p ∈ ps, p < i) (hl3 : ps.length ≤ 3) (hl : potE t + i + ps.length ≤ 1000000) :
    Calls Tryz.prog 69 #[.pointer (some ⟨s, 0, none⟩), .pointer (some ⟨X, 0, none⟩), .pointer (some ⟨Z, 0, none⟩)] w fun e w' => e = .returned (.tuple #[]) ∧ Hid (EsO w w' S d s v (movE i ps t).st (movE i ps t).tk) := by
  have HC : Hid _ := move_any t.a i ps h hS hi hps hl3 pa pc hp hl
  obtain ⟨c0, -, -, -⟩ := wr2_cell hX
  have c1 : w.cell? ⟨Z, 0, none⟩ = some (.slice pa ps.length pc) := (vblk_cells hZ 0).trans rfl
  clear h hS hX hZ hp hi hps hl3 hl
  go_enter Tryz.func69, Tryz.ntmps69
  go_wp2_with fail
  refine (show Calls Tryz.prog 70 _ _ _ from HC.out).mono ?_
  rintro e w1 ⟨rfl, G⟩
  clear HC c0 c1
  go_wp2
  first | (refine bodyPost_ret (results_none rfl _ _ _) rfl ?_; exact ⟨rfl, G.out⟩) | (refine ⟨_, results_none rfl _ _ _, rfl, G.out⟩) | (refine ⟨rfl, _, results_none rfl _ _ _, rfl, G.out⟩)
set_option maxRecDepth 100000 in
theorem apply_f {W : ByteArray → Option (Nat × Nat)} {S : Nat → Prop} {d F M s : Nat} {v : Value} {t : Ist} {w : World} (X : Nat) (i o : Nat) (h : EsV w S d s t.st t.tk v) (hS : ∀ b, S b → b < s) (hX : w.heap[X]? = some (.cells #[.int .i64 (i : Int), .int .i64 (o : Int)] 30)) (hl : potE t + i + o ≤ 1000000) :
    Calls Tryz.prog 71 #[.pointer (some ⟨s, 0, none⟩), .pointer (some ⟨X, 0, none⟩)] w fun e w' => e = .returned (.tuple #[]) ∧ Hid (EsO w w' S d s v (appE i o t).st (appE i o t).tk) := by
  have HC : Hid _ := apply_any t.a i o h hS hl
  obtain ⟨c0, c1, -, -⟩ := wr2_cell hX
  clear h hS hX hl
  go_enter Tryz.func71, Tryz.ntmps71
  go_wp2_with fail
  refine (show Calls Tryz.prog 72 _ _ _ from HC.out).mono ?_
  rintro e w1 ⟨rfl, G⟩
  clear HC c0 c1
  go_wp2
  first | (refine bodyPost_ret (results_none rfl _ _ _) rfl ?_; exact ⟨rfl, G.out⟩) | (refine ⟨_, results_none rfl _ _ _, rfl, G.out⟩) | (refine ⟨rfl, _, results_none rfl _ _ _, rfl, G.out⟩)
set_option maxRecDepth 100000 in
set_option maxHeartbeats 1000000 in
theorem it_0 {W : ByteArray → Option (Nat × Nat)} {S : Nat → Prop} {d F M n s : Nat} (hW : WdOk W) (TH : ThC W S d F M n) {v : Value} {t : Ist} {w : World} (he : Env S F M s) (hev : EvAt w F M W t.a) (hes : EsV w S d s t.st t.tk v) (hp : potE t ≤ 900000) (ha : t.a < n + 1) :
    Calls Tryz.prog 46 #[.pointer (some ⟨F, 0, none⟩), .iface 40 (.agg #[.string ⟨#[99, 97, 108, 108]⟩]), .pointer (some ⟨s, 0, none⟩)] w (TrP S d F M W s v (bdE (cntE t) fun t => ctlE (thrE W n) 1 t) w) := by
  have HE : Hid (Env S F M s ∧ WdOk W ∧ ThC W S d F M n ∧ potE t ≤ 900000 ∧ t.a < n + 1 ∧ InV w w S d F M W s v v t) := ⟨he, hW, TH, hp, ha, InV.refl hev hes⟩
  have mP := va_miss 40 70 37 _ Tryz.underlying70 (by intro m h; cases h) (by decide) _ vzero_Push (.agg #[.string ⟨#[99, 97, 108, 108]⟩])
  have hC := va_hit 40 37 _ Tryz.underlying40 (by intro m h; cases h) (.agg #[.string ⟨#[99, 97, 108, 108]⟩])
  obtain ⟨R, hR0⟩ : ∃ R, R = bdE (cntE t) fun t => ctlE (thrE W n) 1 t := ⟨_, rfl⟩
  rw [← hR0]
  have HR : Hid (R = bdE (cntE t) fun t => ctlE (thrE W n) 1 t) := hR0
  have HWd : Hid (∀ w, Calls Tryz.prog 57 #[.pointer (some ⟨F, 0, none⟩), .string ⟨#[99, 97, 108, 108]⟩] w fun e w' => e = .returned (.func (.func 60) #[.pointer (some ⟨F, 0, none⟩)] #[]) ∧ w' = w) := wo_0 F
  have HCn : Hid (∀ w1, InV w w1 S d F M W s v v t → Calls Tryz.prog 54 #[.pointer (some ⟨F, 0, none⟩)] w1 (CnE F M t w1)) := fun w1 i1 => icount_any t i1.1.1 (by have : potE t = t.st.length + t.tk + 32 * t.a := rfl; omega)
  clear he hev hes hp ha hW TH hR0
  go_enter Tryz.func46, Tryz.ntmps46
  go_wp2_with fail
  refine (show Calls Tryz.prog 57 _ _ _ from HWd.out _).mono ?_
  rintro e w1 ⟨rfl, hw1⟩
  have I1 : Hid (InV w w1 S d F M W s v v t) := by
    have := HE.out.2.2.2.2.2
    rw [hw1]
    exact this.only (by repeat' first | exact Only.refl _ _ | apply Only.alloc)
  clear HWd hw1 mP hC
  have HC : Hid _ := HCn.out w1 I1.out
  clear HCn
  go_wp2_with fail
  refine (show Calls Tryz.prog 54 _ _ _ from HC.out).mono ?_
  clear HC
  intro e w2 G
  obtain ⟨Z, hZ⟩ : ∃ Z, Z = cntE t := ⟨_, rfl⟩
  unfold CnE at G
  rw [← hZ] at G
  have HZ : Hid (Z = cntE t) := hZ
  clear hZ
  rcases Z with k | t1
  · obtain ⟨rfl, rfl⟩ := G
    have hR : R = .error k := by rw [HR.out, ← HZ.out]; rfl
    have OO : Hid (Only (BsF F s v) w w2) := I1.out.2.2.2
    clear HR
    subst hR
    unfold gupE
    go_wp2
    exact ⟨rfl, rfl, OO.out⟩
  obtain ⟨rfl, G⟩ := G
  have iv := I1.out.cnt HE.out.1 HZ.out.symm G.out.1 G.out.2
  have hR : R = ctlE (thrE W n) 1 t1 := by rw [HR.out, ← HZ.out]; rfl
  have I2 : Hid (InV w w2 S d F M W s v v t1) := iv
  have hct := cntE_ok HZ.out.symm
  have HC : Hid _ := ct_call HE.out.2.1 HE.out.2.2.1 HE.out.1 iv.1 iv.2.1 (by have := HE.out.2.2.2.1; omega) (by have := HE.out.2.2.2.2.1; omega)
  rw [← hR] at HC
  clear HR G iv hR hct I1
  go_wp2_with fail
  refine (show Calls Tryz.prog 60 _ _ _ from HC.out).mono ?_
  clear HC
  intro e w3 G
  have G2 : Hid (TrP S d F M W s v R w e w3) := TrP.step I2.out G
  clear G
  rcases R with k | t9
  · obtain ⟨rfl, o9⟩ := G2.out
    have OO : Hid _ := o9
    clear o9 G2
    unfold gupE
    go_wp2
    exact ⟨rfl, rfl, OO.out⟩
  · obtain ⟨rfl, o9⟩ := G2.out
    clear G2
    go_wp2
    first | (refine bodyPost_ret (results_none rfl _ _ _) rfl ?_; exact ⟨rfl, o9⟩) | (refine ⟨_, results_none rfl _ _ _, rfl, o9⟩) | (refine ⟨rfl, _, results_none rfl _ _ _, rfl, o9⟩)
set_option maxRecDepth 100000 in
set_option maxHeartbeats 1000000 in
theorem it_1 {W : ByteArray → Option (Nat × Nat)} {S : Nat → Prop} {d F M n s : Nat} (hW : WdOk W) (TH : ThC W S d F M n) {v : Value} {t : Ist} {w : World} (he : Env S F M s) (hev : EvAt w F M W t.a) (hes : EsV w S d s t.st t.tk v) (hp : potE t ≤ 900000) (ha : t.a < n + 1) :
    Calls Tryz.prog 46 #[.pointer (some ⟨F, 0, none⟩), .iface 40 (.agg #[.string ⟨#[100, 105, 112]⟩]), .pointer (some ⟨s, 0, none⟩)] w (TrP S d F M W s v (bdE (cntE t) fun t => ctlE (thrE W n) 2 t) w) := by
  have HE : Hid (Env S F M s ∧ WdOk W ∧ ThC W S d F M n ∧ potE t ≤ 900000 ∧ t.a < n + 1 ∧ InV w w S d F M W s v v t) := ⟨he, hW, TH, hp, ha, InV.refl hev hes⟩
  have mP := va_miss 40 70 37 _ Tryz.underlying70 (by intro m h; cases h) (by decide) _ vzero_Push (.agg #[.string ⟨#[100, 105, 112]⟩])
  have hC := va_hit 40 37 _ Tryz.underlying40 (by intro m h; cases h) (.agg #[.string ⟨#[100, 105, 112]⟩])
  obtain ⟨R, hR0⟩ : ∃ R, R = bdE (cntE t) fun t => ctlE (thrE W n) 2 t := ⟨_, rfl⟩
  rw [← hR0]
  have HR : Hid (R = bdE (cntE t) fun t => ctlE (thrE W n) 2 t) := hR0
  have HWd : Hid (∀ w, Calls Tryz.prog 57 #[.pointer (some ⟨F, 0, none⟩), .string ⟨#[100, 105, 112]⟩] w fun e w' => e = .returned (.func (.func 61) #[.pointer (some ⟨F, 0, none⟩)] #[]) ∧ w' = w) := wo_1 F
  have HCn : Hid (∀ w1, InV w w1 S d F M W s v v t → Calls Tryz.prog 54 #[.pointer (some ⟨F, 0, none⟩)] w1 (CnE F M t w1)) := fun w1 i1 => icount_any t i1.1.1 (by have : potE t = t.st.length + t.tk + 32 * t.a := rfl; omega)
  clear he hev hes hp ha hW TH hR0
  go_enter Tryz.func46, Tryz.ntmps46
  go_wp2_with fail
  refine (show Calls Tryz.prog 57 _ _ _ from HWd.out _).mono ?_
  rintro e w1 ⟨rfl, hw1⟩
  have I1 : Hid (InV w w1 S d F M W s v v t) := by
    have := HE.out.2.2.2.2.2
    rw [hw1]
    exact this.only (by repeat' first | exact Only.refl _ _ | apply Only.alloc)
  clear HWd hw1 mP hC
  have HC : Hid _ := HCn.out w1 I1.out
  clear HCn
  go_wp2_with fail
  refine (show Calls Tryz.prog 54 _ _ _ from HC.out).mono ?_
  clear HC
  intro e w2 G
  obtain ⟨Z, hZ⟩ : ∃ Z, Z = cntE t := ⟨_, rfl⟩
  unfold CnE at G
  rw [← hZ] at G
  have HZ : Hid (Z = cntE t) := hZ
  clear hZ
  rcases Z with k | t1
  · obtain ⟨rfl, rfl⟩ := G
    have hR : R = .error k := by rw [HR.out, ← HZ.out]; rfl
    have OO : Hid (Only (BsF F s v) w w2) := I1.out.2.2.2
    clear HR
    subst hR
    unfold gupE
    go_wp2
    exact ⟨rfl, rfl, OO.out⟩
  obtain ⟨rfl, G⟩ := G
  have iv := I1.out.cnt HE.out.1 HZ.out.symm G.out.1 G.out.2
  have hR : R = ctlE (thrE W n) 2 t1 := by rw [HR.out, ← HZ.out]; rfl
  have I2 : Hid (InV w w2 S d F M W s v v t1) := iv
  have hct := cntE_ok HZ.out.symm
  have HC : Hid _ := ct_dip HE.out.2.1 HE.out.2.2.1 HE.out.1 iv.1 iv.2.1 (by have := HE.out.2.2.2.1; omega) (by have := HE.out.2.2.2.2.1; omega)
  rw [← hR] at HC
  clear HR G iv hR hct I1
  go_wp2_with fail
  refine (show Calls Tryz.prog 61 _ _ _ from HC.out).mono ?_
  clear HC
  intro e w3 G
  have G2 : Hid (TrP S d F M W s v R w e w3) := TrP.step I2.out G
  clear G
  rcases R with k | t9
  · obtain ⟨rfl, o9⟩ := G2.out
    have OO : Hid _ := o9
    clear o9 G2
    unfold gupE
    go_wp2
    exact ⟨rfl, rfl, OO.out⟩
  · obtain ⟨rfl, o9⟩ := G2.out
    clear G2
    go_wp2
    first | (refine bodyPost_ret (results_none rfl _ _ _) rfl ?_; exact ⟨rfl, o9⟩) | (refine ⟨_, results_none rfl _ _ _, rfl, o9⟩) | (refine ⟨rfl, _, results_none rfl _ _ _, rfl, o9⟩)
set_option maxRecDepth 100000 in
set_option maxHeartbeats 1000000 in
theorem it_2 {W : ByteArray → Option (Nat × Nat)} {S : Nat → Prop} {d F M n s : Nat} (hW : WdOk W) (TH : ThC W S d F M n) {v : Value} {t : Ist} {w : World} (he : Env S F M s) (hev : EvAt w F M W t.a) (hes : EsV w S d s t.st t.tk v) (hp : potE t ≤ 900000) (ha : t.a < n + 1) :
    Calls Tryz.prog 46 #[.pointer (some ⟨F, 0, none⟩), .iface 40 (.agg #[.string ⟨#[107, 101, 101, 112]⟩]), .pointer (some ⟨s, 0, none⟩)] w (TrP S d F M W s v (bdE (cntE t) fun t => ctlE (thrE W n) 3 t) w) := by
  have HE : Hid (Env S F M s ∧ WdOk W ∧ ThC W S d F M n ∧ potE t ≤ 900000 ∧ t.a < n + 1 ∧ InV w w S d F M W s v v t) := ⟨he, hW, TH, hp, ha, InV.refl hev hes⟩
  have mP := va_miss 40 70 37 _ Tryz.underlying70 (by intro m h; cases h) (by decide) _ vzero_Push (.agg #[.string ⟨#[107, 101, 101, 112]⟩])
  have hC := va_hit 40 37 _ Tryz.underlying40 (by intro m h; cases h) (.agg #[.string ⟨#[107, 101, 101, 112]⟩])
  obtain ⟨R, hR0⟩ : ∃ R, R = bdE (cntE t) fun t => ctlE (thrE W n) 3 t := ⟨_, rfl⟩
  rw [← hR0]
  have HR : Hid (R = bdE (cntE t) fun t => ctlE (thrE W n) 3 t) := hR0
  have HWd : Hid (∀ w, Calls Tryz.prog 57 #[.pointer (some ⟨F, 0, none⟩), .string ⟨#[107, 101, 101, 112]⟩] w fun e w' => e = .returned (.func (.func 62) #[.pointer (some ⟨F, 0, none⟩)] #[]) ∧ w' = w) := wo_2 F
  have HCn : Hid (∀ w1, InV w w1 S d F M W s v v t → Calls Tryz.prog 54 #[.pointer (some ⟨F, 0, none⟩)] w1 (CnE F M t w1)) := fun w1 i1 => icount_any t i1.1.1 (by have : potE t = t.st.length + t.tk + 32 * t.a := rfl; omega)
  clear he hev hes hp ha hW TH hR0
  go_enter Tryz.func46, Tryz.ntmps46
  go_wp2_with fail
  refine (show Calls Tryz.prog 57 _ _ _ from HWd.out _).mono ?_
  rintro e w1 ⟨rfl, hw1⟩
  have I1 : Hid (InV w w1 S d F M W s v v t) := by
    have := HE.out.2.2.2.2.2
    rw [hw1]
    exact this.only (by repeat' first | exact Only.refl _ _ | apply Only.alloc)
  clear HWd hw1 mP hC
  have HC : Hid _ := HCn.out w1 I1.out
  clear HCn
  go_wp2_with fail
  refine (show Calls Tryz.prog 54 _ _ _ from HC.out).mono ?_
  clear HC
  intro e w2 G
  obtain ⟨Z, hZ⟩ : ∃ Z, Z = cntE t := ⟨_, rfl⟩
  unfold CnE at G
  rw [← hZ] at G
  have HZ : Hid (Z = cntE t) := hZ
  clear hZ
  rcases Z with k | t1
  · obtain ⟨rfl, rfl⟩ := G
    have hR : R = .error k := by rw [HR.out, ← HZ.out]; rfl
    have OO : Hid (Only (BsF F s v) w w2) := I1.out.2.2.2
    clear HR
    subst hR
    unfold gupE
    go_wp2
    exact ⟨rfl, rfl, OO.out⟩
  obtain ⟨rfl, G⟩ := G
  have iv := I1.out.cnt HE.out.1 HZ.out.symm G.out.1 G.out.2
  have hR : R = ctlE (thrE W n) 3 t1 := by rw [HR.out, ← HZ.out]; rfl
  have I2 : Hid (InV w w2 S d F M W s v v t1) := iv
  have hct := cntE_ok HZ.out.symm
  have HC : Hid _ := ct_keep HE.out.2.1 HE.out.2.2.1 HE.out.1 iv.1 iv.2.1 (by have := HE.out.2.2.2.1; omega) (by have := HE.out.2.2.2.2.1; omega)
  rw [← hR] at HC
  clear HR G iv hR hct I1
  go_wp2_with fail
  refine (show Calls Tryz.prog 62 _ _ _ from HC.out).mono ?_
  clear HC
  intro e w3 G
  have G2 : Hid (TrP S d F M W s v R w e w3) := TrP.step I2.out G
  clear G
  rcases R with k | t9
  · obtain ⟨rfl, o9⟩ := G2.out
    have OO : Hid _ := o9
    clear o9 G2
    unfold gupE
    go_wp2
    exact ⟨rfl, rfl, OO.out⟩
  · obtain ⟨rfl, o9⟩ := G2.out
    clear G2
    go_wp2
    first | (refine bodyPost_ret (results_none rfl _ _ _) rfl ?_; exact ⟨rfl, o9⟩) | (refine ⟨_, results_none rfl _ _ _, rfl, o9⟩) | (refine ⟨rfl, _, results_none rfl _ _ _, rfl, o9⟩)
set_option maxRecDepth 100000 in
set_option maxHeartbeats 1000000 in
theorem it_3 {W : ByteArray → Option (Nat × Nat)} {S : Nat → Prop} {d F M n s : Nat} (hW : WdOk W) (TH : ThC W S d F M n) {v : Value} {t : Ist} {w : World} (he : Env S F M s) (hev : EvAt w F M W t.a) (hes : EsV w S d s t.st t.tk v) (hp : potE t ≤ 900000) (ha : t.a < n + 1) :
    Calls Tryz.prog 46 #[.pointer (some ⟨F, 0, none⟩), .iface 40 (.agg #[.string ⟨#[105, 102]⟩]), .pointer (some ⟨s, 0, none⟩)] w (TrP S d F M W s v (bdE (cntE t) fun t => ctlE (thrE W n) 4 t) w) := by
  have HE : Hid (Env S F M s ∧ WdOk W ∧ ThC W S d F M n ∧ potE t ≤ 900000 ∧ t.a < n + 1 ∧ InV w w S d F M W s v v t) := ⟨he, hW, TH, hp, ha, InV.refl hev hes⟩
  have mP := va_miss 40 70 37 _ Tryz.underlying70 (by intro m h; cases h) (by decide) _ vzero_Push (.agg #[.string ⟨#[105, 102]⟩])
  have hC := va_hit 40 37 _ Tryz.underlying40 (by intro m h; cases h) (.agg #[.string ⟨#[105, 102]⟩])
  obtain ⟨R, hR0⟩ : ∃ R, R = bdE (cntE t) fun t => ctlE (thrE W n) 4 t := ⟨_, rfl⟩
  rw [← hR0]
  have HR : Hid (R = bdE (cntE t) fun t => ctlE (thrE W n) 4 t) := hR0
  have HWd : Hid (∀ w, Calls Tryz.prog 57 #[.pointer (some ⟨F, 0, none⟩), .string ⟨#[105, 102]⟩] w fun e w' => e = .returned (.func (.func 63) #[.pointer (some ⟨F, 0, none⟩)] #[]) ∧ w' = w) := wo_3 F
  have HCn : Hid (∀ w1, InV w w1 S d F M W s v v t → Calls Tryz.prog 54 #[.pointer (some ⟨F, 0, none⟩)] w1 (CnE F M t w1)) := fun w1 i1 => icount_any t i1.1.1 (by have : potE t = t.st.length + t.tk + 32 * t.a := rfl; omega)
  clear he hev hes hp ha hW TH hR0
  go_enter Tryz.func46, Tryz.ntmps46
  go_wp2_with fail
  refine (show Calls Tryz.prog 57 _ _ _ from HWd.out _).mono ?_
  rintro e w1 ⟨rfl, hw1⟩
  have I1 : Hid (InV w w1 S d F M W s v v t) := by
    have := HE.out.2.2.2.2.2
    rw [hw1]
    exact this.only (by repeat' first | exact Only.refl _ _ | apply Only.alloc)
  clear HWd hw1 mP hC
  have HC : Hid _ := HCn.out w1 I1.out
  clear HCn
  go_wp2_with fail
  refine (show Calls Tryz.prog 54 _ _ _ from HC.out).mono ?_
  clear HC
  intro e w2 G
  obtain ⟨Z, hZ⟩ : ∃ Z, Z = cntE t := ⟨_, rfl⟩
  unfold CnE at G
  rw [← hZ] at G
  have HZ : Hid (Z = cntE t) := hZ
  clear hZ
  rcases Z with k | t1
  · obtain ⟨rfl, rfl⟩ := G
    have hR : R = .error k := by rw [HR.out, ← HZ.out]; rfl
    have OO : Hid (Only (BsF F s v) w w2) := I1.out.2.2.2
    clear HR
    subst hR
    unfold gupE
    go_wp2
    exact ⟨rfl, rfl, OO.out⟩
  obtain ⟨rfl, G⟩ := G
  have iv := I1.out.cnt HE.out.1 HZ.out.symm G.out.1 G.out.2
  have hR : R = ctlE (thrE W n) 4 t1 := by rw [HR.out, ← HZ.out]; rfl
  have I2 : Hid (InV w w2 S d F M W s v v t1) := iv
  have hct := cntE_ok HZ.out.symm
  have HC : Hid _ := ct_choose HE.out.2.1 HE.out.2.2.1 HE.out.1 iv.1 iv.2.1 (by have := HE.out.2.2.2.1; omega) (by have := HE.out.2.2.2.2.1; omega)
  rw [← hR] at HC
  clear HR G iv hR hct I1
  go_wp2_with fail
  refine (show Calls Tryz.prog 63 _ _ _ from HC.out).mono ?_
  clear HC
  intro e w3 G
  have G2 : Hid (TrP S d F M W s v R w e w3) := TrP.step I2.out G
  clear G
  rcases R with k | t9
  · obtain ⟨rfl, o9⟩ := G2.out
    have OO : Hid _ := o9
    clear o9 G2
    unfold gupE
    go_wp2
    exact ⟨rfl, rfl, OO.out⟩
  · obtain ⟨rfl, o9⟩ := G2.out
    clear G2
    go_wp2
    first | (refine bodyPost_ret (results_none rfl _ _ _) rfl ?_; exact ⟨rfl, o9⟩) | (refine ⟨_, results_none rfl _ _ _, rfl, o9⟩) | (refine ⟨rfl, _, results_none rfl _ _ _, rfl, o9⟩)
set_option maxRecDepth 100000 in
set_option maxHeartbeats 1000000 in
theorem it_4 {W : ByteArray → Option (Nat × Nat)} {S : Nat → Prop} {d F M n s : Nat} (hW : WdOk W) (TH : ThC W S d F M n) {v : Value} {t : Ist} {w : World} (he : Env S F M s) (hev : EvAt w F M W t.a) (hes : EsV w S d s t.st t.tk v) (hp : potE t ≤ 900000) (ha : t.a < n + 1) :
    Calls Tryz.prog 46 #[.pointer (some ⟨F, 0, none⟩), .iface 40 (.agg #[.string ⟨#[119, 104, 101, 110]⟩]), .pointer (some ⟨s, 0, none⟩)] w (TrP S d F M W s v (bdE (cntE t) fun t => ctlE (thrE W n) 5 t) w) := by
  have HE : Hid (Env S F M s ∧ WdOk W ∧ ThC W S d F M n ∧ potE t ≤ 900000 ∧ t.a < n + 1 ∧ InV w w S d F M W s v v t) := ⟨he, hW, TH, hp, ha, InV.refl hev hes⟩
  have mP := va_miss 40 70 37 _ Tryz.underlying70 (by intro m h; cases h) (by decide) _ vzero_Push (.agg #[.string ⟨#[119, 104, 101, 110]⟩])
  have hC := va_hit 40 37 _ Tryz.underlying40 (by intro m h; cases h) (.agg #[.string ⟨#[119, 104, 101, 110]⟩])
  obtain ⟨R, hR0⟩ : ∃ R, R = bdE (cntE t) fun t => ctlE (thrE W n) 5 t := ⟨_, rfl⟩
  rw [← hR0]
  have HR : Hid (R = bdE (cntE t) fun t => ctlE (thrE W n) 5 t) := hR0
  have HWd : Hid (∀ w, Calls Tryz.prog 57 #[.pointer (some ⟨F, 0, none⟩), .string ⟨#[119, 104, 101, 110]⟩] w fun e w' => e = .returned (.func (.func 64) #[.pointer (some ⟨F, 0, none⟩)] #[]) ∧ w' = w) := wo_4 F
  have HCn : Hid (∀ w1, InV w w1 S d F M W s v v t → Calls Tryz.prog 54 #[.pointer (some ⟨F, 0, none⟩)] w1 (CnE F M t w1)) := fun w1 i1 => icount_any t i1.1.1 (by have : potE t = t.st.length + t.tk + 32 * t.a := rfl; omega)
  clear he hev hes hp ha hW TH hR0
  go_enter Tryz.func46, Tryz.ntmps46
  go_wp2_with fail
  refine (show Calls Tryz.prog 57 _ _ _ from HWd.out _).mono ?_
  rintro e w1 ⟨rfl, hw1⟩
  have I1 : Hid (InV w w1 S d F M W s v v t) := by
    have := HE.out.2.2.2.2.2
    rw [hw1]
    exact this.only (by repeat' first | exact Only.refl _ _ | apply Only.alloc)
  clear HWd hw1 mP hC
  have HC : Hid _ := HCn.out w1 I1.out
  clear HCn
  go_wp2_with fail
  refine (show Calls Tryz.prog 54 _ _ _ from HC.out).mono ?_
  clear HC
  intro e w2 G
  obtain ⟨Z, hZ⟩ : ∃ Z, Z = cntE t := ⟨_, rfl⟩
  unfold CnE at G
  rw [← hZ] at G
  have HZ : Hid (Z = cntE t) := hZ
  clear hZ
  rcases Z with k | t1
  · obtain ⟨rfl, rfl⟩ := G
    have hR : R = .error k := by rw [HR.out, ← HZ.out]; rfl
    have OO : Hid (Only (BsF F s v) w w2) := I1.out.2.2.2
    clear HR
    subst hR
    unfold gupE
    go_wp2
    exact ⟨rfl, rfl, OO.out⟩
  obtain ⟨rfl, G⟩ := G
  have iv := I1.out.cnt HE.out.1 HZ.out.symm G.out.1 G.out.2
  have hR : R = ctlE (thrE W n) 5 t1 := by rw [HR.out, ← HZ.out]; rfl
  have I2 : Hid (InV w w2 S d F M W s v v t1) := iv
  have hct := cntE_ok HZ.out.symm
  have HC : Hid _ := ct_repeat HE.out.2.1 HE.out.2.2.1 HE.out.1 iv.1 iv.2.1 (by have := HE.out.2.2.2.1; omega) (by have := HE.out.2.2.2.2.1; omega)
  rw [← hR] at HC
  clear HR G iv hR hct I1
  go_wp2_with fail
  refine (show Calls Tryz.prog 64 _ _ _ from HC.out).mono ?_
  clear HC
  intro e w3 G
  have G2 : Hid (TrP S d F M W s v R w e w3) := TrP.step I2.out G
  clear G
  rcases R with k | t9
  · obtain ⟨rfl, o9⟩ := G2.out
    have OO : Hid _ := o9
    clear o9 G2
    unfold gupE
    go_wp2
    exact ⟨rfl, rfl, OO.out⟩
  · obtain ⟨rfl, o9⟩ := G2.out
    clear G2
    go_wp2
    first | (refine bodyPost_ret (results_none rfl _ _ _) rfl ?_; exact ⟨rfl, o9⟩) | (refine ⟨_, results_none rfl _ _ _, rfl, o9⟩) | (refine ⟨rfl, _, results_none rfl _ _ _, rfl, o9⟩)
set_option maxRecDepth 100000 in
set_option maxHeartbeats 1000000 in
theorem it_5 {W : ByteArray → Option (Nat × Nat)} {S : Nat → Prop} {d F M n s : Nat} (hW : WdOk W) (TH : ThC W S d F M n) {v : Value} {t : Ist} {w : World} (he : Env S F M s) (hev : EvAt w F M W t.a) (hes : EsV w S d s t.st t.tk v) (hp : potE t ≤ 900000) (ha : t.a < n + 1) :
    Calls Tryz.prog 46 #[.pointer (some ⟨F, 0, none⟩), .iface 40 (.agg #[.string ⟨#[116, 105, 109, 101, 115]⟩]), .pointer (some ⟨s, 0, none⟩)] w (TrP S d F M W s v (bdE (cntE t) fun t => ctlE (thrE W n) 5 t) w) := by
  have HE : Hid (Env S F M s ∧ WdOk W ∧ ThC W S d F M n ∧ potE t ≤ 900000 ∧ t.a < n + 1 ∧ InV w w S d F M W s v v t) := ⟨he, hW, TH, hp, ha, InV.refl hev hes⟩
  have mP := va_miss 40 70 37 _ Tryz.underlying70 (by intro m h; cases h) (by decide) _ vzero_Push (.agg #[.string ⟨#[116, 105, 109, 101, 115]⟩])
  have hC := va_hit 40 37 _ Tryz.underlying40 (by intro m h; cases h) (.agg #[.string ⟨#[116, 105, 109, 101, 115]⟩])
  obtain ⟨R, hR0⟩ : ∃ R, R = bdE (cntE t) fun t => ctlE (thrE W n) 5 t := ⟨_, rfl⟩
  rw [← hR0]
  have HR : Hid (R = bdE (cntE t) fun t => ctlE (thrE W n) 5 t) := hR0
  have HWd : Hid (∀ w, Calls Tryz.prog 57 #[.pointer (some ⟨F, 0, none⟩), .string ⟨#[116, 105, 109, 101, 115]⟩] w fun e w' => e = .returned (.func (.func 64) #[.pointer (some ⟨F, 0, none⟩)] #[]) ∧ w' = w) := wo_5 F
  have HCn : Hid (∀ w1, InV w w1 S d F M W s v v t → Calls Tryz.prog 54 #[.pointer (some ⟨F, 0, none⟩)] w1 (CnE F M t w1)) := fun w1 i1 => icount_any t i1.1.1 (by have : potE t = t.st.length + t.tk + 32 * t.a := rfl; omega)
  clear he hev hes hp ha hW TH hR0
  go_enter Tryz.func46, Tryz.ntmps46
  go_wp2_with fail
  refine (show Calls Tryz.prog 57 _ _ _ from HWd.out _).mono ?_
  rintro e w1 ⟨rfl, hw1⟩
  have I1 : Hid (InV w w1 S d F M W s v v t) := by
    have := HE.out.2.2.2.2.2
    rw [hw1]
    exact this.only (by repeat' first | exact Only.refl _ _ | apply Only.alloc)
  clear HWd hw1 mP hC
  have HC : Hid _ := HCn.out w1 I1.out
  clear HCn
  go_wp2_with fail
  refine (show Calls Tryz.prog 54 _ _ _ from HC.out).mono ?_
  clear HC
  intro e w2 G
  obtain ⟨Z, hZ⟩ : ∃ Z, Z = cntE t := ⟨_, rfl⟩
  unfold CnE at G
  rw [← hZ] at G
  have HZ : Hid (Z = cntE t) := hZ
  clear hZ
  rcases Z with k | t1
  · obtain ⟨rfl, rfl⟩ := G
    have hR : R = .error k := by rw [HR.out, ← HZ.out]; rfl
    have OO : Hid (Only (BsF F s v) w w2) := I1.out.2.2.2
    clear HR
    subst hR
    unfold gupE
    go_wp2
    exact ⟨rfl, rfl, OO.out⟩
  obtain ⟨rfl, G⟩ := G
  have iv := I1.out.cnt HE.out.1 HZ.out.symm G.out.1 G.out.2
  have hR : R = ctlE (thrE W n) 5 t1 := by rw [HR.out, ← HZ.out]; rfl
  have I2 : Hid (InV w w2 S d F M W s v v t1) := iv
  have hct := cntE_ok HZ.out.symm
  have HC : Hid _ := ct_repeat HE.out.2.1 HE.out.2.2.1 HE.out.1 iv.1 iv.2.1 (by have := HE.out.2.2.2.1; omega) (by have := HE.out.2.2.2.2.1; omega)
  rw [← hR] at HC
  clear HR G iv hR hct I1
  go_wp2_with fail
  refine (show Calls Tryz.prog 64 _ _ _ from HC.out).mono ?_
  clear HC
  intro e w3 G
  have G2 : Hid (TrP S d F M W s v R w e w3) := TrP.step I2.out G
  clear G
  rcases R with k | t9
  · obtain ⟨rfl, o9⟩ := G2.out
    have OO : Hid _ := o9
    clear o9 G2
    unfold gupE
    go_wp2
    exact ⟨rfl, rfl, OO.out⟩
  · obtain ⟨rfl, o9⟩ := G2.out
    clear G2
    go_wp2
    first | (refine bodyPost_ret (results_none rfl _ _ _) rfl ?_; exact ⟨rfl, o9⟩) | (refine ⟨_, results_none rfl _ _ _, rfl, o9⟩) | (refine ⟨rfl, _, results_none rfl _ _ _, rfl, o9⟩)
set_option maxRecDepth 100000 in
set_option maxHeartbeats 1000000 in
theorem it_6 {W : ByteArray → Option (Nat × Nat)} {S : Nat → Prop} {d F M n s : Nat} (hW : WdOk W) (TH : ThC W S d F M n) {v : Value} {t : Ist} {w : World} (he : Env S F M s) (hev : EvAt w F M W t.a) (hes : EsV w S d s t.st t.tk v) (hp : potE t ≤ 900000) (ha : t.a < n + 1) :
    Calls Tryz.prog 46 #[.pointer (some ⟨F, 0, none⟩), .iface 40 (.agg #[.string ⟨#[108, 111, 111, 112]⟩]), .pointer (some ⟨s, 0, none⟩)] w (TrP S d F M W s v (bdE (cntE t) fun t => ctlE (thrE W n) 6 t) w) := by
  have HE : Hid (Env S F M s ∧ WdOk W ∧ ThC W S d F M n ∧ potE t ≤ 900000 ∧ t.a < n + 1 ∧ InV w w S d F M W s v v t) := ⟨he, hW, TH, hp, ha, InV.refl hev hes⟩
  have mP := va_miss 40 70 37 _ Tryz.underlying70 (by intro m h; cases h) (by decide) _ vzero_Push (.agg #[.string ⟨#[108, 111, 111, 112]⟩])
  have hC := va_hit 40 37 _ Tryz.underlying40 (by intro m h; cases h) (.agg #[.string ⟨#[108, 111, 111, 112]⟩])
  obtain ⟨R, hR0⟩ : ∃ R, R = bdE (cntE t) fun t => ctlE (thrE W n) 6 t := ⟨_, rfl⟩
  rw [← hR0]
  have HR : Hid (R = bdE (cntE t) fun t => ctlE (thrE W n) 6 t) := hR0
  have HWd : Hid (∀ w, Calls Tryz.prog 57 #[.pointer (some ⟨F, 0, none⟩), .string ⟨#[108, 111, 111, 112]⟩] w fun e w' => e = .returned (.func (.func 65) #[.pointer (some ⟨F, 0, none⟩)] #[]) ∧ w' = w) := wo_6 F
  have HCn : Hid (∀ w1, InV w w1 S d F M W s v v t → Calls Tryz.prog 54 #[.pointer (some ⟨F, 0, none⟩)] w1 (CnE F M t w1)) := fun w1 i1 => icount_any t i1.1.1 (by have : potE t = t.st.length + t.tk + 32 * t.a := rfl; omega)
  clear he hev hes hp ha hW TH hR0
  go_enter Tryz.func46, Tryz.ntmps46
  go_wp2_with fail
  refine (show Calls Tryz.prog 57 _ _ _ from HWd.out _).mono ?_
  rintro e w1 ⟨rfl, hw1⟩
  have I1 : Hid (InV w w1 S d F M W s v v t) := by
    have := HE.out.2.2.2.2.2
    rw [hw1]
    exact this.only (by repeat' first | exact Only.refl _ _ | apply Only.alloc)
  clear HWd hw1 mP hC
  have HC : Hid _ := HCn.out w1 I1.out
  clear HCn
  go_wp2_with fail
  refine (show Calls Tryz.prog 54 _ _ _ from HC.out).mono ?_
  clear HC
  intro e w2 G
  obtain ⟨Z, hZ⟩ : ∃ Z, Z = cntE t := ⟨_, rfl⟩
  unfold CnE at G
  rw [← hZ] at G
  have HZ : Hid (Z = cntE t) := hZ
  clear hZ
  rcases Z with k | t1
  · obtain ⟨rfl, rfl⟩ := G
    have hR : R = .error k := by rw [HR.out, ← HZ.out]; rfl
    have OO : Hid (Only (BsF F s v) w w2) := I1.out.2.2.2
    clear HR
    subst hR
    unfold gupE
    go_wp2
    exact ⟨rfl, rfl, OO.out⟩
  obtain ⟨rfl, G⟩ := G
  have iv := I1.out.cnt HE.out.1 HZ.out.symm G.out.1 G.out.2
  have hR : R = ctlE (thrE W n) 6 t1 := by rw [HR.out, ← HZ.out]; rfl
  have I2 : Hid (InV w w2 S d F M W s v v t1) := iv
  have hct := cntE_ok HZ.out.symm
  have HC : Hid _ := ct_loop HE.out.2.1 HE.out.2.2.1 HE.out.1 iv.1 iv.2.1 (by have := HE.out.2.2.2.1; omega) (by have := HE.out.2.2.2.2.1; omega)
  rw [← hR] at HC
  clear HR G iv hR hct I1
  go_wp2_with fail
  refine (show Calls Tryz.prog 65 _ _ _ from HC.out).mono ?_
  clear HC
  intro e w3 G
  have G2 : Hid (TrP S d F M W s v R w e w3) := TrP.step I2.out G
  clear G
  rcases R with k | t9
  · obtain ⟨rfl, o9⟩ := G2.out
    have OO : Hid _ := o9
    clear o9 G2
    unfold gupE
    go_wp2
    exact ⟨rfl, rfl, OO.out⟩
  · obtain ⟨rfl, o9⟩ := G2.out
    clear G2
    go_wp2
    first | (refine bodyPost_ret (results_none rfl _ _ _) rfl ?_; exact ⟨rfl, o9⟩) | (refine ⟨_, results_none rfl _ _ _, rfl, o9⟩) | (refine ⟨rfl, _, results_none rfl _ _ _, rfl, o9⟩)
set_option maxRecDepth 100000 in
set_option maxHeartbeats 1000000 in
theorem it_7 {W : ByteArray → Option (Nat × Nat)} {S : Nat → Prop} {d F M n s : Nat} (hW : WdOk W) (TH : ThC W S d F M n) {v : Value} {t : Ist} {w : World} (he : Env S F M s) (hev : EvAt w F M W t.a) (hes : EsV w S d s t.st t.tk v) (hp : potE t ≤ 900000) (ha : t.a < n + 1) :
    Calls Tryz.prog 46 #[.pointer (some ⟨F, 0, none⟩), .iface 40 (.agg #[.string ⟨#[101, 97, 99, 104]⟩]), .pointer (some ⟨s, 0, none⟩)] w (TrP S d F M W s v (bdE (cntE t) fun t => ctlE (thrE W n) 7 t) w) := by
  have HE : Hid (Env S F M s ∧ WdOk W ∧ ThC W S d F M n ∧ potE t ≤ 900000 ∧ t.a < n + 1 ∧ InV w w S d F M W s v v t) := ⟨he, hW, TH, hp, ha, InV.refl hev hes⟩
  have mP := va_miss 40 70 37 _ Tryz.underlying70 (by intro m h; cases h) (by decide) _ vzero_Push (.agg #[.string ⟨#[101, 97, 99, 104]⟩])
  have hC := va_hit 40 37 _ Tryz.underlying40 (by intro m h; cases h) (.agg #[.string ⟨#[101, 97, 99, 104]⟩])
  obtain ⟨R, hR0⟩ : ∃ R, R = bdE (cntE t) fun t => ctlE (thrE W n) 7 t := ⟨_, rfl⟩
  rw [← hR0]
  have HR : Hid (R = bdE (cntE t) fun t => ctlE (thrE W n) 7 t) := hR0
  have HWd : Hid (∀ w, Calls Tryz.prog 57 #[.pointer (some ⟨F, 0, none⟩), .string ⟨#[101, 97, 99, 104]⟩] w fun e w' => e = .returned (.func (.func 66) #[.pointer (some ⟨F, 0, none⟩)] #[]) ∧ w' = w) := wo_7 F
  have HCn : Hid (∀ w1, InV w w1 S d F M W s v v t → Calls Tryz.prog 54 #[.pointer (some ⟨F, 0, none⟩)] w1 (CnE F M t w1)) := fun w1 i1 => icount_any t i1.1.1 (by have : potE t = t.st.length + t.tk + 32 * t.a := rfl; omega)
  clear he hev hes hp ha hW TH hR0
  go_enter Tryz.func46, Tryz.ntmps46
  go_wp2_with fail
  refine (show Calls Tryz.prog 57 _ _ _ from HWd.out _).mono ?_
  rintro e w1 ⟨rfl, hw1⟩
  have I1 : Hid (InV w w1 S d F M W s v v t) := by
    have := HE.out.2.2.2.2.2
    rw [hw1]
    exact this.only (by repeat' first | exact Only.refl _ _ | apply Only.alloc)
  clear HWd hw1 mP hC
  have HC : Hid _ := HCn.out w1 I1.out
  clear HCn
  go_wp2_with fail
  refine (show Calls Tryz.prog 54 _ _ _ from HC.out).mono ?_
  clear HC
  intro e w2 G
  obtain ⟨Z, hZ⟩ : ∃ Z, Z = cntE t := ⟨_, rfl⟩
  unfold CnE at G
  rw [← hZ] at G
  have HZ : Hid (Z = cntE t) := hZ
  clear hZ
  rcases Z with k | t1
  · obtain ⟨rfl, rfl⟩ := G
    have hR : R = .error k := by rw [HR.out, ← HZ.out]; rfl
    have OO : Hid (Only (BsF F s v) w w2) := I1.out.2.2.2
    clear HR
    subst hR
    unfold gupE
    go_wp2
    exact ⟨rfl, rfl, OO.out⟩
  obtain ⟨rfl, G⟩ := G
  have iv := I1.out.cnt HE.out.1 HZ.out.symm G.out.1 G.out.2
  have hR : R = ctlE (thrE W n) 7 t1 := by rw [HR.out, ← HZ.out]; rfl
  have I2 : Hid (InV w w2 S d F M W s v v t1) := iv
  have hct := cntE_ok HZ.out.symm
  have HC : Hid _ := ct_each HE.out.2.1 HE.out.2.2.1 HE.out.1 iv.1 iv.2.1 (by have := HE.out.2.2.2.1; omega) (by have := HE.out.2.2.2.2.1; omega)
  rw [← hR] at HC
  clear HR G iv hR hct I1
  go_wp2_with fail
  refine (show Calls Tryz.prog 66 _ _ _ from HC.out).mono ?_
  clear HC
  intro e w3 G
  have G2 : Hid (TrP S d F M W s v R w e w3) := TrP.step I2.out G
  clear G
  rcases R with k | t9
  · obtain ⟨rfl, o9⟩ := G2.out
    have OO : Hid _ := o9
    clear o9 G2
    unfold gupE
    go_wp2
    exact ⟨rfl, rfl, OO.out⟩
  · obtain ⟨rfl, o9⟩ := G2.out
    clear G2
    go_wp2
    first | (refine bodyPost_ret (results_none rfl _ _ _) rfl ?_; exact ⟨rfl, o9⟩) | (refine ⟨_, results_none rfl _ _ _, rfl, o9⟩) | (refine ⟨rfl, _, results_none rfl _ _ _, rfl, o9⟩)
end Go.Proofs.YtodbkihobgdpdaaGreatDoor
namespace Go.Proofs.YtodbkihobgdpdaaGreatDoor
open Go.RowKit Go.Lib
set_option linter.unusedSimpArgs false
set_option linter.unusedVariables false
/-- a word that calls no quotations -/
def plnR (X : Option (Nat × Nat)) (Y : Option (List Nat)) (t : Ist) : Except Int Ist := match X with
  | none => .error 10
  | some e => bdE (cntE t) fun t => .ok (match Y with
    | some ps => movE e.1 ps t
    | none => appE e.1 e.2 t)
theorem kwF_no {l : List UInt8} : ∀ {q : List (List UInt8 × Nat)}, (∀ x ∈ q, x.2 ≠ 0) → kwF l q = 0 → ∀ x ∈ q, l ≠ x.1
  | [], _, _, x, hx => by simp at hx
  | y :: r, hq, h, x, hx => by
    unfold kwF at h
    split at h
    · exact absurd h (hq y (by simp))
    · rename_i hy
      rcases List.mem_cons.1 hx with rfl | hx
      · exact hy
      · exact kwF_no (fun z hz => hq z (by simp [hz])) h x hx
theorem mv_pln {W : ByteArray → Option (Nat × Nat)} {s : ByteArray} {ps : List Nat} {e : Nat × Nat} (h : mvP s = some ps) (he : plnE W s = some e) : (1 ≤ e.1 ∧ e.1 ≤ 3) ∧ (∀ p ∈ ps, p < e.1) ∧ ps.length ≤ 3 := by
  by_cases h0 : s.toList = [100, 117, 112]
  · rw [to_lit h0] at h he
    rw [show mvP ⟨[100, 117, 112].toArray⟩ = some [0, 0] from by kernel_rfl] at h
    unfold plnE at he
    rw [show pmR ⟨[100, 117, 112].toArray⟩ = (1, 2, true) from by kernel_rfl] at he
    injection h with h
    simp at he
    subst h
    subst he
    simp
  by_cases h1 : s.toList = [100, 114, 111, 112]
  · rw [to_lit h1] at h he
    rw [show mvP ⟨[100, 114, 111, 112].toArray⟩ = some [] from by kernel_rfl] at h
    unfold plnE at he
    rw [show pmR ⟨[100, 114, 111, 112].toArray⟩ = (1, 0, true) from by kernel_rfl] at he
    injection h with h
    simp at he
    subst h
    subst he
    simp
  by_cases h2 : s.toList = [115, 119, 97, 112]
  · rw [to_lit h2] at h he
    rw [show mvP ⟨[115, 119, 97, 112].toArray⟩ = some [1, 0] from by kernel_rfl] at h
    unfold plnE at he
    rw [show pmR ⟨[115, 119, 97, 112].toArray⟩ = (2, 2, true) from by kernel_rfl] at he
    injection h with h
    simp at he
    subst h
    subst he
    simp
  by_cases h3 : s.toList = [111, 118, 101, 114]
  · rw [to_lit h3] at h he
    rw [show mvP ⟨[111, 118, 101, 114].toArray⟩ = some [0, 1, 0] from by kernel_rfl] at h
    unfold plnE at he
    rw [show pmR ⟨[111, 118, 101, 114].toArray⟩ = (2, 3, true) from by kernel_rfl] at he
    injection h with h
    simp at he
    subst h
    subst he
    simp
  by_cases h4 : s.toList = [114, 111, 116]
  · rw [to_lit h4] at h he
    rw [show mvP ⟨[114, 111, 116].toArray⟩ = some [1, 2, 0] from by kernel_rfl] at h
    unfold plnE at he
    rw [show pmR ⟨[114, 111, 116].toArray⟩ = (3, 3, true) from by kernel_rfl] at he
    injection h with h
    simp at he
    subst h
    subst he
    simp
  by_cases h5 : s.toList = [110, 105, 112]
  · rw [to_lit h5] at h he
    rw [show mvP ⟨[110, 105, 112].toArray⟩ = some [1] from by kernel_rfl] at h
    unfold plnE at he
    rw [show pmR ⟨[110, 105, 112].toArray⟩ = (2, 1, true) from by kernel_rfl] at he
    injection h with h
    simp at he
    subst h
    subst he
    simp
  by_cases h6 : s.toList = [116, 117, 99, 107]
  · rw [to_lit h6] at h he
    rw [show mvP ⟨[116, 117, 99, 107].toArray⟩ = some [1, 0, 1] from by kernel_rfl] at h
    unfold plnE at he
    rw [show pmR ⟨[116, 117, 99, 107].toArray⟩ = (2, 3, true) from by kernel_rfl] at he
    injection h with h
    simp at he
    subst h
    subst he
    simp
  have hn : ∀ x ∈ mvT, s.toList ≠ x.1 := by
    intro x hx
    simp only [mvT, List.mem_cons, List.not_mem_nil, or_false] at hx
    rcases hx with rfl | rfl | rfl | rfl | rfl | rfl | rfl
    · exact h0
    · exact h1
    · exact h2
    · exact h3
    · exact h4
    · exact h5
    · exact h6
  rw [show mvP s = none from mvF_no _ _ hn] at h
  exact nomatch h
set_option maxRecDepth 100000 in
set_option maxHeartbeats 1000000 in
theorem it_no {W : ByteArray → Option (Nat × Nat)} {S : Nat → Prop} {d F M s : Nat} (hW : WdOk W) {v : Value} {t : Ist} {w : World} {sg : ByteArray} (hsz : sg.size ≤ 140737488355328) (hkw : ∀ x ∈ kwT, sg.toList ≠ x.1) (he : Env S F M s) (hev : EvAt w F M W t.a) (hes : EsV w S d s t.st t.tk v) (hp : potE t ≤ 900000) :
    Calls Tryz.prog 46 #[.pointer (some ⟨F, 0, none⟩), .iface 40 (.agg #[.string sg]), .pointer (some ⟨s, 0, none⟩)] w (TrP S d F M W s v (plnR (plnE W sg) (mvP sg) t) w) := by
  have HE : Hid (Env S F M s ∧ WdOk W ∧ potE t ≤ 900000 ∧ InV w w S d F M W s v v t) := ⟨he, hW, hp, InV.refl hev hes⟩
  have mP := va_miss 40 70 37 _ Tryz.underlying70 (by intro m h; cases h) (by decide) _ vzero_Push (.agg #[.string sg])
  have hC := va_hit 40 37 _ Tryz.underlying40 (by intro m h; cases h) (.agg #[.string sg])
  obtain ⟨R, hR0⟩ : ∃ R, R = plnR (plnE W sg) (mvP sg) t := ⟨_, rfl⟩
  rw [← hR0]
  obtain ⟨X, hX⟩ : ∃ X, X = plnE W sg := ⟨_, rfl⟩
  obtain ⟨Y, hY⟩ : ∃ Y, Y = mvP sg := ⟨_, rfl⟩
  rw [← hX, ← hY] at hR0
  have HR : Hid (R = plnR X Y t) := hR0
  have HXY : Hid (X = plnE W sg ∧ Y = mvP sg) := ⟨hX, hY⟩
  have HWd : Hid (∀ w1, EvAt w1 F M W t.a → Calls Tryz.prog 57 #[.pointer (some ⟨F, 0, none⟩), .string sg] w1 (WoB X Y w1)) := fun w1 h1 => by rw [hX, hY]; exact wo_no h1 sg hsz hkw
  have HCn : Hid (∀ w1, InV w w1 S d F M W s v v t → Calls Tryz.prog 54 #[.pointer (some ⟨F, 0, none⟩)] w1 (CnE F M t w1)) := fun w1 i1 => icount_any t i1.1.1 (by have : potE t = t.st.length + t.tk + 32 * t.a := rfl; omega)
  clear he hev hes hp hW hR0 hX hY hsz hkw
  go_enter Tryz.func46, Tryz.ntmps46
  go_wp2_with fail
  have IA : Hid (InV w (w.alloc (.cells #[.string sg] 40)) S d F M W s v v t) := HE.out.2.2.2.only ((Only.refl _ _).alloc _)
  refine (show Calls Tryz.prog 57 _ _ _ from HWd.out _ IA.out.1).mono ?_
  clear HWd mP hC
  obtain ⟨wa, hwa⟩ : ∃ X, X = w.alloc (.cells #[.string sg] 40) := ⟨_, rfl⟩
  rw [← hwa] at IA ⊢
  have Hwa : Hid (w.heap.size ≤ wa.heap.size) := by rw [hwa]; show _ ≤ _; simp
  clear hwa
  intro e w1 G
  rcases X with _ | x
  · obtain ⟨rfl, o1⟩ := G
    have hR : R = .error 10 := HR.out
    have OO : Hid (Only (BsF F s v) w w1) := (IA.out.only o1).2.2.2
    clear HR
    subst hR
    unfold gupE
    go_wp2
    exact ⟨rfl, rfl, OO.out⟩
  rcases Y with _ | ps
  · obtain ⟨A, rfl, G⟩ := G
    obtain ⟨hA, hAs, o1⟩ := G.out
    have I1 : Hid (InV w w1 S d F M W s v v t) := IA.out.only o1
    have HA : Hid (w1.heap[A]? = some (.cells #[.int .i64 (x.1 : Int), .int .i64 (x.2 : Int)] 30) ∧ w.heap.size ≤ A) := ⟨hA, by have := Hwa.out; omega⟩
    have HC : Hid _ := HCn.out w1 I1.out
    clear HCn G hA hAs o1
    go_wp2_with fail
    refine (show Calls Tryz.prog 54 _ _ _ from HC.out).mono ?_
    clear HC
    intro e w2 G
    obtain ⟨Z, hZ⟩ : ∃ Z, Z = cntE t := ⟨_, rfl⟩
    unfold CnE at G
    rw [← hZ] at G
    have HZ : Hid (Z = cntE t) := hZ
    clear hZ
    rcases Z with k | t1
    · obtain ⟨rfl, rfl⟩ := G
      have hR : R = .error k := by rw [HR.out]; simp only [plnR, ← HZ.out, bdE]
      have OO : Hid (Only (BsF F s v) w w2) := I1.out.2.2.2
      clear HR
      subst hR
      unfold gupE
      go_wp2
      exact ⟨rfl, rfl, OO.out⟩
    obtain ⟨rfl, G⟩ := G
    have iv := I1.out.cnt HE.out.1 HZ.out.symm G.out.1 G.out.2
    have hR : R = .ok (appE x.1 x.2 t1) := by rw [HR.out]; simp only [plnR, ← HZ.out, bdE]
    have I2 : Hid (InV w w2 S d F M W s v v t1) := iv
    have hct := cntE_ok HZ.out.symm
    have hpl := pln_ok HE.out.2.1 HXY.out.1.symm
    have hFw := HE.out.1.1
    have hsw := EsAt.lt ⟨v, HE.out.2.2.2.2.1⟩
    have HC : Hid _ := apply_f (W := W) (F := F) (M := M) A x.1 x.2 iv.2.1 (fun b hb => (HE.out.1.2.2.2 b hb).1) ((G.out.2.block A (Array.getElem?_eq_some_iff.1 HA.out.1).1 (by have := HA.out.2; omega)).trans HA.out.1) (by have := HE.out.2.2.1; omega)
    clear HR G iv hct I1 HA hpl hFw hsw
    subst hR
    go_wp2_with fail
    refine (show Calls Tryz.prog 71 _ _ _ from HC.out).mono ?_
    clear HC
    rintro e w3 ⟨rfl, G⟩
    obtain ⟨v8, iv⟩ := I2.out.eso HE.out.1 G.out
    have F9 : Hid (∃ v', InV w w3 S d F M W s v v' (appE x.1 x.2 t1)) := by
      refine ⟨v8, ?_⟩
      have e8 : (⟨t1.a, (appE x.1 x.2 t1).st, (appE x.1 x.2 t1).tk⟩ : Ist) = appE x.1 x.2 t1 := by rw [← (appE_pot x.1 x.2 t1).1]
      rw [← e8]
      exact iv
    clear G iv
    go_wp2
    first | (refine bodyPost_ret (results_none rfl _ _ _) rfl ?_; exact ⟨rfl, F9.out⟩) | (refine ⟨_, results_none rfl _ _ _, rfl, F9.out⟩) | (refine ⟨rfl, _, results_none rfl _ _ _, rfl, F9.out⟩)
  · obtain ⟨A, B, pa, pc, rfl, G⟩ := G
    obtain ⟨hA, hAs, hB, hBs, hpl, o1⟩ := G.out
    have I1 : Hid (InV w w1 S d F M W s v v t) := IA.out.only o1
    have HA : Hid ((w1.heap[A]? = some (.cells #[.int .i64 (x.1 : Int), .int .i64 (x.2 : Int)] 30) ∧ w.heap.size ≤ A) ∧ (w1.heap[B]? = some (.cells #[.slice pa ps.length pc] 76) ∧ w.heap.size ≤ B) ∧ ∀ (j p : Nat), ps[j]? = some p → ∃ pg, pa = some ⟨pg, 0, none⟩ ∧ w.heap.size ≤ pg ∧ pg < w1.heap.size ∧ w1.cell? ⟨pg, j, none⟩ = some (.int .i64 (p : Int))) :=
      ⟨⟨hA, by have := Hwa.out; omega⟩, ⟨hB, by have := Hwa.out; omega⟩, fun j p hjp => by
        obtain ⟨pg, q1, q2, q3, q4⟩ := hpl j p hjp
        exact ⟨pg, q1, by have := Hwa.out; omega, q3, q4⟩⟩
    have HC : Hid _ := HCn.out w1 I1.out
    clear HCn G hA hAs hB hBs hpl o1
    go_wp2_with fail
    refine (show Calls Tryz.prog 54 _ _ _ from HC.out).mono ?_
    clear HC
    intro e w2 G
    obtain ⟨Z, hZ⟩ : ∃ Z, Z = cntE t := ⟨_, rfl⟩
    unfold CnE at G
    rw [← hZ] at G
    have HZ : Hid (Z = cntE t) := hZ
    clear hZ
    rcases Z with k | t1
    · obtain ⟨rfl, rfl⟩ := G
      have hR : R = .error k := by rw [HR.out]; simp only [plnR, ← HZ.out, bdE]
      have OO : Hid (Only (BsF F s v) w w2) := I1.out.2.2.2
      clear HR
      subst hR
      unfold gupE
      go_wp2
      exact ⟨rfl, rfl, OO.out⟩
    obtain ⟨rfl, G⟩ := G
    have iv := I1.out.cnt HE.out.1 HZ.out.symm G.out.1 G.out.2
    have hR : R = .ok (movE x.1 ps t1) := by rw [HR.out]; simp only [plnR, ← HZ.out, bdE]
    have I2 : Hid (InV w w2 S d F M W s v v t1) := iv
    have hct := cntE_ok HZ.out.symm
    have hmv := mv_pln HXY.out.2.symm HXY.out.1.symm
    have hFw := HE.out.1.1
    have hsw := EsAt.lt ⟨v, HE.out.2.2.2.2.1⟩
    have hown := HE.out.2.2.2.2.1.own
    have HC : Hid _ := move_f (W := W) (F := F) (M := M) A B x.1 x.2 ps pa pc iv.2.1 (fun b hb => (HE.out.1.2.2.2 b hb).1) ((G.out.2.block A (Array.getElem?_eq_some_iff.1 HA.out.1.1).1 (by have := HA.out.1.2; omega)).trans HA.out.1.1) ((G.out.2.block B (Array.getElem?_eq_some_iff.1 HA.out.2.1.1).1 (by have := HA.out.2.1.2; omega)).trans HA.out.2.1.1) (fun j p hjp => by
        obtain ⟨pg, q1, q2, q3, q4⟩ := HA.out.2.2 j p hjp
        exact ⟨pg, q1, by have := G.out.2.size; omega, by omega, fun e => by have := (hown pg e).2; omega, G.out.2.cell q4 (by simp only; omega)⟩) hmv.1 hmv.2.1 hmv.2.2 (by have := HE.out.2.2.1; omega)
    clear HR G iv hct I1 HA hmv hFw hsw hown
    subst hR
    go_wp2_with fail
    refine (show Calls Tryz.prog 69 _ _ _ from HC.out).mono ?_
    clear HC
    rintro e w3 ⟨rfl, G⟩
    obtain ⟨v8, iv⟩ := I2.out.eso HE.out.1 G.out
    have F9 : Hid (∃ v', InV w w3 S d F M W s v v' (movE x.1 ps t1)) := by
      refine ⟨v8, ?_⟩
      have e8 : (⟨t1.a, (movE x.1 ps t1).st, (movE x.1 ps t1).tk⟩ : Ist) = movE x.1 ps t1 := by rw [← (movE_pot x.1 ps t1).1]
      rw [← e8]
      exact iv
    clear G iv
    go_wp2
    first | (refine bodyPost_ret (results_none rfl _ _ _) rfl ?_; exact ⟨rfl, F9.out⟩) | (refine ⟨_, results_none rfl _ _ _, rfl, F9.out⟩) | (refine ⟨rfl, _, results_none rfl _ _ _, rfl, F9.out⟩)
set_option maxRecDepth 100000 in
set_option maxHeartbeats 1000000 in
theorem it_push {W : ByteArray → Option (Nat × Nat)} {S : Nat → Prop} {d F M s : Nat} {v : Value} {t : Ist} {w : World} {x : Vt} {u : Value} (hu : TiAt w S d false x u) (hsm : ∃ e, SmT e x) (he : Env S F M s) (hev : EvAt w F M W t.a) (hes : EsV w S d s t.st t.tk v) (hp : potE t ≤ 900000) :
    Calls Tryz.prog 46 #[.pointer (some ⟨F, 0, none⟩), .iface 70 (.agg #[u]), .pointer (some ⟨s, 0, none⟩)] w (TrP S d F M W s v (bdE (cntE t) fun t => .ok (pushE (if x.k = 5 then some x.l else none) t)) w) := by
  have hsh := hu.shape
  have HE : Hid (Env S F M s ∧ potE t ≤ 900000 ∧ InV w w S d F M W s v v t ∧ TiAt w S d false x u ∧ ∃ e, SmT e x) := ⟨he, hp, InV.refl hev hes, hu, hsm⟩
  have hC := va_hit 70 37 _ Tryz.underlying70 (by intro m h; cases h) (.agg #[u])
  obtain ⟨E, hE⟩ : ∃ E, E = (if x.k = 5 then some x.l else none) := ⟨_, rfl⟩
  rw [← hE]
  have HEo : Hid (∀ w1, TiAt w1 S d false x u → Calls Tryz.prog 56 #[u] w1 (EoP S d E w1)) := fun w1 h1 => by rw [hE]; exact entryOf_any h1 hsm
  obtain ⟨R, hR0⟩ : ∃ R, R = bdE (cntE t) fun t => .ok (pushE E t) := ⟨_, rfl⟩
  rw [← hR0]
  have HR : Hid (R = bdE (cntE t) fun t => .ok (pushE E t)) := hR0
  have HCn : Hid (∀ w1, InV w w1 S d F M W s v v t → Calls Tryz.prog 54 #[.pointer (some ⟨F, 0, none⟩)] w1 (CnE F M t w1)) := fun w1 i1 => icount_any t i1.1.1 (by have : potE t = t.st.length + t.tk + 32 * t.a := rfl; omega)
  clear he hev hes hp hu hsm hR0 hE
  go_enter Tryz.func46, Tryz.ntmps46
  rcases hsh with rfl | ⟨T1, y1, rfl⟩
  · go_wp2_with fail
    have IA : InV w (w.alloc (.cells #[.nilIface] 70)) S d F M W s v v t := HE.out.2.2.1.only ((Only.refl _ _).alloc _)
    refine (show Calls Tryz.prog 54 _ _ _ from HCn.out _ IA).mono ?_
    have HIA : Hid (InV w (w.alloc (.cells #[.nilIface] 70)) S d F M W s v v t) := IA
    clear HCn hC IA
    intro e w2 G
    obtain ⟨Z, hZ⟩ : ∃ Z, Z = cntE t := ⟨_, rfl⟩
    unfold CnE at G
    rw [← hZ] at G
    have HZ : Hid (Z = cntE t) := hZ
    clear hZ
    rcases Z with k | t1
    · obtain ⟨rfl, hw2⟩ := G
      have hR : R = .error k := by rw [HR.out, ← HZ.out]; rfl
      have OO : Hid (Only (BsF F s v) w w2) := by rw [hw2]; exact InV.wide HIA.out (Only.refl _ _)
      clear HR hw2
      subst hR
      unfold gupE
      go_wp2
      exact ⟨rfl, rfl, OO.out⟩
    obtain ⟨rfl, G⟩ := G
    have iv := InV.cnt HIA.out HE.out.1 HZ.out.symm G.out.1 G.out.2
    have hR : R = .ok (pushE E t1) := by rw [HR.out, ← HZ.out]; rfl
    have hsw := EsAt.lt ⟨v, HE.out.2.2.1.2.1⟩
    have hFw := HE.out.1.1
    have I2 : Hid (InV w w2 S d F M W s v v t1) := iv
    have hct := cntE_ok HZ.out.symm
    have c0 := G.out.2.cell (a := ⟨w.heap.size, 0, none⟩) ((vblk_cells (ealloc_at w (.cells #[.nilIface] 70) w.heap.size rfl) 0).trans rfl) (by simp only; omega)
    have hti : TiAt w2 S d false x (.nilIface) := (HE.out.2.2.2.1.only ((Only.refl (fun _ => False) w).alloc (.cells #[.nilIface] 70)) (fun _ _ e => e)).only G.out.2 (fun b hb e => (HE.out.1.2.2.2 b hb).2 e)
    have HC : Hid _ := HEo.out w2 hti
    have HPt : Hid (t1.st.length ≤ 2000000) := by
      have h1 := HE.out.2.1
      have h2 : potE t1 = t1.st.length + t1.tk + 32 * t1.a := rfl
      show t1.st.length ≤ 2000000
      omega
    clear HR G iv hct hti HEo hsw hFw HIA
    subst hR
    go_wp2_with fail
    refine (show Calls Tryz.prog 56 _ _ _ from HC.out).mono ?_
    clear HC c0
    rintro e w3 ⟨b, ao, m, cap, rfl, G⟩
    have I3 : Hid (InV w w3 S d F M W s v v t1) := I2.out.only G.out.2
    have HC : Hid _ := push_v I3.out.2.1 (fun b hb => (HE.out.1.2.2.2 b hb).1) G.out.1 HPt.out
    clear G I2
    go_wp2_with fail
    refine (show Calls Tryz.prog 55 _ _ _ from HC.out).mono ?_
    clear HC
    rintro e w4 ⟨rfl, G⟩
    obtain ⟨⟨v8, g1, g2⟩, g3⟩ := G.out
    have iv := InV.esv (st := t1.st ++ [E]) (tk := t1.tk) I3.out HE.out.1 g1 g2 g3
    have F9 : Hid (∃ v', InV w w4 S d F M W s v v' (pushE E t1)) := ⟨v8, iv⟩
    clear G iv g1 g2 g3
    go_wp2
    first | (refine bodyPost_ret (results_none rfl _ _ _) rfl ?_; exact ⟨rfl, F9.out⟩) | (refine ⟨_, results_none rfl _ _ _, rfl, F9.out⟩) | (refine ⟨rfl, _, results_none rfl _ _ _, rfl, F9.out⟩)
  · go_wp2_with fail
    have IA : InV w (w.alloc (.cells #[.iface T1 y1] 70)) S d F M W s v v t := HE.out.2.2.1.only ((Only.refl _ _).alloc _)
    refine (show Calls Tryz.prog 54 _ _ _ from HCn.out _ IA).mono ?_
    have HIA : Hid (InV w (w.alloc (.cells #[.iface T1 y1] 70)) S d F M W s v v t) := IA
    clear HCn hC IA
    intro e w2 G
    obtain ⟨Z, hZ⟩ : ∃ Z, Z = cntE t := ⟨_, rfl⟩
    unfold CnE at G
    rw [← hZ] at G
    have HZ : Hid (Z = cntE t) := hZ
    clear hZ
    rcases Z with k | t1
    · obtain ⟨rfl, hw2⟩ := G
      have hR : R = .error k := by rw [HR.out, ← HZ.out]; rfl
      have OO : Hid (Only (BsF F s v) w w2) := by rw [hw2]; exact InV.wide HIA.out (Only.refl _ _)
      clear HR hw2
      subst hR
      unfold gupE
      go_wp2
      exact ⟨rfl, rfl, OO.out⟩
    obtain ⟨rfl, G⟩ := G
    have iv := InV.cnt HIA.out HE.out.1 HZ.out.symm G.out.1 G.out.2
    have hR : R = .ok (pushE E t1) := by rw [HR.out, ← HZ.out]; rfl
    have hsw := EsAt.lt ⟨v, HE.out.2.2.1.2.1⟩
    have hFw := HE.out.1.1
    have I2 : Hid (InV w w2 S d F M W s v v t1) := iv
    have hct := cntE_ok HZ.out.symm
    have c0 := G.out.2.cell (a := ⟨w.heap.size, 0, none⟩) ((vblk_cells (ealloc_at w (.cells #[.iface T1 y1] 70) w.heap.size rfl) 0).trans rfl) (by simp only; omega)
    have hti : TiAt w2 S d false x (.iface T1 y1) := (HE.out.2.2.2.1.only ((Only.refl (fun _ => False) w).alloc (.cells #[.iface T1 y1] 70)) (fun _ _ e => e)).only G.out.2 (fun b hb e => (HE.out.1.2.2.2 b hb).2 e)
    have HC : Hid _ := HEo.out w2 hti
    have HPt : Hid (t1.st.length ≤ 2000000) := by
      have h1 := HE.out.2.1
      have h2 : potE t1 = t1.st.length + t1.tk + 32 * t1.a := rfl
      show t1.st.length ≤ 2000000
      omega
    clear HR G iv hct hti HEo hsw hFw HIA
    subst hR
    go_wp2_with fail
    refine (show Calls Tryz.prog 56 _ _ _ from HC.out).mono ?_
    clear HC c0
    rintro e w3 ⟨b, ao, m, cap, rfl, G⟩
    have I3 : Hid (InV w w3 S d F M W s v v t1) := I2.out.only G.out.2
    have HC : Hid _ := push_v I3.out.2.1 (fun b hb => (HE.out.1.2.2.2 b hb).1) G.out.1 HPt.out
    clear G I2
    go_wp2_with fail
    refine (show Calls Tryz.prog 55 _ _ _ from HC.out).mono ?_
    clear HC
    rintro e w4 ⟨rfl, G⟩
    obtain ⟨⟨v8, g1, g2⟩, g3⟩ := G.out
    have iv := InV.esv (st := t1.st ++ [E]) (tk := t1.tk) I3.out HE.out.1 g1 g2 g3
    have F9 : Hid (∃ v', InV w w4 S d F M W s v v' (pushE E t1)) := ⟨v8, iv⟩
    clear G iv g1 g2 g3
    go_wp2
    first | (refine bodyPost_ret (results_none rfl _ _ _) rfl ?_; exact ⟨rfl, F9.out⟩) | (refine ⟨_, results_none rfl _ _ _, rfl, F9.out⟩) | (refine ⟨rfl, _, results_none rfl _ _ _, rfl, F9.out⟩)
set_option maxRecDepth 100000 in
theorem it_nil {W : ByteArray → Option (Nat × Nat)} {S : Nat → Prop} {d F M s : Nat} {v : Value} {t : Ist} {w : World} (hev : EvAt w F M W t.a) (hes : EsV w S d s t.st t.tk v) :
    Calls Tryz.prog 46 #[.pointer (some ⟨F, 0, none⟩), .nilIface, .pointer (some ⟨s, 0, none⟩)] w (TrP S d F M W s v (.ok t) w) := by
  have F9 : Hid (∃ v', InV w w S d F M W s v v' t) := ⟨v, InV.refl hev hes⟩
  have n1 := nilP
  have n2 := nilC
  clear hev hes
  go_enter Tryz.func46, Tryz.ntmps46
  go_wp2
  first | (refine bodyPost_ret (results_none rfl _ _ _) rfl ?_; exact ⟨rfl, F9.out⟩) | (refine ⟨_, results_none rfl _ _ _, rfl, F9.out⟩) | (refine ⟨rfl, _, results_none rfl _ _ _, rfl, F9.out⟩)
theorem item_of {W : ByteArray → Option (Nat × Nat)} {S : Nat → Prop} {d F M n : Nat} (hW : WdOk W) (TH : ThC W S d F M n) : ItC W S d F M (n + 1) := by
  intro x u s v t w he hev hes hx hsm hp ha
  cases d with
  | zero => exact hx.elim
  | succ d =>
  rcases hx with ⟨h7, _, rfl⟩ | ⟨h8, _, rfl⟩ | ⟨h7, h8, u', rfl, hu⟩
  · unfold itmE
    rw [if_pos h7]
    obtain ⟨e, hsm⟩ := hsm
    have hsz := hsm.str
    generalize x.s = sg at *
    by_cases h0 : sg.toList = [99, 97, 108, 108]
    · rw [to_lit h0, show kwd ⟨[99, 97, 108, 108].toArray⟩ = 1 from by kernel_rfl, if_neg (by omega)]
      exact it_0 hW TH he hev hes hp ha
    by_cases h1 : sg.toList = [100, 105, 112]
    · rw [to_lit h1, show kwd ⟨[100, 105, 112].toArray⟩ = 2 from by kernel_rfl, if_neg (by omega)]
      exact it_1 hW TH he hev hes hp ha
    by_cases h2 : sg.toList = [107, 101, 101, 112]
    · rw [to_lit h2, show kwd ⟨[107, 101, 101, 112].toArray⟩ = 3 from by kernel_rfl, if_neg (by omega)]
      exact it_2 hW TH he hev hes hp ha
    by_cases h3 : sg.toList = [105, 102]
    · rw [to_lit h3, show kwd ⟨[105, 102].toArray⟩ = 4 from by kernel_rfl, if_neg (by omega)]
      exact it_3 hW TH he hev hes hp ha
    by_cases h4 : sg.toList = [119, 104, 101, 110]
    · rw [to_lit h4, show kwd ⟨[119, 104, 101, 110].toArray⟩ = 5 from by kernel_rfl, if_neg (by omega)]
      exact it_4 hW TH he hev hes hp ha
    by_cases h5 : sg.toList = [116, 105, 109, 101, 115]
    · rw [to_lit h5, show kwd ⟨[116, 105, 109, 101, 115].toArray⟩ = 5 from by kernel_rfl, if_neg (by omega)]
      exact it_5 hW TH he hev hes hp ha
    by_cases h6 : sg.toList = [108, 111, 111, 112]
    · rw [to_lit h6, show kwd ⟨[108, 111, 111, 112].toArray⟩ = 6 from by kernel_rfl, if_neg (by omega)]
      exact it_6 hW TH he hev hes hp ha
    by_cases h9 : sg.toList = [101, 97, 99, 104]
    · rw [to_lit h9, show kwd ⟨[101, 97, 99, 104].toArray⟩ = 7 from by kernel_rfl, if_neg (by omega)]
      exact it_7 hW TH he hev hes hp ha
    have hn : ∀ y ∈ kwT, sg.toList ≠ y.1 := by
      intro y hy
      simp only [kwT, List.mem_cons, List.not_mem_nil, or_false] at hy
      rcases hy with rfl | rfl | rfl | rfl | rfl | rfl | rfl | rfl
      · exact h0
      · exact h1
      · exact h2
      · exact h3
      · exact h4
      · exact h5
      · exact h6
      · exact h9
    have hk0 : kwd sg = 0 := by
      unfold kwd
      simp only [kwT, kwF]
      rw [if_neg h0, if_neg h1, if_neg h2, if_neg h3, if_neg h4, if_neg h5, if_neg h6, if_neg h9]
    rw [if_pos hk0]
    exact it_no hW hsz hn he hev hes hp
  · unfold itmE
    rw [if_neg (by omega), if_pos h8]
    exact it_nil hev hes
  · unfold itmE
    rw [if_neg h7, if_neg h8]
    exact it_push (hu.step (fun _ g => g) (fun _ _ _ g => g) (by omega)) hsm he hev hes hp
end Go.Proofs.YtodbkihobgdpdaaGreatDoor
