import Derived.Test.YtenjollhlgjjdaaGreatDoorGaa
import Derived.Test.YtenjollhlgjjdaaGreatDoorGae
import Derived.Test.YtenjollhlgjjdaaGreatDoorGad
import Derived.Laws.StructEq
/-          -/
set_option linter.unusedSimpArgs false
set_option linter.unusedVariables false
set_option maxRecDepth 100000
set_option maxHeartbeats 40000000
namespace Go.Proofs.YtenjollhlgjjdaaGreatDoor
open Go.RowKit Go.Lib
theorem VmB.keep {w w' : World} {M : Nat} {k d : Int} (h : VmB w M k d) (o : Oz w w') : VmB w' M k d := (o.block M (Array.getElem?_eq_some_iff.1 h).1 (fun g => g)).trans h
def LqM (v : Value) : Prop := (∀ W : World, (Instr.typeAssert v 41 63 true).run Tryz.prog W = .ok (.tuple #[.agg #[.slice none 0 0], .bool false]) W) ∧ (∀ W : World, (Instr.typeAssert v 41 66 true).run Tryz.prog W = .ok (.tuple #[.agg #[.slice none 0 0], .bool false]) W)
theorem leaf_lq {S : Nat → Prop} {d : Nat} {t : Vt} {v : Value} {w : World} (h : TiAt w S (d + 1) false t v) (hk : ¬ (t.k = 4 ∨ t.k = 5)) : LqM v ∧ t.l = [] := by
 have m1 : ∀ T x, T ≠ 63 → T ≠ 66 → LqM (.iface T x) := fun T x h1 h2 => ⟨va_miss T 63 41 _ Tryz.underlying63 (by intro m h; cases h) h1 _ zL x, va_miss T 66 41 _ Tryz.underlying66 (by intro m h; cases h) h2 _ zQ x⟩
 rcases h with ⟨_, e, rfl⟩ | ⟨_, e, rfl⟩ | ⟨_, e, rfl⟩ | ⟨_, e, rfl⟩ | ⟨_, e, rfl⟩ | ⟨e, _⟩
 ·exact ⟨m1 _ _ (by decide) (by decide), e⟩
 ·exact ⟨m1 _ _ (by decide) (by decide), e⟩
 ·exact ⟨m1 _ _ (by decide) (by decide), e⟩
 ·exact ⟨m1 _ _ (by decide) (by decide), e⟩
 ·exact ⟨⟨bad_nil.l, bad_nil.q⟩, e⟩
 ·exact absurd e hk
theorem SmT.str {e : Nat} {t : Vt} (h : SmT e t) : t.s.size ≤ 268435456 := by
 cases e with
 | zero => exact h.elim
 | succ e => exact h.1
theorem SmT.len {e : Nat} {t : Vt} (h : SmT e t) : t.l.length ≤ 1048576 := by
 cases e with
 | zero => exact h.elim
 | succ e => exact h.2.1
theorem SmT.parts {e : Nat} {t : Vt} (h : SmT e t) : ∀ x ∈ t.l, ∃ e, SmT e x := by
 cases e with
 | zero => exact h.elim
 | succ e => exact fun x hx => ⟨e, h.2.2.2.2 x hx⟩
theorem mleaf (d : Nat) (t : Vt) (v : Value) (w : World) (S : Nat → Prop) (M k o : Nat) (dd : Int) (h : TiAt w S (d + 1) false t v) (hk4 : ¬ (t.k = 4 ∨ t.k = 5)) (hs : t.s.size ≤ 268435456) (hv : VmB w M k dd) (hk : k ≤ 1024) (hd1 : (o : Int) ≤ dd) (hd2 : dd ≤ 1000) (ho : o ≤ 32) (hT : Tb w) (hg : Mg M) :
  Cz 104 #[.pointer (some ⟨M, 0, none⟩), v, .int .i64 (o : Int)] w fun e w' => e = .returned (.bool (msB (d + 1) false t k o)) ∧ Hid (Only (fun b => b = M) w w' ∧ (msB (d + 1) false t k o = true → ∃ dd' : Int, VmB w' M ((k + sz (d + 1) false t : Nat) : Int) dd' ∧ dd' = max dd ((o + dp (d + 1) false t : Nat) : Int) ∧ dd' ≤ 1000)) := by
 obtain ⟨⟨hl, hq⟩, hnil⟩ := leaf_lq h hk4
 have hsz : sz (d + 1) false t = 1 := by unfold sz; rw [hnil]; rfl
 have hdp : dp (d + 1) false t = 0 := by unfold dp; rw [if_neg hk4]
 have hok : okV (d + 1) false t = alB t := by unfold okV; rw [if_neg hk4]
 have hms : msB (d + 1) false t k o = (alB t && decide (k + 1 ≤ 1024)) := by
  unfold msB
  rw [hok, hsz, hdp, decide_eq_true (show o + 0 ≤ 32 by omega), Bool.and_true]
 have HM : Hid _ := vcount_all M k dd w hv (by omega) (by omega)
 have HA : Hid (∀ w1, Only (fun b => b = M) w w1 → Cz 135 #[v] w1 fun e w' => e = .returned (.bool (alB t)) ∧ Oz w1 w') := fun w1 o1 => alone_any h hk4 hs w1 (hT.keep o1 hg.1 hg.2.1 hg.2.2)
 have HD : Hid (dd = max dd ((o + 0 : Nat) : Int) ∧ dd ≤ 1000) := ⟨by omega, hd2⟩
 rw [hms, hsz, hdp]
 obtain ⟨a, ha⟩ : ∃ a, a = alB t := ⟨_, rfl⟩
 rw [← ha] at HA ⊢
 clear h hk4 hs hv hd1 hd2 ho hT hg hsz hdp hok hms hnil ha
 by_cases h1 : k + 1 ≤ 1024
 ·have e1 : decide ((k : Int) + 1 ≤ 1024) = true := decide_eq_true (by omega)
  rw [e1] at HM
  rw [decide_eq_true h1]
  clear e1
  go_enter Tryz.func104, Tryz.ntmps104
  go_wp2_with fail
  refine (show Cz 130 _ _ _ from HM.out).mono ?_
  rintro e w1 ⟨rfl, o1, m1⟩
  have O1 : Hid (Only (fun b => b = M) w w1 ∧ VmB w1 M ((k : Int) + 1) dd) := ⟨o1, m1⟩
  clear HM o1 m1
  go_wp2_with fail
  refine (show Cz 135 _ _ _ from HA.out _ (by repeat' first | exact O1.out.1 | apply Only.alloc)).mono ?_
  rintro e w2 ⟨rfl, o2⟩
  have o3 : Oz w1 w2 := Only.trans (show Oz w1 _ by repeat' first | exact (Only.refl _ _) | apply Only.alloc) o2 (fun _ _ g => g)
  have HF : Hid (Only (fun b => b = M) w w2 ∧ VmB w2 M ((k + 1 : Nat) : Int) dd) := ⟨O1.out.1.trans (o3.mono (bs' := fun b => b = M) (fun _ _ g => g.elim)) (fun _ _ g => g), by have := O1.out.2.keep o3; simpa using this⟩
  clear HA o2 o3 O1
  go_wp2
  go_ret
  exact ⟨by simp, HF.out.1, fun _ => ⟨dd, HF.out.2, HD.out.1, HD.out.2⟩⟩
 ·have e1 : decide ((k : Int) + 1 ≤ 1024) = false := decide_eq_false (by omega)
  rw [e1] at HM
  rw [decide_eq_false h1]
  clear e1 HA
  go_enter Tryz.func104, Tryz.ntmps104
  go_wp2_with fail
  refine (show Cz 130 _ _ _ from HM.out).mono ?_
  rintro e w1 ⟨rfl, o1, m1⟩
  have O1 : Hid (Only (fun b => b = M) w w1) := o1
  clear HM o1 m1
  go_wp2
  go_ret
  exact ⟨by simp, O1.out, fun h => by simp at h⟩
theorem ms_list (d : Nat) (t : Vt) (k o : Nat) (hk : t.k = 4 ∨ t.k = 5) : msB (d + 1) false t k o = (decide (k + 1 ≤ 1024) && decide (o + 1 ≤ 32) && evB d (decide (t.k = 5)) t.l (k + 1) (o + 1)) := by
 have h1 : okV (d + 1) false t = t.l.all (okV d (decide (t.k = 5))) := by unfold okV; rw [if_pos hk]
 have h2 : sz (d + 1) false t = 1 + (t.l.map (sz d (decide (t.k = 5)))).sum := by unfold sz; rfl
 have h3 : dp (d + 1) false t = 1 + ((t.l.map (dp d (decide (t.k = 5)))).foldl max 0) := by unfold dp; rw [if_pos hk]
 unfold msB
 rw [h1, h2, h3]
 by_cases a1 : k + 1 ≤ 1024
 ·by_cases a2 : o + 1 ≤ 32
  ·rw [evB_eq _ _ _ _ _ a1 a2, decide_eq_true a1, decide_eq_true a2]
   rw [show k + (1 + (t.l.map (sz d (decide (t.k = 5)))).sum) = k + 1 + (t.l.map (sz d (decide (t.k = 5)))).sum by omega, show o + (1 + (t.l.map (dp d (decide (t.k = 5)))).foldl max 0) = o + 1 + (t.l.map (dp d (decide (t.k = 5)))).foldl max 0 by omega]
   simp
  ·rw [decide_eq_false a2, decide_eq_false (show ¬ o + (1 + (t.l.map (dp d (decide (t.k = 5)))).foldl max 0) ≤ 32 by omega)]
   simp
 ·rw [decide_eq_false a1, decide_eq_false (show ¬ k + (1 + (t.l.map (sz d (decide (t.k = 5)))).sum) ≤ 1024 by omega)]
  simp
theorem mlist (d : Nat) (H : EvC d false 132 104) (t : Vt) (v : Value) (w : World) (S : Nat → Prop) (M k o : Nat) (dd : Int) (h : TiAt w S (d + 1) false t v) (hk4 : t.k = 4) (hM : ∀ b, S b → b ≠ M) (hsm : ∃ e, SmT e t) (hv : VmB w M k dd) (hk : k ≤ 1024) (hd1 : (o : Int) ≤ dd) (hd2 : dd ≤ 1000) (ho : o ≤ 32) (hT : Tb w) (hg : Mg M) :
  Cz 104 #[.pointer (some ⟨M, 0, none⟩), v, .int .i64 (o : Int)] w fun e w' => e = .returned (.bool (msB (d + 1) false t k o)) ∧ Hid (Only (fun b => b = M) w w' ∧ (msB (d + 1) false t k o = true → ∃ dd' : Int, VmB w' M ((k + sz (d + 1) false t : Nat) : Int) dd' ∧ dd' = max dd ((o + dp (d + 1) false t : Nat) : Int) ∧ dd' ≤ 1000)) := by
 have hk45 : t.k = 4 ∨ t.k = 5 := by omega
 obtain ⟨ao, cap, rfl, hcap, hel⟩ : ∃ ao cap, v = .iface 63 (.agg #[.slice ao t.l.length cap]) ∧ t.l.length ≤ cap ∧ ∀ i x, t.l[i]? = some x → ∃ g k u, ao = some ⟨g, k, none⟩ ∧ S g ∧ w.cell? ⟨g, k + i, none⟩ = some u ∧ TiAt w S d false x u := by
  rcases h with ⟨e, _⟩ | ⟨e, _⟩ | ⟨e, _⟩ | ⟨e, _⟩ | ⟨e, _⟩ | ⟨_, ao, cap, h1, h2, h3⟩
  ·omega
  ·omega
  ·omega
  ·omega
  ·omega
  ·rw [hk4] at h1 h3
   exact ⟨ao, cap, h1, h2, h3⟩
 have hms := ms_list d t k o hk45
 rw [show decide (t.k = 5) = false by rw [hk4]; rfl] at hms
 have hdp : dp (d + 1) false t = 1 + (t.l.map (dp d false)).foldl max 0 := by unfold dp; rw [if_pos hk45, show decide (t.k = 5) = false by rw [hk4]; rfl]
 have hsz : sz (d + 1) false t = 1 + (t.l.map (sz d false)).sum := by unfold sz; rw [show decide (t.k = 5) = false by rw [hk4]; rfl]
 have HM : Hid _ := vcount_all M k dd w hv (by omega) (by omega)
 have HN : Hid (∀ w1 (k1 : Int), VmB w1 M k1 dd → Cz 131 #[.pointer (some ⟨M, 0, none⟩), .int .i64 ((o : Int) + 1)] w1 fun e w' => e = .returned (.bool (decide ((o : Int) + 1 ≤ 32))) ∧ Only (fun b => b = M) w1 w' ∧ ∃ d', VmB w' M k1 d' ∧ d' = max dd ((o : Int) + 1) ∧ d' ≤ 1000) := fun w1 k1 hv1 => venter_all M k1 dd ((o : Int) + 1) w1 hv1 (by omega) hd2 (by omega) (by omega)
 have HC : Hid (∀ w1 (dd1 : Int), Only (fun b => b = M) w w1 → VmB w1 M ((k + 1 : Nat) : Int) dd1 → k + 1 ≤ 1024 → o + 1 ≤ 32 → ((o + 1 : Nat) : Int) ≤ dd1 → dd1 ≤ 1000 → Cz 132 #[.slice ao t.l.length cap, .func (.func 104) #[.pointer (some ⟨M, 0, none⟩)] #[], .int .i64 ((o + 1 : Nat) : Int)] w1 fun e w' => e = .returned (.bool (evB d false t.l (k + 1) (o + 1))) ∧ Hid (Only (fun b => b = M) w1 w' ∧ (evB d false t.l (k + 1) (o + 1) = true → ∃ dd' : Int, VmB w' M ((k + 1 + (t.l.map (sz d false)).sum : Nat) : Int) dd' ∧ dd' = max dd1 ((o + 1 + (t.l.map (dp d false)).foldl max 0 : Nat) : Int) ∧ dd' ≤ 1000))) := by
  intro w1 dd1 o1 hv1 hk1 ho1 h1 h2
  refine H t.l ao cap w1 S M (k + 1) (o + 1) dd1 (fun j x hx => ?_) hM (by obtain ⟨e, he⟩ := hsm; exact he.parts) (by obtain ⟨e, he⟩ := hsm; exact he.len) hv1 hk1 h1 h2 ho1 (hT.keep o1 hg.1 hg.2.1 hg.2.2) hg
  obtain ⟨g, q, u, p1, p2, p3, p4⟩ := hel j x hx
  exact ⟨g, q, u, p1, p2, o1.cell p3 (hM g p2), p4.only o1 (fun b hb => hM b hb)⟩
 have HL : Hid (M < w.heap.size) := (Array.getElem?_eq_some_iff.1 hv).1
 have hHit := va_hit 63 41 _ Tryz.underlying63 (by intro m h; cases h)
 rw [hms, hsz, hdp]
 obtain ⟨L, hL⟩ : ∃ L, L = t.l.length := ⟨_, rfl⟩
 obtain ⟨Y, hY⟩ : ∃ Y, Y = (t.l.map (sz d false)).sum := ⟨_, rfl⟩
 obtain ⟨F, hF⟩ : ∃ F, F = (t.l.map (dp d false)).foldl max 0 := ⟨_, rfl⟩
 obtain ⟨Z, hZ⟩ : ∃ Z, Z = evB d false t.l (k + 1) (o + 1) := ⟨_, rfl⟩
 rw [← hL, ← hY, ← hZ, ← hF] at HC
 rw [← hL, ← hY, ← hZ, ← hF]
 clear hL hY hZ hF hdp h hk4 hM hsm hv hd1 hd2 hT hg hel hcap hms hsz H hk45
 by_cases h1 : k + 1 ≤ 1024
 ·have e1 : decide ((k : Int) + 1 ≤ 1024) = true := decide_eq_true (by omega)
  rw [e1] at HM
  rw [decide_eq_true h1]
  clear e1
  by_cases h2 : o + 1 ≤ 32
  ·have e2 : decide ((o : Int) + 1 ≤ 32) = true := decide_eq_true (by omega)
   rw [e2] at HN
   rw [decide_eq_true h2]
   have HB : Hid (k + 1 ≤ 1024 ∧ o + 1 ≤ 32) := ⟨h1, h2⟩
   clear e2 h1
   go_enter Tryz.func104, Tryz.ntmps104
   go_wp2_with fail
   refine (show Cz 130 _ _ _ from HM.out).mono ?_
   rintro e w1 ⟨rfl, o1, m1⟩
   have O1 : Hid (Only (fun b => b = M) w w1 ∧ VmB w1 M ((k : Int) + 1) dd) := ⟨o1, m1⟩
   clear HM o1 m1
   go_wp2_with fail
   refine (show Cz 131 _ _ _ from HN.out _ _ (O1.out.2.keep (by repeat' first | exact (Only.refl _ _) | apply Only.alloc))).mono ?_
   rintro e w2 ⟨rfl, o2, d2, m2, p2, q2⟩
   have O2 : Hid (Only (fun b => b = M) w w2 ∧ VmB w2 M ((k + 1 : Nat) : Int) d2 ∧ d2 = max dd ((o : Int) + 1) ∧ d2 ≤ 1000) := ⟨O1.out.1.trans (Only.trans (show Only (fun b => b = M) w1 _ by repeat' first | exact (Only.refl _ _) | apply Only.alloc) o2 (fun _ _ g => g)) (fun _ _ g => g), by simpa using m2, p2, q2⟩
   have hs1 := O1.out.1.size
   have x0 : w2.cell? ⟨w1.heap.size, 0, none⟩ = some (.slice ao L cap) := o2.cell (a := ⟨w1.heap.size, 0, none⟩) (by simp [go_sem]) (by have := HL.out; simp only; omega)
   have HC2 : Hid _ := HC.out w2 d2 O2.out.1 O2.out.2.1 HB.out.1 HB.out.2 (by rw [p2]; omega) q2
   clear HN HC o2 m2 p2 q2 O1 hs1
   go_wp2_with fail
   refine (show Cz 132 _ _ _ from HC2.out).mono ?_
   rintro e w3 ⟨rfl, G3⟩
   have HF : Hid (Only (fun b => b = M) w w3 ∧ (Z = true → ∃ dd' : Int, VmB w3 M ((k + (1 + Y) : Nat) : Int) dd' ∧ dd' = max dd ((o + (1 + F) : Nat) : Int) ∧ dd' ≤ 1000)) := ⟨O2.out.1.trans G3.out.1 (fun _ _ g => g), fun hz => by
    obtain ⟨q, q1, q2, q3⟩ := G3.out.2 hz
    refine ⟨q, by rwa [show k + (1 + Y) = k + 1 + Y by omega], ?_, q3⟩
    rw [q2, O2.out.2.2.1]
    omega⟩
   clear HC2 G3 O2 x0
   go_wp2
   go_ret
   exact ⟨by simp, HF.out.1, fun h => HF.out.2 (by simpa using h)⟩
  ·have e2 : decide ((o : Int) + 1 ≤ 32) = false := decide_eq_false (by omega)
   rw [e2] at HN
   rw [decide_eq_false h2]
   clear e2 h1 HC
   go_enter Tryz.func104, Tryz.ntmps104
   go_wp2_with fail
   refine (show Cz 130 _ _ _ from HM.out).mono ?_
   rintro e w1 ⟨rfl, o1, m1⟩
   have O1 : Hid (Only (fun b => b = M) w w1 ∧ VmB w1 M ((k : Int) + 1) dd) := ⟨o1, m1⟩
   clear HM o1 m1
   go_wp2_with fail
   refine (show Cz 131 _ _ _ from HN.out _ _ (O1.out.2.keep (by repeat' first | exact (Only.refl _ _) | apply Only.alloc))).mono ?_
   rintro e w2 ⟨rfl, o2, d2, m2, p2, q2⟩
   have O2 : Hid (Only (fun b => b = M) w w2) := O1.out.1.trans (Only.trans (show Only (fun b => b = M) w1 _ by repeat' first | exact (Only.refl _ _) | apply Only.alloc) o2 (fun _ _ g => g)) (fun _ _ g => g)
   clear HN o2 m2 p2 q2 O1
   go_wp2
   go_ret
   exact ⟨by simp, O2.out, fun h => by simp at h⟩
 ·have e1 : decide ((k : Int) + 1 ≤ 1024) = false := decide_eq_false (by omega)
  rw [e1] at HM
  rw [decide_eq_false h1]
  clear e1 HC HN
  go_enter Tryz.func104, Tryz.ntmps104
  go_wp2_with fail
  refine (show Cz 130 _ _ _ from HM.out).mono ?_
  rintro e w1 ⟨rfl, o1, m1⟩
  have O1 : Hid (Only (fun b => b = M) w w1) := o1
  clear HM o1 m1
  go_wp2
  go_ret
  exact ⟨by simp, O1.out, fun h => by simp at h⟩
theorem mquot (d : Nat) (H : EvC d true 133 134) (t : Vt) (v : Value) (w : World) (S : Nat → Prop) (M k o : Nat) (dd : Int) (h : TiAt w S (d + 1) false t v) (hk4 : t.k = 5) (hM : ∀ b, S b → b ≠ M) (hsm : ∃ e, SmT e t) (hv : VmB w M k dd) (hk : k ≤ 1024) (hd1 : (o : Int) ≤ dd) (hd2 : dd ≤ 1000) (ho : o ≤ 32) (hT : Tb w) (hg : Mg M) :
  Cz 104 #[.pointer (some ⟨M, 0, none⟩), v, .int .i64 (o : Int)] w fun e w' => e = .returned (.bool (msB (d + 1) false t k o)) ∧ Hid (Only (fun b => b = M) w w' ∧ (msB (d + 1) false t k o = true → ∃ dd' : Int, VmB w' M ((k + sz (d + 1) false t : Nat) : Int) dd' ∧ dd' = max dd ((o + dp (d + 1) false t : Nat) : Int) ∧ dd' ≤ 1000)) := by
 have hk45 : t.k = 4 ∨ t.k = 5 := by omega
 obtain ⟨ao, cap, rfl, hcap, hel⟩ : ∃ ao cap, v = .iface 66 (.agg #[.slice ao t.l.length cap]) ∧ t.l.length ≤ cap ∧ ∀ i x, t.l[i]? = some x → ∃ g k u, ao = some ⟨g, k, none⟩ ∧ S g ∧ w.cell? ⟨g, k + i, none⟩ = some u ∧ TiAt w S d true x u := by
  rcases h with ⟨e, _⟩ | ⟨e, _⟩ | ⟨e, _⟩ | ⟨e, _⟩ | ⟨e, _⟩ | ⟨_, ao, cap, h1, h2, h3⟩
  ·omega
  ·omega
  ·omega
  ·omega
  ·omega
  ·rw [hk4] at h1 h3
   exact ⟨ao, cap, h1, h2, h3⟩
 have hms := ms_list d t k o hk45
 rw [show decide (t.k = 5) = true by rw [hk4]; rfl] at hms
 have hdp : dp (d + 1) false t = 1 + (t.l.map (dp d true)).foldl max 0 := by unfold dp; rw [if_pos hk45, show decide (t.k = 5) = true by rw [hk4]; rfl]
 have hsz : sz (d + 1) false t = 1 + (t.l.map (sz d true)).sum := by unfold sz; rw [show decide (t.k = 5) = true by rw [hk4]; rfl]
 have HM : Hid _ := vcount_all M k dd w hv (by omega) (by omega)
 have HN : Hid (∀ w1 (k1 : Int), VmB w1 M k1 dd → Cz 131 #[.pointer (some ⟨M, 0, none⟩), .int .i64 ((o : Int) + 1)] w1 fun e w' => e = .returned (.bool (decide ((o : Int) + 1 ≤ 32))) ∧ Only (fun b => b = M) w1 w' ∧ ∃ d', VmB w' M k1 d' ∧ d' = max dd ((o : Int) + 1) ∧ d' ≤ 1000) := fun w1 k1 hv1 => venter_all M k1 dd ((o : Int) + 1) w1 hv1 (by omega) hd2 (by omega) (by omega)
 have HC : Hid (∀ w1 (dd1 : Int), Only (fun b => b = M) w w1 → VmB w1 M ((k + 1 : Nat) : Int) dd1 → k + 1 ≤ 1024 → o + 1 ≤ 32 → ((o + 1 : Nat) : Int) ≤ dd1 → dd1 ≤ 1000 → Cz 133 #[.slice ao t.l.length cap, .func (.func 134) #[.pointer (some ⟨M, 0, none⟩)] #[], .int .i64 ((o + 1 : Nat) : Int)] w1 fun e w' => e = .returned (.bool (evB d true t.l (k + 1) (o + 1))) ∧ Hid (Only (fun b => b = M) w1 w' ∧ (evB d true t.l (k + 1) (o + 1) = true → ∃ dd' : Int, VmB w' M ((k + 1 + (t.l.map (sz d true)).sum : Nat) : Int) dd' ∧ dd' = max dd1 ((o + 1 + (t.l.map (dp d true)).foldl max 0 : Nat) : Int) ∧ dd' ≤ 1000))) := by
  intro w1 dd1 o1 hv1 hk1 ho1 h1 h2
  refine H t.l ao cap w1 S M (k + 1) (o + 1) dd1 (fun j x hx => ?_) hM (by obtain ⟨e, he⟩ := hsm; exact he.parts) (by obtain ⟨e, he⟩ := hsm; exact he.len) hv1 hk1 h1 h2 ho1 (hT.keep o1 hg.1 hg.2.1 hg.2.2) hg
  obtain ⟨g, q, u, p1, p2, p3, p4⟩ := hel j x hx
  exact ⟨g, q, u, p1, p2, o1.cell p3 (hM g p2), p4.only o1 (fun b hb => hM b hb)⟩
 have HL : Hid (M < w.heap.size) := (Array.getElem?_eq_some_iff.1 hv).1
 have hMiss := va_miss 66 63 41 _ Tryz.underlying63 (by intro m h; cases h) (by decide) _ zL
 have hHit := va_hit 66 41 _ Tryz.underlying66 (by intro m h; cases h)
 rw [hms, hsz, hdp]
 obtain ⟨L, hL⟩ : ∃ L, L = t.l.length := ⟨_, rfl⟩
 obtain ⟨Y, hY⟩ : ∃ Y, Y = (t.l.map (sz d true)).sum := ⟨_, rfl⟩
 obtain ⟨F, hF⟩ : ∃ F, F = (t.l.map (dp d true)).foldl max 0 := ⟨_, rfl⟩
 obtain ⟨Z, hZ⟩ : ∃ Z, Z = evB d true t.l (k + 1) (o + 1) := ⟨_, rfl⟩
 rw [← hL, ← hY, ← hZ, ← hF] at HC
 rw [← hL, ← hY, ← hZ, ← hF]
 clear hL hY hZ hF hdp h hk4 hM hsm hv hd1 hd2 hT hg hel hcap hms hsz H hk45
 by_cases h1 : k + 1 ≤ 1024
 ·have e1 : decide ((k : Int) + 1 ≤ 1024) = true := decide_eq_true (by omega)
  rw [e1] at HM
  rw [decide_eq_true h1]
  clear e1
  by_cases h2 : o + 1 ≤ 32
  ·have e2 : decide ((o : Int) + 1 ≤ 32) = true := decide_eq_true (by omega)
   rw [e2] at HN
   rw [decide_eq_true h2]
   have HB : Hid (k + 1 ≤ 1024 ∧ o + 1 ≤ 32) := ⟨h1, h2⟩
   clear e2 h1
   go_enter Tryz.func104, Tryz.ntmps104
   go_wp2_with fail
   refine (show Cz 130 _ _ _ from HM.out).mono ?_
   rintro e w1 ⟨rfl, o1, m1⟩
   have O1 : Hid (Only (fun b => b = M) w w1 ∧ VmB w1 M ((k : Int) + 1) dd) := ⟨o1, m1⟩
   clear HM o1 m1
   go_wp2_with fail
   refine (show Cz 131 _ _ _ from HN.out _ _ (O1.out.2.keep (by repeat' first | exact (Only.refl _ _) | apply Only.alloc))).mono ?_
   rintro e w2 ⟨rfl, o2, d2, m2, p2, q2⟩
   have O2 : Hid (Only (fun b => b = M) w w2 ∧ VmB w2 M ((k + 1 : Nat) : Int) d2 ∧ d2 = max dd ((o : Int) + 1) ∧ d2 ≤ 1000) := ⟨O1.out.1.trans (Only.trans (show Only (fun b => b = M) w1 _ by repeat' first | exact (Only.refl _ _) | apply Only.alloc) o2 (fun _ _ g => g)) (fun _ _ g => g), by simpa using m2, p2, q2⟩
   have hs1 := O1.out.1.size
   have x0 : w2.cell? ⟨w1.heap.size + 1, 0, none⟩ = some (.slice ao L cap) := o2.cell (a := ⟨w1.heap.size + 1, 0, none⟩) (by simp [go_sem]) (by have := HL.out; simp only; omega)
   have HC2 : Hid _ := HC.out w2 d2 O2.out.1 O2.out.2.1 HB.out.1 HB.out.2 (by rw [p2]; omega) q2
   clear HN HC o2 m2 p2 q2 O1 hs1
   go_wp2_with fail
   refine (show Cz 133 _ _ _ from HC2.out).mono ?_
   rintro e w3 ⟨rfl, G3⟩
   have HF : Hid (Only (fun b => b = M) w w3 ∧ (Z = true → ∃ dd' : Int, VmB w3 M ((k + (1 + Y) : Nat) : Int) dd' ∧ dd' = max dd ((o + (1 + F) : Nat) : Int) ∧ dd' ≤ 1000)) := ⟨O2.out.1.trans G3.out.1 (fun _ _ g => g), fun hz => by
    obtain ⟨q, q1, q2, q3⟩ := G3.out.2 hz
    refine ⟨q, by rwa [show k + (1 + Y) = k + 1 + Y by omega], ?_, q3⟩
    rw [q2, O2.out.2.2.1]
    omega⟩
   clear HC2 G3 O2 x0
   go_wp2
   go_ret
   exact ⟨by simp, HF.out.1, fun h => HF.out.2 (by simpa using h)⟩
  ·have e2 : decide ((o : Int) + 1 ≤ 32) = false := decide_eq_false (by omega)
   rw [e2] at HN
   rw [decide_eq_false h2]
   clear e2 h1 HC
   go_enter Tryz.func104, Tryz.ntmps104
   go_wp2_with fail
   refine (show Cz 130 _ _ _ from HM.out).mono ?_
   rintro e w1 ⟨rfl, o1, m1⟩
   have O1 : Hid (Only (fun b => b = M) w w1 ∧ VmB w1 M ((k : Int) + 1) dd) := ⟨o1, m1⟩
   clear HM o1 m1
   go_wp2_with fail
   refine (show Cz 131 _ _ _ from HN.out _ _ (O1.out.2.keep (by repeat' first | exact (Only.refl _ _) | apply Only.alloc))).mono ?_
   rintro e w2 ⟨rfl, o2, d2, m2, p2, q2⟩
   have O2 : Hid (Only (fun b => b = M) w w2) := O1.out.1.trans (Only.trans (show Only (fun b => b = M) w1 _ by repeat' first | exact (Only.refl _ _) | apply Only.alloc) o2 (fun _ _ g => g)) (fun _ _ g => g)
   clear HN o2 m2 p2 q2 O1
   go_wp2
   go_ret
   exact ⟨by simp, O2.out, fun h => by simp at h⟩
 ·have e1 : decide ((k : Int) + 1 ≤ 1024) = false := decide_eq_false (by omega)
  rw [e1] at HM
  rw [decide_eq_false h1]
  clear e1 HC HN
  go_enter Tryz.func104, Tryz.ntmps104
  go_wp2_with fail
  refine (show Cz 130 _ _ _ from HM.out).mono ?_
  rintro e w1 ⟨rfl, o1, m1⟩
  have O1 : Hid (Only (fun b => b = M) w w1) := o1
  clear HM o1 m1
  go_wp2
  go_ret
  exact ⟨by simp, O1.out, fun h => by simp at h⟩
abbrev i1v : Value := .iface 35 (.agg #[.int .i64 1])
def BadI (v : Value) : Prop :=
 (∃ u, v = .iface 109 (.agg #[u]) ∧ BadV u) ∨ ((∀ W : World, (Instr.typeAssert v 97 109 true).run Tryz.prog W = .ok (.tuple #[.agg #[.nilIface], .bool false]) W) ∧ (∀ W : World, (Instr.typeAssert v 97 127 true).run Tryz.prog W = .ok (.tuple #[.agg #[.string ByteArray.empty], .bool false]) W))
def BadW (w : World) (x : Value) : Prop :=
 BadV x ∨ (∃ g v, x = .iface 63 (.agg #[.slice (some ⟨g, 0, none⟩) 2 2]) ∧ BadV v ∧ w.cell? ⟨g, 0, none⟩ = some i1v ∧ w.cell? ⟨g, 1, none⟩ = some v) ∨ (∃ g v, x = .iface 66 (.agg #[.slice (some ⟨g, 0, none⟩) 1 1]) ∧ BadI v ∧ w.cell? ⟨g, 0, none⟩ = some v)
theorem BadW.one {w : World} (v : Value) (h : BadV v) : BadW w v := .inl h
theorem BadW.list {w : World} (g : Nat) (v : Value) (h : BadV v) (hg0 : w.cell? ⟨g, 0, none⟩ = some i1v) (hg1 : w.cell? ⟨g, 1, none⟩ = some v) : BadW w (.iface 63 (.agg #[.slice (some ⟨g, 0, none⟩) 2 2])) := .inr (.inl ⟨g, v, rfl, h, hg0, hg1⟩)
theorem results_two {fn : Func} {t u : Tmp} (h : fn.results = #[.cell u 129, .tmp t]) (tmps : Array Value) (w : World) (B : Nat) {x y : Value} (h0 : w.cell? ⟨B, 0, none⟩ = some x) (h1 : w.cell? ⟨B, 1, none⟩ = some y) (ha : tmps.getD u undef = .pointer (some ⟨B, 0, none⟩)) :
  (results fn tmps).run Tryz.prog w = .ok (.tuple #[.agg #[x, y], tmps.getD t undef]) w := by
 have ha' : tmps[u]?.getD undef = .pointer (some ⟨B, 0, none⟩) := by simpa using ha
 simp [results, h, ha', asAddr, go_sem, loadVar, isAgg, Tryz.underlying129, h0, h1]
theorem set2 {w : World} {B : Nat} {x0 y0 : Value} (h0 : w.cell? ⟨B, 0, none⟩ = some x0) (h1 : w.cell? ⟨B, 1, none⟩ = some y0) (x y : Value) :
  ((w.setCell ⟨B, 0, none⟩ x).setCell ⟨B, 1, none⟩ y).cell? ⟨B, 0, none⟩ = some x ∧ ((w.setCell ⟨B, 0, none⟩ x).setCell ⟨B, 1, none⟩ y).cell? ⟨B, 1, none⟩ = some y := by
 have ne : ∀ (W : World) (i j : Nat) (v : Value), i ≠ j → (W.setCell ⟨B, i, none⟩ v).cell? ⟨B, j, none⟩ = W.cell? ⟨B, j, none⟩ := fun W i j v g => by apply World.cell?_setCell_other; intro e; exact g (by injection e)
 refine ⟨?_, ?_⟩
 ·rw [ne _ 1 0 _ (by omega)]
  exact World.cell?_setCell_same' _ _ _ (by rw [h0]; rfl)
 ·exact World.cell?_setCell_same' _ _ _ (by rw [ne _ 0 1 _ (by omega), h1]; rfl)
theorem nilP (W : World) : (Instr.typeAssert .nilIface 97 109 true).run Tryz.prog W = .ok (.tuple #[.agg #[.nilIface], .bool false]) W := by kernel_rfl
theorem nilC (W : World) : (Instr.typeAssert .nilIface 97 127 true).run Tryz.prog W = .ok (.tuple #[.agg #[.string ⟨#[]⟩], .bool false]) W := by kernel_rfl
theorem mitem (d : Nat) (H : MsC d false 104) : MsC (d + 1) true 134 := by
 intro t v w S M k o dd h hM hsm hv hk hd1 hd2 ho hT hg
 rcases h with ⟨h7, hl, rfl⟩ | ⟨h8, hl, rfl⟩ | ⟨h7, h8, u, rfl, hu⟩
 ·have hms : msB (d + 1) true t k o = (decide (k + 1 ≤ 1024) && clB t.s) := by
   unfold msB okV sz dp
   rw [if_pos h7, if_pos (.inl h7), if_pos (.inl h7), decide_eq_true (show o + 0 ≤ 32 by omega), Bool.and_true, Bool.and_comm]
  have hsz : sz (d + 1) true t = 1 := by unfold sz; rw [if_pos (.inl h7)]
  have hdp : dp (d + 1) true t = 0 := by unfold dp; rw [if_pos (.inl h7)]
  have mP := va_miss 127 109 97 _ Tryz.underlying109 (by intro m h; cases h) (by decide) _ vzero_Push
  have hC := va_hit 127 97 _ Tryz.underlying127 (by intro m h; cases h)
  have HM : Hid (∀ w1, Oz w w1 → Cz 130 #[.pointer (some ⟨M, 0, none⟩)] w1 fun e w' => e = .returned (.bool (decide ((k : Int) + 1 ≤ 1024))) ∧ Only (fun b => b = M) w1 w' ∧ VmB w' M ((k : Int) + 1) dd) := fun w1 o1 => vcount_all M k dd w1 (hv.keep o1) (by omega) (by omega)
  have HA : Hid (∀ w1, Only (fun b => b = M) w w1 → Cz 145 #[.agg #[.string t.s]] w1 fun e w' => e = .returned (.bool (clB t.s)) ∧ Oz w1 w') := fun w1 o1 => vcallable_any t.s w1 (hT.keep o1 hg.1 hg.2.1 hg.2.2).1
  have HD : Hid (dd = max dd ((o + 0 : Nat) : Int) ∧ dd ≤ 1000 ∧ M < w.heap.size) := ⟨by omega, hd2, (Array.getElem?_eq_some_iff.1 hv).1⟩
  have O0 : Hid (Oz w w) := Only.refl _ _
  rw [hms, hsz, hdp]
  clear hdp
  obtain ⟨a, ha⟩ : ∃ a, a = clB t.s := ⟨_, rfl⟩
  obtain ⟨s, hs⟩ : ∃ s, s = t.s := ⟨_, rfl⟩
  rw [← ha] at HA ⊢
  rw [← hs] at HA ⊢
  clear hM hsm hv hd1 hd2 ho hT hg hsz hms ha hs hl h7 H
  by_cases h1 : k + 1 ≤ 1024
  ·have e1 : decide ((k : Int) + 1 ≤ 1024) = true := decide_eq_true (by omega)
   rw [e1] at HM
   rw [decide_eq_true h1]
   clear e1
   go_enter Tryz.func134, Tryz.ntmps134
   go_wp2_with fail
   refine (show Cz 130 _ _ _ from HM.out _ (by repeat' first | exact O0.out | apply Only.alloc)).mono ?_
   rintro e w1 ⟨rfl, o1, m1⟩
   have O1 : Hid (Only (fun b => b = M) w w1 ∧ VmB w1 M ((k : Int) + 1) dd) := ⟨Only.trans (show Only (fun b => b = M) w _ by repeat' first | exact (Only.refl _ _) | apply Only.alloc) o1 (fun _ _ g => g), m1⟩
   have x0 : w1.cell? ⟨w.heap.size + 1, 0, none⟩ = some (.string s) := o1.cell (a := ⟨w.heap.size + 1, 0, none⟩) (by simp [go_sem]) (by have := HD.out; simp only; omega)
   have HA1 : Hid _ := HA.out w1 O1.out.1
   clear HM o1 m1 HA
   go_wp2_with fail
   refine (show Cz 145 _ _ _ from HA1.out).mono ?_
   rintro e w2 ⟨rfl, o2⟩
   have HF : Hid (Only (fun b => b = M) w w2 ∧ VmB w2 M ((k + 1 : Nat) : Int) dd) := ⟨O1.out.1.trans (o2.mono (bs' := fun b => b = M) (fun _ _ g => g.elim)) (fun _ _ g => g), by have := O1.out.2.keep o2; simpa using this⟩
   clear HA1 o2 O1 x0
   go_wp2
   go_ret
   exact ⟨by simp, HF.out.1, fun _ => ⟨dd, HF.out.2, HD.out.1, HD.out.2.1⟩⟩
  ·have e1 : decide ((k : Int) + 1 ≤ 1024) = false := decide_eq_false (by omega)
   rw [e1] at HM
   rw [decide_eq_false h1]
   clear e1 HA
   go_enter Tryz.func134, Tryz.ntmps134
   go_wp2_with fail
   refine (show Cz 130 _ _ _ from HM.out _ (by repeat' first | exact O0.out | apply Only.alloc)).mono ?_
   rintro e w1 ⟨rfl, o1, m1⟩
   have O1 : Hid (Only (fun b => b = M) w w1) := Only.trans (show Only (fun b => b = M) w _ by repeat' first | exact (Only.refl _ _) | apply Only.alloc) o1 (fun _ _ g => g)
   clear HM o1 m1
   go_wp2
   go_ret
   exact ⟨by simp, O1.out, fun h => by simp at h⟩
 ·have hms : msB (d + 1) true t k o = false := by
   unfold msB okV
   rw [if_neg (by omega), if_pos h8]
   rfl
  have mP := nilP
  have mC := nilC
  have O0 : Hid (Only (fun b => b = M) w w) := Only.refl _ _
  rw [hms]
  clear hM hsm hv hd1 hd2 ho hT hg hms hl h8 H
  go_enter Tryz.func134, Tryz.ntmps134
  go_wp2
  go_ret
  exact ⟨rfl, (by repeat' first | exact O0.out | apply Only.alloc), fun h => by cases h⟩
 ·have hsz : sz (d + 1) true t = sz d false t := by
   show (if t.k = 7 ∨ t.k = 8 then 1 else sz d false t) = sz d false t
   rw [if_neg (by omega)]
  have hdp : dp (d + 1) true t = dp d false t := by
   show (if t.k = 7 ∨ t.k = 8 then 0 else dp d false t) = dp d false t
   rw [if_neg (by omega)]
  have hok : okV (d + 1) true t = okV d false t := by
   show (if t.k = 7 then clB t.s else if t.k = 8 then false else okV d false t) = okV d false t
   rw [if_neg h7, if_neg h8]
  have hms : msB (d + 1) true t k o = msB d false t k o := by
   unfold msB
   rw [hok, hsz, hdp]
  clear hok
  obtain ⟨T1, y1, rfl⟩ := hu.iface h8
  have hP := va_hit 109 97 _ Tryz.underlying109 (by intro m h; cases h)
  have HV : Hid (∀ w1, Oz w w1 → Cz 104 #[.pointer (some ⟨M, 0, none⟩), .iface T1 y1, .int .i64 (o : Int)] w1 fun e w' => e = .returned (.bool (msB d false t k o)) ∧ Hid (Only (fun b => b = M) w1 w' ∧ (msB d false t k o = true → ∃ dd' : Int, VmB w' M ((k + sz d false t : Nat) : Int) dd' ∧ dd' = max dd ((o + dp d false t : Nat) : Int) ∧ dd' ≤ 1000))) := fun w1 o1 => H t _ w1 S M k o dd (hu.only o1 (fun _ _ g => g)) hM hsm (hv.keep o1) hk hd1 hd2 ho (hT.frame o1) hg
  have O0 : Hid (Oz w w) := Only.refl _ _
  rw [hms, hsz, hdp]
  clear hdp
  obtain ⟨Z, hZ⟩ : ∃ Z, Z = msB d false t k o := ⟨_, rfl⟩
  rw [← hZ] at HV ⊢
  clear hM hsm hv hd1 hd2 ho hT hg hms hsz h7 h8 H hu hZ
  go_enter Tryz.func134, Tryz.ntmps134
  go_wp2_with fail
  refine (show Cz 104 _ _ _ from HV.out _ (by repeat' first | exact O0.out | apply Only.alloc)).mono ?_
  rintro e w1 ⟨rfl, G1⟩
  have HF : Hid (Only (fun b => b = M) w w1 ∧ (Z = true → ∃ dd' : Int, VmB w1 M ((k + sz d false t : Nat) : Int) dd' ∧ dd' = max dd ((o + dp d false t : Nat) : Int) ∧ dd' ≤ 1000)) := ⟨Only.trans (show Only (fun b => b = M) w _ by repeat' first | exact (Only.refl _ _) | apply Only.alloc) G1.out.1 (fun _ _ g => g), G1.out.2⟩
  clear HV G1
  go_wp2
  go_ret
  exact ⟨rfl, HF.out⟩
theorem mval (d : Nat) (H1 : MsC d false 104) (H2 : MsC d true 134) : MsC (d + 1) false 104 := by
 intro t v w S M k o dd h hM hsm hv hk hd1 hd2 ho hT hg
 by_cases h4 : t.k = 4
 ·exact mlist d (ev_values d H1) t v w S M k o dd h h4 hM hsm hv hk hd1 hd2 ho hT hg
 by_cases h5 : t.k = 5
 ·exact mquot d (ev_items d H2) t v w S M k o dd h h5 hM hsm hv hk hd1 hd2 ho hT hg
 exact mleaf d t v w S M k o dd h (by omega) (by obtain ⟨e, he⟩ := hsm; exact he.str) hv hk hd1 hd2 ho hT hg
theorem ms_all : ∀ d : Nat, MsC d false 104 ∧ MsC d true 134
 | 0 => ⟨fun t v w S M k o dd h => h.elim, fun t v w S M k o dd h => h.elim⟩
 | d + 1 => ⟨mval d (ms_all d).1 (ms_all d).2, mitem d (ms_all d).1⟩
def sdB (d : Nat) (t : Vt) : Bool := msB d false t 0 0
def MeP (Z : Bool) (Y Q : Nat) (w : World) (e : Ending) (w' : World) : Prop := ∃ dd : Int, (Z = true → dd = (Q : Int)) ∧ e = .returned (.tuple #[.agg #[.int .i64 (if Z then (Y : Int) else 0), .int .i64 (if Z then dd else 0)], .int .i64 (if Z then 0 else 1)]) ∧ Oz w w'
theorem measured_any {d : Nat} {t : Vt} {v : Value} {w : World} {S : Nat → Prop} (h : TiAt w S d false t v) (hS : ∀ b, S b → b < w.heap.size) (hsm : ∃ e, SmT e t) (hT : Tb w) : Cz 76 #[v] w (MeP (sdB d t) (sz d false t) (dp d false t) w) := by
 obtain ⟨W, hW⟩ : ∃ W, W = (w.alloc (.cells #[.int .i64 0, .int .i64 0] 129)).alloc (.cells #[.int .i64 0, .int .i64 0] 129) := ⟨_, rfl⟩
 obtain ⟨N, hN⟩ : ∃ N, N = w.heap.size := ⟨_, rfl⟩
 have oW : Oz w W := by rw [hW]; exact ((Only.refl _ w).alloc _).alloc _
 have a0 : W.heap[N]? = some (.cells #[.int .i64 0, .int .i64 0] 129) := by rw [hW]; exact (((Only.refl (fun _ => False) _).alloc _).block N (by simp [hN]) (fun g => g)).trans (va_at _ _ _ hN)
 have a1 : W.heap[N + 1]? = some (.cells #[.int .i64 0, .int .i64 0] 129) := by rw [hW]; exact va_at _ _ _ (by simp [hN])
 have lt := hT.lt
 have HV : Hid (Cz 104 #[.pointer (some ⟨N + 1, 0, none⟩), v, .int .i64 0] W fun e w' => e = .returned (.bool (sdB d t)) ∧ Hid (Only (fun b => b = N + 1) W w' ∧ (sdB d t = true → ∃ dd' : Int, VmB w' (N + 1) ((0 + sz d false t : Nat) : Int) dd' ∧ dd' = max 0 ((0 + dp d false t : Nat) : Int) ∧ dd' ≤ 1000))) :=
  (ms_all d).1 t v W S (N + 1) 0 0 0 (h.only oW (fun _ _ g => g)) (fun b hb => by have := hS b hb; omega) hsm a1 (by omega) (by omega) (by omega) (by omega) (hT.frame oW) ⟨by omega, by omega, by omega⟩
 have HA : Hid (W.heap[N]? = some (.cells #[.int .i64 0, .int .i64 0] 129) ∧ Oz w W ∧ N = w.heap.size) := ⟨a0, oW, hN⟩
 obtain ⟨Z, hZ⟩ : ∃ Z, Z = sdB d t := ⟨_, rfl⟩
 obtain ⟨Y, hY⟩ : ∃ Y, Y = sz d false t := ⟨_, rfl⟩
 obtain ⟨Q, hQ⟩ : ∃ Q, Q = dp d false t := ⟨_, rfl⟩
 rw [← hZ, ← hY, ← hQ] at HV
 rw [← hZ, ← hY, ← hQ]
 clear h hS hsm hT oW a0 a1 lt hZ hY hQ
 go_enter Tryz.func76, Tryz.ntmps76
 go_wp2_with fail
 rw [← hW, ← hN]
 clear hW hN
 refine (show Cz 104 _ _ _ from HV.out).mono ?_
 rintro e w1 ⟨rfl, G1⟩
 have o1 := G1.out.1
 have h0 := (o1.block N (Array.getElem?_eq_some_iff.1 HA.out.1).1 (by omega)).trans HA.out.1
 have O1 : Hid (Oz w w1) := HA.out.2.1.trans o1 (fun k hk e => by have := HA.out.2.2; omega)
 have c0 := wr_cell h0 0
 have c1 := wr_cell h0 1
 have f0 := wr_froz h0 0
 have f1 := wr_froz h0 1
 simp only [List.getElem?_toArray, List.getElem?_cons_succ, List.getElem?_cons_zero] at c0 c1
 cases Z with
 | false =>
   have q := set2 c0 c1 (.int .i64 0) (.int .i64 0)
   have QQ : Hid _ := q
   clear h0 HV o1 G1 q
   go_wp2
   refine bodyPost_ret (results_two rfl _ _ N QQ.out.1 QQ.out.2 rfl) rfl ?_
   refine ⟨0, (fun h => by cases h), rfl, (O1.out.setCell _ _ (fun g => ?_)).setCell _ _ (fun g => ?_)⟩ <;> (have := HA.out.2.2; simp only at g; omega)
 | true =>
   obtain ⟨dd, m1, m2, _⟩ := G1.out.2 rfl
   have HM2 : Hid (dd = (Q : Int)) := by show dd = (Q : Int); rw [m2]; omega
   have d0 := wr_cell m1 0
   have d1 := wr_cell m1 1
   simp only [List.getElem?_toArray, List.getElem?_cons_succ, List.getElem?_cons_zero, Nat.zero_add] at d0 d1
   have q := set2 c0 c1 (.int .i64 (Y : Int)) (.int .i64 dd)
   have QQ : Hid _ := q
   clear h0 HV o1 G1 q m1 m2
   go_wp2
   refine bodyPost_ret (results_two rfl _ _ N QQ.out.1 QQ.out.2 rfl) rfl ?_
   refine ⟨dd, (fun _ => HM2.out), rfl, (O1.out.setCell _ _ (fun g => ?_)).setCell _ _ (fun g => ?_)⟩ <;> (have := HA.out.2.2; simp only at g; omega)
theorem vcheck_any {d : Nat} {t : Vt} {v : Value} {w : World} {S : Nat → Prop} (h : TiAt w S d false t v) (hS : ∀ b, S b → b < w.heap.size) (hsm : ∃ e, SmT e t) (hT : Tb w) : Cz 48 #[v] w fun e w' => e = .returned (.int .i64 (if sdB d t then 0 else 1)) ∧ Oz w w' := by
 have HV : Hid _ := measured_any h hS hsm hT
 clear h hS hsm hT
 obtain ⟨X3, h3⟩ : ∃ X : Int, X = (if sdB d t then 0 else 1) := ⟨_, rfl⟩
 rw [← h3]
 have H3 : Hid (X3 = (if sdB d t then 0 else 1)) := h3
 clear h3
 go_enter Tryz.func48, Tryz.ntmps48
 go_wp2_with fail
 refine (show Cz 76 _ _ _ from HV.out).mono ?_
 rintro e w1 ⟨dd, _, rfl, o1⟩
 have O1 : Hid (Oz w w1) := o1
 obtain ⟨X1, h1⟩ : ∃ X : Int, X = (if sdB d t then (sz d false t : Int) else 0) := ⟨_, rfl⟩
 obtain ⟨X2, h2⟩ : ∃ X : Int, X = (if sdB d t then dd else 0) := ⟨_, rfl⟩
 rw [← h1, ← h2, ← H3.out]
 clear HV o1 h1 h2
 go_wp2
 go_ret
 exact ⟨rfl, O1.out.alloc _⟩
theorem eql_iface (U T1 T2 : TypeId) (x y : Value) (w : World) : (binOp .eql U (.iface T1 x) (.iface T2 y)).run Tryz.prog w = ((Op.equalIn Op.maxDepth U (.iface T1 x) (.iface T2 y)).run Tryz.prog w).andThen fun b w' => .ok (.bool b) w' := by
 simp only [binOp]
 simp [Op.equal]
theorem eq_iface {U T : TypeId} {m} {i : TypeInfo} (d : Nat) (x y : Value) (w : World) (hU : Tryz.prog.underlying U = some (.interface m)) (hi : Tryz.prog.info? T = some i) (hc : i.comparable = true) : (Op.equalIn (d + 1) U (.iface T x) (.iface T y)).run Tryz.prog w = (Op.equalIn d T x y).run Tryz.prog w := by
 simp [Op.equalIn, run_underlying hU, typeInfo, hi, hc]
theorem eq_int (d : Nat) (n m : Int) (w : World) : (Op.equalIn (d + 2) 35 (.agg #[.int .i64 n]) (.agg #[.int .i64 m])).run Tryz.prog w = .ok (n == m) w := by
 have hS : Tryz.prog.underlying 35 = some (.struct (Tryz.prog.fieldsOf 35)) := by kernel_rfl
 have hp : Tryz.prog.stoodInHeld 35 = false := by kernel_rfl
 have u := Tryz.underlying2
 have a := Tryz.isAgg2
 have z := Tryz.sizeOf2
 rw [run_equalIn_agg w (d + 1) 35 _ _ hS hp]
 simp only [Program.fieldsOf, Tryz.underlying35]
 go_simp
 all_goals (cases h : (n == m) <;> simp_all)
theorem eqv_int (U : TypeId) {q} (hU : Tryz.prog.underlying U = some (.interface q)) (n m : Int) (w : World) : (binOp .eql U (.iface 35 (.agg #[.int .i64 n])) (.iface 35 (.agg #[.int .i64 m]))).run Tryz.prog w = .ok (.bool (n == m)) w := by
 obtain ⟨D, hD⟩ : ∃ D, Op.maxDepth = D + 2 + 1 := ⟨9997, rfl⟩
 have h1 := eq_iface (D + 2) (.agg #[.int .i64 n]) (.agg #[.int .i64 m]) w hU (T := 35) (i := Tryz.t35) (by kernel_rfl) (by kernel_rfl)
 rw [eql_iface, hD, h1, eq_int D n m w]
 rfl
theorem eq_str (d : Nat) (n m : ByteArray) (w : World) : (Op.equalIn (d + 2) 59 (.agg #[.string n]) (.agg #[.string m])).run Tryz.prog w = .ok (n.toList == m.toList) w := by
 have hS : Tryz.prog.underlying 59 = some (.struct (Tryz.prog.fieldsOf 59)) := by kernel_rfl
 have hp : Tryz.prog.stoodInHeld 59 = false := by kernel_rfl
 have u := Tryz.underlying9
 have a := Tryz.isAgg9
 have z := Tryz.sizeOf9
 rw [run_equalIn_agg w (d + 1) 59 _ _ hS hp]
 simp only [Program.fieldsOf, Tryz.underlying59]
 go_simp
 all_goals (cases h : (n.toList == m.toList) <;> simp_all)
theorem eqv_str (U : TypeId) {q} (hU : Tryz.prog.underlying U = some (.interface q)) (n m : ByteArray) (w : World) : (binOp .eql U (.iface 59 (.agg #[.string n])) (.iface 59 (.agg #[.string m]))).run Tryz.prog w = .ok (.bool (n.toList == m.toList)) w := by
 obtain ⟨D, hD⟩ : ∃ D, Op.maxDepth = D + 2 + 1 := ⟨9997, rfl⟩
 have h1 := eq_iface (D + 2) (.agg #[.string n]) (.agg #[.string m]) w hU (T := 59) (i := Tryz.t59) (by kernel_rfl) (by kernel_rfl)
 rw [eql_iface, hD, h1, eq_str D n m w]
 rfl
theorem eq_bool (d : Nat) (n m : Bool) (w : World) : (Op.equalIn (d + 2) 61 (.agg #[.bool n]) (.agg #[.bool m])).run Tryz.prog w = .ok (n == m) w := by
 have hS : Tryz.prog.underlying 61 = some (.struct (Tryz.prog.fieldsOf 61)) := by kernel_rfl
 have hp : Tryz.prog.stoodInHeld 61 = false := by kernel_rfl
 have u := Tryz.underlying4
 have a := Tryz.isAgg4
 have z := Tryz.sizeOf4
 rw [run_equalIn_agg w (d + 1) 61 _ _ hS hp]
 simp only [Program.fieldsOf, Tryz.underlying61]
 go_simp
 all_goals (cases h : (n == m) <;> simp_all)
theorem eqv_bool (U : TypeId) {q} (hU : Tryz.prog.underlying U = some (.interface q)) (n m : Bool) (w : World) : (binOp .eql U (.iface 61 (.agg #[.bool n])) (.iface 61 (.agg #[.bool m]))).run Tryz.prog w = .ok (.bool (n == m)) w := by
 obtain ⟨D, hD⟩ : ∃ D, Op.maxDepth = D + 2 + 1 := ⟨9997, rfl⟩
 have h1 := eq_iface (D + 2) (.agg #[.bool n]) (.agg #[.bool m]) w hU (T := 61) (i := Tryz.t61) (by kernel_rfl) (by kernel_rfl)
 rw [eql_iface, hD, h1, eq_bool D n m w]
 rfl
theorem eq_box (d : Nat) (n m : Int) (w : World) : (Op.equalIn (d + 2) 69 (.agg #[.int .i64 n]) (.agg #[.int .i64 m])).run Tryz.prog w = .ok (n == m) w := by
 have hS : Tryz.prog.underlying 69 = some (.struct (Tryz.prog.fieldsOf 69)) := by kernel_rfl
 have hp : Tryz.prog.stoodInHeld 69 = false := by kernel_rfl
 have u := Tryz.underlying3
 have a := Tryz.isAgg3
 have z := Tryz.sizeOf3
 rw [run_equalIn_agg w (d + 1) 69 _ _ hS hp]
 simp only [Program.fieldsOf, Tryz.underlying69]
 go_simp
 all_goals (cases h : (n == m) <;> simp_all)
theorem eqv_box (U : TypeId) {q} (hU : Tryz.prog.underlying U = some (.interface q)) (n m : Int) (w : World) : (binOp .eql U (.iface 69 (.agg #[.int .i64 n])) (.iface 69 (.agg #[.int .i64 m]))).run Tryz.prog w = .ok (.bool (n == m)) w := by
 obtain ⟨D, hD⟩ : ∃ D, Op.maxDepth = D + 2 + 1 := ⟨9997, rfl⟩
 have h1 := eq_iface (D + 2) (.agg #[.int .i64 n]) (.agg #[.int .i64 m]) w hU (T := 69) (i := Tryz.t69) (by kernel_rfl) (by kernel_rfl)
 rw [eql_iface, hD, h1, eq_box D n m w]
 rfl
theorem eq_call (d : Nat) (n m : ByteArray) (w : World) : (Op.equalIn (d + 2) 127 (.agg #[.string n]) (.agg #[.string m])).run Tryz.prog w = .ok (n.toList == m.toList) w := by
 have hS : Tryz.prog.underlying 127 = some (.struct (Tryz.prog.fieldsOf 127)) := by kernel_rfl
 have hp : Tryz.prog.stoodInHeld 127 = false := by kernel_rfl
 have u := Tryz.underlying9
 have a := Tryz.isAgg9
 have z := Tryz.sizeOf9
 rw [run_equalIn_agg w (d + 1) 127 _ _ hS hp]
 simp only [Program.fieldsOf, Tryz.underlying127]
 go_simp
 all_goals (cases h : (n.toList == m.toList) <;> simp_all)
theorem eqv_call (U : TypeId) {q} (hU : Tryz.prog.underlying U = some (.interface q)) (n m : ByteArray) (w : World) : (binOp .eql U (.iface 127 (.agg #[.string n])) (.iface 127 (.agg #[.string m]))).run Tryz.prog w = .ok (.bool (n.toList == m.toList)) w := by
 obtain ⟨D, hD⟩ : ∃ D, Op.maxDepth = D + 2 + 1 := ⟨9997, rfl⟩
 have h1 := eq_iface (D + 2) (.agg #[.string n]) (.agg #[.string m]) w hU (T := 127) (i := Tryz.t127) (by kernel_rfl) (by kernel_rfl)
 rw [eql_iface, hD, h1, eq_call D n m w]
 rfl
theorem eqv_ne (U T1 T2 : TypeId) {q} (hU : Tryz.prog.underlying U = some (.interface q)) (x y : Value) (h : T1 ≠ T2) (w : World) : (binOp .eql U (.iface T1 x) (.iface T2 y)).run Tryz.prog w = .ok (.bool false) w := by
 obtain ⟨D, hD⟩ : ∃ D, Op.maxDepth = D + 1 := ⟨9999, rfl⟩
 have h1 : (Op.equalIn (D + 1) U (.iface T1 x) (.iface T2 y)).run Tryz.prog w = .ok false w := by
  simp only [Op.equalIn, Sem.run_bind, run_underlying hU, Result.andThen_ok]
  simp [h]
 rw [eql_iface, hD, h1]
 rfl
def smL (f : Vt → Vt → Bool) : List Vt → List Vt → Bool
 | [], [] => true
 | x :: a, y :: b => f x y && smL f a b
 | _, _ => false
def smV : Nat → Bool → Vt → Vt → Bool
 | 0, _, _, _ => false
 | d + 1, true, a, b => if a.k = 7 ∨ b.k = 7 then decide (a.k = 7) && decide (b.k = 7) && (a.s.toList == b.s.toList) else smV d false a b
 | d + 1, false, a, b => decide (a.k = b.k) && (if a.k = 1 ∨ a.k = 6 then a.n == b.n else if a.k = 2 then a.s.toList == b.s.toList else if a.k = 3 then (a.n != 0) == (b.n != 0) else smL (smV d (decide (a.k = 5))) a.l b.l)
theorem smL_len (f : Vt → Vt → Bool) : ∀ a b : List Vt, a.length ≠ b.length → smL f a b = false
 | [], [], h => absurd rfl h
 | [], y :: b, _ => rfl
 | x :: a, [], _ => rfl
 | x :: a, y :: b, h => by
   unfold smL
   rw [smL_len f a b (by simpa using h), Bool.and_false]
theorem drop_at {l : List Vt} {j : Nat} {x : Vt} (hx : l[j]? = some x) : l.drop j = x :: l.drop (j + 1) := by
 obtain ⟨hlt, he⟩ := List.getElem?_eq_some_iff.1 hx
 rw [List.drop_eq_getElem_cons hlt, he]
def SaV (d : Nat) (i : Bool) (F : Nat) : Prop := ∀ (a b : Vt) (va vb : Value) (w : World) (S : Nat → Prop), TiAt w S d i a va → TiAt w S d i b vb → (okV d i a = true ∧ ∃ e, SmT e a) → (okV d i b = true ∧ ∃ e, SmT e b) → Cz F #[va, vb] w fun e w' => e = .returned (.bool (smV d i a b)) ∧ Oz w w'
def EfV (d : Nat) (i : Bool) (F Fm : Nat) : Prop := ∀ (la lb : List Vt) (ao bo : Option Addr) (ca cb : Nat) (w : World) (S : Nat → Prop), (∀ (j : Nat) (x : Vt), la[j]? = some x → ∃ g q u, ao = some ⟨g, q, none⟩ ∧ S g ∧ w.cell? ⟨g, q + j, none⟩ = some u ∧ TiAt w S d i x u) → (∀ (j : Nat) (x : Vt), lb[j]? = some x → ∃ g q u, bo = some ⟨g, q, none⟩ ∧ S g ∧ w.cell? ⟨g, q + j, none⟩ = some u ∧ TiAt w S d i x u) → (∀ x ∈ la, okV d i x = true ∧ ∃ e, SmT e x) → (∀ x ∈ lb, okV d i x = true ∧ ∃ e, SmT e x) → la.length ≤ 1048576 → lb.length ≤ 1048576 → Cz F #[.slice ao la.length ca, .slice bo lb.length cb, .func (.func Fm) #[] #[]] w fun e w' => e = .returned (.bool (smL (smV d i) la lb)) ∧ Oz w w'
theorem ef_values (d : Nat) (H : SaV d false 109) : EfV d false 138 109 := by
 intro la lb ao bo ca cb w S ha hb hoa hob hna hnb
 have HE : Hid (∀ (j : Nat) (x y : Vt), la[j]? = some x → lb[j]? = some y → ∃ g q u g' q' u', ao = some ⟨g, q, none⟩ ∧ bo = some ⟨g', q', none⟩ ∧ w.cell? ⟨g, q + j, none⟩ = some u ∧ w.cell? ⟨g', q' + j, none⟩ = some u' ∧ ∀ w1, Oz w w1 → Cz 109 #[u, u'] w1 fun e w' => e = .returned (.bool (smV d false x y)) ∧ Oz w1 w') := by
  intro j x y hx hy
  obtain ⟨g, q, u, p1, p2, p3, p4⟩ := ha j x hx
  obtain ⟨g', q', u', r1, r2, r3, r4⟩ := hb j y hy
  exact ⟨g, q, u, g', q', u', p1, r1, p3, r3, fun w1 o1 => H x y u u' w1 S (p4.only o1 (fun _ _ g => g)) (r4.only o1 (fun _ _ g => g)) (hoa x (List.mem_of_getElem? hx)) (hob y (List.mem_of_getElem? hy))⟩
 obtain ⟨Z, hZ⟩ : ∃ Z, Z = smL (smV d false) la lb := ⟨_, rfl⟩
 have HZ : Hid (Z = smL (smV d false) la lb) := hZ
 obtain ⟨N, hN⟩ : ∃ N, N = la.length := ⟨_, rfl⟩
 obtain ⟨K, hK⟩ : ∃ K, K = lb.length := ⟨_, rfl⟩
 have HN : Hid (N = la.length ∧ K = lb.length ∧ N ≤ 1048576 ∧ K ≤ 1048576) := ⟨hN, hK, by omega, by omega⟩
 rw [← hN, ← hK, ← hZ]
 clear ha hb hoa hob hna hnb hZ hN hK H
 by_cases hNK : N = K
 ·have e1 : ((N : Int) == (K : Int)) = true := by simp [hNK]
  subst hNK
  clear e1
  go_enter Tryz.func138, Tryz.ntmps138
  go_wp2
  go_loopw [17] (fun r wr => ∃ j : Nat, r = .int .i64 (j : Int) ∧ j ≤ N ∧ Hid (Z = smL (smV d false) (la.drop j) (lb.drop j) ∧ Oz w wr)) (fun r _ => N - vuOf r)
  case atStart => exact ⟨0, rfl, Nat.zero_le _, by simpa using HZ.out, Only.refl _ _⟩
  case round =>
   obtain ⟨j, rfl, hj, HI⟩ := hrel
   obtain ⟨w1, hw1⟩ : ∃ w1, w1 = wr := ⟨_, rfl⟩
   rw [← hw1] at HI ⊢
   clear hw1
   have hNl := HN.out
   by_cases hjN : j < N
   ·obtain ⟨x, hx⟩ : ∃ x, la[j]? = some x := ⟨la[j]'(by omega), List.getElem?_eq_getElem (by omega)⟩
    obtain ⟨y, hy⟩ : ∃ y, lb[j]? = some y := ⟨lb[j]'(by omega), List.getElem?_eq_getElem (by omega)⟩
    obtain ⟨g, q, u, g', q', u', rfl, rfl, c0, c1, hcall⟩ := HE.out j x y hx hy
    have o1 := HI.out.2
    have c0 := o1.cell c0 (fun g => g)
    have c1 := o1.cell c1 (fun g => g)
    have HC : Hid _ := hcall w1 o1
    have HX : Hid (j < N ∧ Z = smL (smV d false) (x :: la.drop (j + 1)) (y :: lb.drop (j + 1))) := ⟨hjN, by rw [← drop_at hx, ← drop_at hy]; exact HI.out.1⟩
    have O1 : Hid (Oz w w1) := o1
    have i1 : (j : Int) < (N : Int) := by omega
    have i0 : (0 : Int) ≤ (j : Int) := by omega
    have i4 : j ≤ 1048576 := by omega
    obtain ⟨b, hb⟩ : ∃ b, b = smV d false x y := ⟨_, rfl⟩
    have HB : Hid (b = smV d false x y) := hb
    rw [← hb] at HC
    clear hcall o1 hx hy hNl hjN hj HI hb
    go_wp2_with fail
    refine (show Cz 109 _ _ _ from HC.out).mono ?_
    rintro e w2 ⟨rfl, o2⟩
    have O2 : Hid (Oz w w2) := O1.out.trans o2 (fun _ _ g => g)
    clear HC c0 c1 o2 O1
    cases b with
    | false =>
      have hzf : Z = false := by
       have := HX.out.2
       unfold smL at this
       rw [← HB.out] at this
       simpa using this
      have HF : Hid (Z = false) := hzf
      clear hzf
      go_wp2
      go_ret
      exact ⟨by rw [HF.out]; rfl, O2.out⟩
    | true =>
      have HF : Hid (Z = smL (smV d false) (la.drop (j + 1)) (lb.drop (j + 1)) ∧ Oz w w2) := by
       have := HX.out.2
       unfold smL at this
       rw [← HB.out] at this
       exact ⟨by simpa using this, O2.out⟩
      have HJ : Hid (j < N) := HX.out.1
      clear HX HB O2
      go_wp2
      go_roundw
      case rel => exact ⟨j + 1, by go_num, by have := HJ.out; omega, HF⟩
      case measure => simp only [vuOf]; have := HJ.out; omega
   ·obtain rfl : j = N := by omega
    have i1 : ¬ (j : Int) < (j : Int) := by omega
    have HF : Hid (Z = true ∧ Oz w w1) := by
     obtain ⟨hz, o1⟩ := HI.out
     rw [show la.drop j = [] from List.drop_eq_nil_of_le (by omega), show lb.drop j = [] from List.drop_eq_nil_of_le (by omega)] at hz
     exact ⟨hz, o1⟩
    clear HI hNl hjN hj
    go_wp2
    go_ret
    exact ⟨by rw [HF.out.1]; rfl, HF.out.2⟩
 ·have HF : Hid (Z = false) := by rw [HZ.out]; exact smL_len _ _ _ (by have := HN.out; omega)
  have O0 : Hid (Oz w w) := Only.refl _ _
  have e1 : ((N : Int) != (K : Int)) = true := by
   simp only [bne_iff_ne, ne_eq]
   omega
  clear hNK
  go_enter Tryz.func138, Tryz.ntmps138
  go_wp2
  go_ret
  exact ⟨by rw [HF.out]; rfl, O0.out⟩
theorem ef_items (d : Nat) (H : SaV d true 140) : EfV d true 139 140 := by
 intro la lb ao bo ca cb w S ha hb hoa hob hna hnb
 have HE : Hid (∀ (j : Nat) (x y : Vt), la[j]? = some x → lb[j]? = some y → ∃ g q u g' q' u', ao = some ⟨g, q, none⟩ ∧ bo = some ⟨g', q', none⟩ ∧ w.cell? ⟨g, q + j, none⟩ = some u ∧ w.cell? ⟨g', q' + j, none⟩ = some u' ∧ ∀ w1, Oz w w1 → Cz 140 #[u, u'] w1 fun e w' => e = .returned (.bool (smV d true x y)) ∧ Oz w1 w') := by
  intro j x y hx hy
  obtain ⟨g, q, u, p1, p2, p3, p4⟩ := ha j x hx
  obtain ⟨g', q', u', r1, r2, r3, r4⟩ := hb j y hy
  exact ⟨g, q, u, g', q', u', p1, r1, p3, r3, fun w1 o1 => H x y u u' w1 S (p4.only o1 (fun _ _ g => g)) (r4.only o1 (fun _ _ g => g)) (hoa x (List.mem_of_getElem? hx)) (hob y (List.mem_of_getElem? hy))⟩
 obtain ⟨Z, hZ⟩ : ∃ Z, Z = smL (smV d true) la lb := ⟨_, rfl⟩
 have HZ : Hid (Z = smL (smV d true) la lb) := hZ
 obtain ⟨N, hN⟩ : ∃ N, N = la.length := ⟨_, rfl⟩
 obtain ⟨K, hK⟩ : ∃ K, K = lb.length := ⟨_, rfl⟩
 have HN : Hid (N = la.length ∧ K = lb.length ∧ N ≤ 1048576 ∧ K ≤ 1048576) := ⟨hN, hK, by omega, by omega⟩
 rw [← hN, ← hK, ← hZ]
 clear ha hb hoa hob hna hnb hZ hN hK H
 by_cases hNK : N = K
 ·have e1 : ((N : Int) == (K : Int)) = true := by simp [hNK]
  subst hNK
  clear e1
  go_enter Tryz.func139, Tryz.ntmps139
  go_wp2
  go_loopw [17] (fun r wr => ∃ j : Nat, r = .int .i64 (j : Int) ∧ j ≤ N ∧ Hid (Z = smL (smV d true) (la.drop j) (lb.drop j) ∧ Oz w wr)) (fun r _ => N - vuOf r)
  case atStart => exact ⟨0, rfl, Nat.zero_le _, by simpa using HZ.out, Only.refl _ _⟩
  case round =>
   obtain ⟨j, rfl, hj, HI⟩ := hrel
   obtain ⟨w1, hw1⟩ : ∃ w1, w1 = wr := ⟨_, rfl⟩
   rw [← hw1] at HI ⊢
   clear hw1
   have hNl := HN.out
   by_cases hjN : j < N
   ·obtain ⟨x, hx⟩ : ∃ x, la[j]? = some x := ⟨la[j]'(by omega), List.getElem?_eq_getElem (by omega)⟩
    obtain ⟨y, hy⟩ : ∃ y, lb[j]? = some y := ⟨lb[j]'(by omega), List.getElem?_eq_getElem (by omega)⟩
    obtain ⟨g, q, u, g', q', u', rfl, rfl, c0, c1, hcall⟩ := HE.out j x y hx hy
    have o1 := HI.out.2
    have c0 := o1.cell c0 (fun g => g)
    have c1 := o1.cell c1 (fun g => g)
    have HC : Hid _ := hcall w1 o1
    have HX : Hid (j < N ∧ Z = smL (smV d true) (x :: la.drop (j + 1)) (y :: lb.drop (j + 1))) := ⟨hjN, by rw [← drop_at hx, ← drop_at hy]; exact HI.out.1⟩
    have O1 : Hid (Oz w w1) := o1
    have i1 : (j : Int) < (N : Int) := by omega
    have i0 : (0 : Int) ≤ (j : Int) := by omega
    have i4 : j ≤ 1048576 := by omega
    obtain ⟨b, hb⟩ : ∃ b, b = smV d true x y := ⟨_, rfl⟩
    have HB : Hid (b = smV d true x y) := hb
    rw [← hb] at HC
    clear hcall o1 hx hy hNl hjN hj HI hb
    go_wp2_with fail
    refine (show Cz 140 _ _ _ from HC.out).mono ?_
    rintro e w2 ⟨rfl, o2⟩
    have O2 : Hid (Oz w w2) := O1.out.trans o2 (fun _ _ g => g)
    clear HC c0 c1 o2 O1
    cases b with
    | false =>
      have hzf : Z = false := by
       have := HX.out.2
       unfold smL at this
       rw [← HB.out] at this
       simpa using this
      have HF : Hid (Z = false) := hzf
      clear hzf
      go_wp2
      go_ret
      exact ⟨by rw [HF.out]; rfl, O2.out⟩
    | true =>
      have HF : Hid (Z = smL (smV d true) (la.drop (j + 1)) (lb.drop (j + 1)) ∧ Oz w w2) := by
       have := HX.out.2
       unfold smL at this
       rw [← HB.out] at this
       exact ⟨by simpa using this, O2.out⟩
      have HJ : Hid (j < N) := HX.out.1
      clear HX HB O2
      go_wp2
      go_roundw
      case rel => exact ⟨j + 1, by go_num, by have := HJ.out; omega, HF⟩
      case measure => simp only [vuOf]; have := HJ.out; omega
   ·obtain rfl : j = N := by omega
    have i1 : ¬ (j : Int) < (j : Int) := by omega
    have HF : Hid (Z = true ∧ Oz w w1) := by
     obtain ⟨hz, o1⟩ := HI.out
     rw [show la.drop j = [] from List.drop_eq_nil_of_le (by omega), show lb.drop j = [] from List.drop_eq_nil_of_le (by omega)] at hz
     exact ⟨hz, o1⟩
    clear HI hNl hjN hj
    go_wp2
    go_ret
    exact ⟨by rw [HF.out.1]; rfl, HF.out.2⟩
 ·have HF : Hid (Z = false) := by rw [HZ.out]; exact smL_len _ _ _ (by have := HN.out; omega)
  have O0 : Hid (Oz w w) := Only.refl _ _
  have e1 : ((N : Int) != (K : Int)) = true := by
   simp only [bne_iff_ne, ne_eq]
   omega
  clear hNK
  go_enter Tryz.func139, Tryz.ntmps139
  go_wp2
  go_ret
  exact ⟨by rw [HF.out]; rfl, O0.out⟩
end Go.Proofs.YtenjollhlgjjdaaGreatDoor
