/- A measure of a value, of an item; all of them. A measure of a list, of a quotation, of an item; of all. The measure of values: a list of two, a quotation of one. -/
import Derived.Test.YthlloenonjagbaaGreatDoorGaj
import Derived.Test.YthlloenonjagbaaGreatDoorGai
namespace Go.Proofs.YthlloenonjagbaaGreatDoor
open Go.RowKit Go.Lib
set_option linter.unusedSimpArgs false
set_option linter.unusedVariables false
theorem VmB.keep {w w' : World} {M : Nat} {k d : Int} (h : VmB w M k d) (o : Only (fun _ => False) w w') : VmB w' M k d := (o.block M (Array.getElem?_eq_some_iff.1 h).1 (fun g => g)).trans h
/-- what holds no others is no list and no quotation -/
def LqM (v : Value) : Prop := (∀ W : World, (Instr.typeAssert v 27 80 true).run Tryz.prog W = .ok (.tuple #[.agg #[.slice none 0 0], .bool false]) W) ∧ (∀ W : World, (Instr.typeAssert v 27 82 true).run Tryz.prog W = .ok (.tuple #[.agg #[.slice none 0 0], .bool false]) W)
theorem leaf_lq {S : Nat → Prop} {d : Nat} {t : Vt} {v : Value} {w : World} (h : TiAt w S (d + 1) false t v) (hk : ¬ (t.k = 4 ∨ t.k = 5)) : LqM v ∧ t.l = [] := by
  have m1 : ∀ T x, T ≠ 80 → T ≠ 82 → LqM (.iface T x) := fun T x h1 h2 => ⟨va_miss T 80 27 _ Tryz.underlying80 (by intro m h; cases h) h1 _ zL x, va_miss T 82 27 _ Tryz.underlying82 (by intro m h; cases h) h2 _ zQ x⟩
  rcases h with ⟨_, e, rfl⟩ | ⟨_, e, rfl⟩ | ⟨_, e, rfl⟩ | ⟨_, e, rfl⟩ | ⟨_, e, rfl⟩ | ⟨e, _⟩
  · exact ⟨m1 _ _ (by decide) (by decide), e⟩
  · exact ⟨m1 _ _ (by decide) (by decide), e⟩
  · exact ⟨m1 _ _ (by decide) (by decide), e⟩
  · exact ⟨m1 _ _ (by decide) (by decide), e⟩
  · exact ⟨⟨bad_nil.l, bad_nil.q⟩, e⟩
  · exact absurd e hk
theorem SmT.str {e : Nat} {t : Vt} (h : SmT e t) : t.s.size ≤ 1048576 := by
  cases e with
  | zero => exact h.elim
  | succ e => exact h.1
theorem SmT.len {e : Nat} {t : Vt} (h : SmT e t) : t.l.length ≤ 1048576 := by
  cases e with
  | zero => exact h.elim
  | succ e => exact h.2.1
theorem SmT.parts {e : Nat} {t : Vt} (h : SmT e t) : ∀ x ∈ t.l, ∃ e, SmT e x := by
  cases e with
  | zero => exact h.elim
  | succ e => exact fun x hx => ⟨e, h.2.2.2.2 x hx⟩
set_option maxRecDepth 100000 in
set_option maxHeartbeats 4000000 in
theorem mleaf (d : Nat) (t : Vt) (v : Value) (w : World) (S : Nat → Prop) (M k o : Nat) (dd : Int) (h : TiAt w S (d + 1) false t v) (hk4 : ¬ (t.k = 4 ∨ t.k = 5)) (hs : t.s.size ≤ 1048576) (hv : VmB w M k dd) (hk : k ≤ 1024) (hd1 : 0 ≤ dd) (hd2 : dd ≤ 1000) (ho : o ≤ 32) (hT : Tb w) (hg : Mg M) :
    Calls Tryz.prog 53 #[.pointer (some ⟨M, 0, none⟩), v, .int .i64 (o : Int)] w fun e w' => e = .returned (.bool (msB (d + 1) false t k o)) ∧ Hid (Only (fun b => b = M) w w' ∧ (msB (d + 1) false t k o = true → ∃ dd' : Int, VmB w' M ((k + sz (d + 1) false t : Nat) : Int) dd' ∧ 0 ≤ dd' ∧ dd' ≤ 1000)) := by
  obtain ⟨⟨hl, hq⟩, hnil⟩ := leaf_lq h hk4
  have hsz : sz (d + 1) false t = 1 := by unfold sz; rw [hnil]; rfl
  have hdp : dp (d + 1) false t = 0 := by unfold dp; rw [if_neg hk4]
  have hok : okV (d + 1) false t = alB t := by unfold okV; rw [if_neg hk4]
  have hms : msB (d + 1) false t k o = (alB t && decide (k + 1 ≤ 1024)) := by
    unfold msB
    rw [hok, hsz, hdp, decide_eq_true (show o + 0 ≤ 32 by omega), Bool.and_true]
  have HM : Hid _ := vcount_all M k dd w hv (by omega) (by omega)
  have HA : Hid (∀ w1, Only (fun b => b = M) w w1 → Calls Tryz.prog 79 #[v] w1 fun e w' => e = .returned (.bool (alB t)) ∧ Only (fun _ => False) w1 w') := fun w1 o1 => alone_any h hk4 hs w1 (hT.keep o1 hg.1 hg.2.1 hg.2.2)
  have HD : Hid (0 ≤ dd ∧ dd ≤ 1000) := ⟨hd1, hd2⟩
  rw [hms, hsz]
  obtain ⟨a, ha⟩ : ∃ a, a = alB t := ⟨_, rfl⟩
  rw [← ha] at HA ⊢
  clear h hk4 hs hv hd1 hd2 ho hT hg hsz hdp hok hms hnil ha
  by_cases h1 : k + 1 ≤ 1024
  · have e1 : decide ((k : Int) + 1 ≤ 1024) = true := decide_eq_true (by omega)
    rw [e1] at HM
    rw [decide_eq_true h1]
    clear e1
    go_enter Tryz.func53, Tryz.ntmps53
    go_wp2_with fail
    refine (show Calls Tryz.prog 74 _ _ _ from HM.out).mono ?_
    rintro e w1 ⟨rfl, o1, m1⟩
    have O1 : Hid (Only (fun b => b = M) w w1 ∧ VmB w1 M ((k : Int) + 1) dd) := ⟨o1, m1⟩
    clear HM o1 m1
    go_wp2_with fail
    refine (show Calls Tryz.prog 79 _ _ _ from HA.out _ (by repeat' first | exact O1.out.1 | apply Only.alloc)).mono ?_
    rintro e w2 ⟨rfl, o2⟩
    have o3 : Only (fun _ => False) w1 w2 := Only.trans (show Only (fun _ => False) w1 _ by repeat' first | exact (Only.refl _ _) | apply Only.alloc) o2 (fun _ _ g => g)
    have HF : Hid (Only (fun b => b = M) w w2 ∧ VmB w2 M ((k + 1 : Nat) : Int) dd) := ⟨O1.out.1.trans (o3.mono (bs' := fun b => b = M) (fun _ _ g => g.elim)) (fun _ _ g => g), by have := O1.out.2.keep o3; simpa using this⟩
    clear HA o2 o3 O1
    go_wp2
    go_ret
    exact ⟨by simp, HF.out.1, fun _ => ⟨dd, HF.out.2, HD.out.1, HD.out.2⟩⟩
  · have e1 : decide ((k : Int) + 1 ≤ 1024) = false := decide_eq_false (by omega)
    rw [e1] at HM
    rw [decide_eq_false h1]
    clear e1 HA
    go_enter Tryz.func53, Tryz.ntmps53
    go_wp2_with fail
    refine (show Calls Tryz.prog 74 _ _ _ from HM.out).mono ?_
    rintro e w1 ⟨rfl, o1, m1⟩
    have O1 : Hid (Only (fun b => b = M) w w1) := o1
    clear HM o1 m1
    go_wp2
    go_ret
    exact ⟨by simp, O1.out, fun h => by simp at h⟩
end Go.Proofs.YthlloenonjagbaaGreatDoor
namespace Go.Proofs.YthlloenonjagbaaGreatDoor
open Go.RowKit Go.Lib
set_option linter.unusedSimpArgs false
set_option linter.unusedVariables false
theorem ms_list (d : Nat) (t : Vt) (k o : Nat) (hk : t.k = 4 ∨ t.k = 5) : msB (d + 1) false t k o = (decide (k + 1 ≤ 1024) && decide (o + 1 ≤ 32) && evB d (decide (t.k = 5)) t.l (k + 1) (o + 1)) := by
  have h1 : okV (d + 1) false t = t.l.all (okV d (decide (t.k = 5))) := by unfold okV; rw [if_pos hk]
  have h2 : sz (d + 1) false t = 1 + (t.l.map (sz d (decide (t.k = 5)))).sum := by unfold sz; rfl
  have h3 : dp (d + 1) false t = 1 + ((t.l.map (dp d (decide (t.k = 5)))).foldl max 0) := by unfold dp; rw [if_pos hk]
  unfold msB
  rw [h1, h2, h3]
  by_cases a1 : k + 1 ≤ 1024
  · by_cases a2 : o + 1 ≤ 32
    · rw [evB_eq _ _ _ _ _ a1 a2, decide_eq_true a1, decide_eq_true a2]
      rw [show k + (1 + (t.l.map (sz d (decide (t.k = 5)))).sum) = k + 1 + (t.l.map (sz d (decide (t.k = 5)))).sum by omega, show o + (1 + (t.l.map (dp d (decide (t.k = 5)))).foldl max 0) = o + 1 + (t.l.map (dp d (decide (t.k = 5)))).foldl max 0 by omega]
      simp
    · rw [decide_eq_false a2, decide_eq_false (show ¬ o + (1 + (t.l.map (dp d (decide (t.k = 5)))).foldl max 0) ≤ 32 by omega)]
      simp
  · rw [decide_eq_false a1, decide_eq_false (show ¬ k + (1 + (t.l.map (sz d (decide (t.k = 5)))).sum) ≤ 1024 by omega)]
    simp
set_option maxRecDepth 100000 in
set_option maxHeartbeats 4000000 in
theorem mlist (d : Nat) (H : EvC d false 76 53) (t : Vt) (v : Value) (w : World) (S : Nat → Prop) (M k o : Nat) (dd : Int) (h : TiAt w S (d + 1) false t v) (hk4 : t.k = 4) (hM : ∀ b, S b → b ≠ M) (hsm : ∃ e, SmT e t) (hv : VmB w M k dd) (hk : k ≤ 1024) (hd1 : 0 ≤ dd) (hd2 : dd ≤ 1000) (ho : o ≤ 32) (hT : Tb w) (hg : Mg M) :
    Calls Tryz.prog 53 #[.pointer (some ⟨M, 0, none⟩), v, .int .i64 (o : Int)] w fun e w' => e = .returned (.bool (msB (d + 1) false t k o)) ∧ Hid (Only (fun b => b = M) w w' ∧ (msB (d + 1) false t k o = true → ∃ dd' : Int, VmB w' M ((k + sz (d + 1) false t : Nat) : Int) dd' ∧ 0 ≤ dd' ∧ dd' ≤ 1000)) := by
  have hk45 : t.k = 4 ∨ t.k = 5 := by omega
  obtain ⟨ao, cap, rfl, hcap, hel⟩ : ∃ ao cap, v = .iface 80 (.agg #[.slice ao t.l.length cap]) ∧ t.l.length ≤ cap ∧ ∀ i x, t.l[i]? = some x → ∃ g k u, ao = some ⟨g, k, none⟩ ∧ S g ∧ w.cell? ⟨g, k + i, none⟩ = some u ∧ TiAt w S d false x u := by
    rcases h with ⟨e, _⟩ | ⟨e, _⟩ | ⟨e, _⟩ | ⟨e, _⟩ | ⟨e, _⟩ | ⟨_, ao, cap, h1, h2, h3⟩
    · omega
    · omega
    · omega
    · omega
    · omega
    · rw [hk4] at h1 h3
      exact ⟨ao, cap, h1, h2, h3⟩
  have hms := ms_list d t k o hk45
  rw [show decide (t.k = 5) = false by rw [hk4]; rfl] at hms
  have hsz : sz (d + 1) false t = 1 + (t.l.map (sz d false)).sum := by unfold sz; rw [show decide (t.k = 5) = false by rw [hk4]; rfl]
  have HM : Hid _ := vcount_all M k dd w hv (by omega) (by omega)
  have HN : Hid (∀ w1 (k1 : Int), VmB w1 M k1 dd → Calls Tryz.prog 75 #[.pointer (some ⟨M, 0, none⟩), .int .i64 ((o : Int) + 1)] w1 fun e w' => e = .returned (.bool (decide ((o : Int) + 1 ≤ 32))) ∧ Only (fun b => b = M) w1 w' ∧ ∃ d', VmB w' M k1 d' ∧ 0 ≤ d' ∧ d' ≤ 1000) := fun w1 k1 hv1 => venter_all M k1 dd ((o : Int) + 1) w1 hv1 hd1 hd2 (by omega) (by omega)
  have HC : Hid (∀ w1 (dd1 : Int), Only (fun b => b = M) w w1 → VmB w1 M ((k + 1 : Nat) : Int) dd1 → k + 1 ≤ 1024 → o + 1 ≤ 32 → 0 ≤ dd1 → dd1 ≤ 1000 → Calls Tryz.prog 76 #[.slice ao t.l.length cap, .func (.func 53) #[.pointer (some ⟨M, 0, none⟩)] #[], .int .i64 ((o + 1 : Nat) : Int)] w1 fun e w' => e = .returned (.bool (evB d false t.l (k + 1) (o + 1))) ∧ Hid (Only (fun b => b = M) w1 w' ∧ (evB d false t.l (k + 1) (o + 1) = true → ∃ dd' : Int, VmB w' M ((k + 1 + (t.l.map (sz d false)).sum : Nat) : Int) dd' ∧ 0 ≤ dd' ∧ dd' ≤ 1000))) := by
    intro w1 dd1 o1 hv1 hk1 ho1 h1 h2
    refine H t.l ao cap w1 S M (k + 1) (o + 1) dd1 (fun j x hx => ?_) hM (by obtain ⟨e, he⟩ := hsm; exact he.parts) (by obtain ⟨e, he⟩ := hsm; exact he.len) hv1 hk1 h1 h2 ho1 (hT.keep o1 hg.1 hg.2.1 hg.2.2) hg
    obtain ⟨g, q, u, p1, p2, p3, p4⟩ := hel j x hx
    exact ⟨g, q, u, p1, p2, o1.cell p3 (hM g p2), p4.only o1 (fun b hb => hM b hb)⟩
  have HL : Hid (M < w.heap.size) := (Array.getElem?_eq_some_iff.1 hv).1
  have hHit := va_hit 80 27 _ Tryz.underlying80 (by intro m h; cases h)
  rw [hms, hsz]
  obtain ⟨L, hL⟩ : ∃ L, L = t.l.length := ⟨_, rfl⟩
  obtain ⟨Y, hY⟩ : ∃ Y, Y = (t.l.map (sz d false)).sum := ⟨_, rfl⟩
  obtain ⟨Z, hZ⟩ : ∃ Z, Z = evB d false t.l (k + 1) (o + 1) := ⟨_, rfl⟩
  rw [← hL, ← hY, ← hZ] at HC
  rw [← hL, ← hY, ← hZ]
  clear hL hY hZ h hk4 hM hsm hv hd1 hd2 hT hg hel hcap hms hsz H hk45
  by_cases h1 : k + 1 ≤ 1024
  · have e1 : decide ((k : Int) + 1 ≤ 1024) = true := decide_eq_true (by omega)
    rw [e1] at HM
    rw [decide_eq_true h1]
    clear e1
    by_cases h2 : o + 1 ≤ 32
    · have e2 : decide ((o : Int) + 1 ≤ 32) = true := decide_eq_true (by omega)
      rw [e2] at HN
      rw [decide_eq_true h2]
      have HB : Hid (k + 1 ≤ 1024 ∧ o + 1 ≤ 32) := ⟨h1, h2⟩
      clear e2 h1
      go_enter Tryz.func53, Tryz.ntmps53
      go_wp2_with fail
      refine (show Calls Tryz.prog 74 _ _ _ from HM.out).mono ?_
      rintro e w1 ⟨rfl, o1, m1⟩
      have O1 : Hid (Only (fun b => b = M) w w1 ∧ VmB w1 M ((k : Int) + 1) dd) := ⟨o1, m1⟩
      clear HM o1 m1
      go_wp2_with fail
      refine (show Calls Tryz.prog 75 _ _ _ from HN.out _ _ (O1.out.2.keep (by repeat' first | exact (Only.refl _ _) | apply Only.alloc))).mono ?_
      rintro e w2 ⟨rfl, o2, d2, m2, p2, q2⟩
      have O2 : Hid (Only (fun b => b = M) w w2 ∧ VmB w2 M ((k + 1 : Nat) : Int) d2 ∧ 0 ≤ d2 ∧ d2 ≤ 1000) := ⟨O1.out.1.trans (Only.trans (show Only (fun b => b = M) w1 _ by repeat' first | exact (Only.refl _ _) | apply Only.alloc) o2 (fun _ _ g => g)) (fun _ _ g => g), by simpa using m2, p2, q2⟩
      have hs1 := O1.out.1.size
      have x0 : w2.cell? ⟨w1.heap.size, 0, none⟩ = some (.slice ao L cap) := o2.cell (a := ⟨w1.heap.size, 0, none⟩) (by simp [go_sem]) (by have := HL.out; simp only; omega)
      have HC2 : Hid _ := HC.out w2 d2 O2.out.1 O2.out.2.1 HB.out.1 HB.out.2 p2 q2
      clear HN HC o2 m2 p2 q2 O1 hs1
      go_wp2_with fail
      refine (show Calls Tryz.prog 76 _ _ _ from HC2.out).mono ?_
      rintro e w3 ⟨rfl, G3⟩
      have HF : Hid (Only (fun b => b = M) w w3 ∧ (Z = true → ∃ dd' : Int, VmB w3 M ((k + (1 + Y) : Nat) : Int) dd' ∧ 0 ≤ dd' ∧ dd' ≤ 1000)) := ⟨O2.out.1.trans G3.out.1 (fun _ _ g => g), fun hz => by have := G3.out.2 hz; rwa [show k + (1 + Y) = k + 1 + Y by omega]⟩
      clear HC2 G3 O2 x0
      go_wp2
      go_ret
      exact ⟨by simp, HF.out.1, fun h => HF.out.2 (by simpa using h)⟩
    · have e2 : decide ((o : Int) + 1 ≤ 32) = false := decide_eq_false (by omega)
      rw [e2] at HN
      rw [decide_eq_false h2]
      clear e2 h1 HC
      go_enter Tryz.func53, Tryz.ntmps53
      go_wp2_with fail
      refine (show Calls Tryz.prog 74 _ _ _ from HM.out).mono ?_
      rintro e w1 ⟨rfl, o1, m1⟩
      have O1 : Hid (Only (fun b => b = M) w w1 ∧ VmB w1 M ((k : Int) + 1) dd) := ⟨o1, m1⟩
      clear HM o1 m1
      go_wp2_with fail
      refine (show Calls Tryz.prog 75 _ _ _ from HN.out _ _ (O1.out.2.keep (by repeat' first | exact (Only.refl _ _) | apply Only.alloc))).mono ?_
      rintro e w2 ⟨rfl, o2, d2, m2, p2, q2⟩
      have O2 : Hid (Only (fun b => b = M) w w2) := O1.out.1.trans (Only.trans (show Only (fun b => b = M) w1 _ by repeat' first | exact (Only.refl _ _) | apply Only.alloc) o2 (fun _ _ g => g)) (fun _ _ g => g)
      clear HN o2 m2 p2 q2 O1
      go_wp2
      go_ret
      exact ⟨by simp, O2.out, fun h => by simp at h⟩
  · have e1 : decide ((k : Int) + 1 ≤ 1024) = false := decide_eq_false (by omega)
    rw [e1] at HM
    rw [decide_eq_false h1]
    clear e1 HC HN
    go_enter Tryz.func53, Tryz.ntmps53
    go_wp2_with fail
    refine (show Calls Tryz.prog 74 _ _ _ from HM.out).mono ?_
    rintro e w1 ⟨rfl, o1, m1⟩
    have O1 : Hid (Only (fun b => b = M) w w1) := o1
    clear HM o1 m1
    go_wp2
    go_ret
    exact ⟨by simp, O1.out, fun h => by simp at h⟩
set_option maxRecDepth 100000 in
set_option maxHeartbeats 4000000 in
theorem mquot (d : Nat) (H : EvC d true 77 78) (t : Vt) (v : Value) (w : World) (S : Nat → Prop) (M k o : Nat) (dd : Int) (h : TiAt w S (d + 1) false t v) (hk4 : t.k = 5) (hM : ∀ b, S b → b ≠ M) (hsm : ∃ e, SmT e t) (hv : VmB w M k dd) (hk : k ≤ 1024) (hd1 : 0 ≤ dd) (hd2 : dd ≤ 1000) (ho : o ≤ 32) (hT : Tb w) (hg : Mg M) :
    Calls Tryz.prog 53 #[.pointer (some ⟨M, 0, none⟩), v, .int .i64 (o : Int)] w fun e w' => e = .returned (.bool (msB (d + 1) false t k o)) ∧ Hid (Only (fun b => b = M) w w' ∧ (msB (d + 1) false t k o = true → ∃ dd' : Int, VmB w' M ((k + sz (d + 1) false t : Nat) : Int) dd' ∧ 0 ≤ dd' ∧ dd' ≤ 1000)) := by
  have hk45 : t.k = 4 ∨ t.k = 5 := by omega
  obtain ⟨ao, cap, rfl, hcap, hel⟩ : ∃ ao cap, v = .iface 82 (.agg #[.slice ao t.l.length cap]) ∧ t.l.length ≤ cap ∧ ∀ i x, t.l[i]? = some x → ∃ g k u, ao = some ⟨g, k, none⟩ ∧ S g ∧ w.cell? ⟨g, k + i, none⟩ = some u ∧ TiAt w S d true x u := by
    rcases h with ⟨e, _⟩ | ⟨e, _⟩ | ⟨e, _⟩ | ⟨e, _⟩ | ⟨e, _⟩ | ⟨_, ao, cap, h1, h2, h3⟩
    · omega
    · omega
    · omega
    · omega
    · omega
    · rw [hk4] at h1 h3
      exact ⟨ao, cap, h1, h2, h3⟩
  have hms := ms_list d t k o hk45
  rw [show decide (t.k = 5) = true by rw [hk4]; rfl] at hms
  have hsz : sz (d + 1) false t = 1 + (t.l.map (sz d true)).sum := by unfold sz; rw [show decide (t.k = 5) = true by rw [hk4]; rfl]
  have HM : Hid _ := vcount_all M k dd w hv (by omega) (by omega)
  have HN : Hid (∀ w1 (k1 : Int), VmB w1 M k1 dd → Calls Tryz.prog 75 #[.pointer (some ⟨M, 0, none⟩), .int .i64 ((o : Int) + 1)] w1 fun e w' => e = .returned (.bool (decide ((o : Int) + 1 ≤ 32))) ∧ Only (fun b => b = M) w1 w' ∧ ∃ d', VmB w' M k1 d' ∧ 0 ≤ d' ∧ d' ≤ 1000) := fun w1 k1 hv1 => venter_all M k1 dd ((o : Int) + 1) w1 hv1 hd1 hd2 (by omega) (by omega)
  have HC : Hid (∀ w1 (dd1 : Int), Only (fun b => b = M) w w1 → VmB w1 M ((k + 1 : Nat) : Int) dd1 → k + 1 ≤ 1024 → o + 1 ≤ 32 → 0 ≤ dd1 → dd1 ≤ 1000 → Calls Tryz.prog 77 #[.slice ao t.l.length cap, .func (.func 78) #[.pointer (some ⟨M, 0, none⟩)] #[], .int .i64 ((o + 1 : Nat) : Int)] w1 fun e w' => e = .returned (.bool (evB d true t.l (k + 1) (o + 1))) ∧ Hid (Only (fun b => b = M) w1 w' ∧ (evB d true t.l (k + 1) (o + 1) = true → ∃ dd' : Int, VmB w' M ((k + 1 + (t.l.map (sz d true)).sum : Nat) : Int) dd' ∧ 0 ≤ dd' ∧ dd' ≤ 1000))) := by
    intro w1 dd1 o1 hv1 hk1 ho1 h1 h2
    refine H t.l ao cap w1 S M (k + 1) (o + 1) dd1 (fun j x hx => ?_) hM (by obtain ⟨e, he⟩ := hsm; exact he.parts) (by obtain ⟨e, he⟩ := hsm; exact he.len) hv1 hk1 h1 h2 ho1 (hT.keep o1 hg.1 hg.2.1 hg.2.2) hg
    obtain ⟨g, q, u, p1, p2, p3, p4⟩ := hel j x hx
    exact ⟨g, q, u, p1, p2, o1.cell p3 (hM g p2), p4.only o1 (fun b hb => hM b hb)⟩
  have HL : Hid (M < w.heap.size) := (Array.getElem?_eq_some_iff.1 hv).1
  have hMiss := va_miss 82 80 27 _ Tryz.underlying80 (by intro m h; cases h) (by decide) _ zL
  have hHit := va_hit 82 27 _ Tryz.underlying82 (by intro m h; cases h)
  rw [hms, hsz]
  obtain ⟨L, hL⟩ : ∃ L, L = t.l.length := ⟨_, rfl⟩
  obtain ⟨Y, hY⟩ : ∃ Y, Y = (t.l.map (sz d true)).sum := ⟨_, rfl⟩
  obtain ⟨Z, hZ⟩ : ∃ Z, Z = evB d true t.l (k + 1) (o + 1) := ⟨_, rfl⟩
  rw [← hL, ← hY, ← hZ] at HC
  rw [← hL, ← hY, ← hZ]
  clear hL hY hZ h hk4 hM hsm hv hd1 hd2 hT hg hel hcap hms hsz H hk45
  by_cases h1 : k + 1 ≤ 1024
  · have e1 : decide ((k : Int) + 1 ≤ 1024) = true := decide_eq_true (by omega)
    rw [e1] at HM
    rw [decide_eq_true h1]
    clear e1
    by_cases h2 : o + 1 ≤ 32
    · have e2 : decide ((o : Int) + 1 ≤ 32) = true := decide_eq_true (by omega)
      rw [e2] at HN
      rw [decide_eq_true h2]
      have HB : Hid (k + 1 ≤ 1024 ∧ o + 1 ≤ 32) := ⟨h1, h2⟩
      clear e2 h1
      go_enter Tryz.func53, Tryz.ntmps53
      go_wp2_with fail
      refine (show Calls Tryz.prog 74 _ _ _ from HM.out).mono ?_
      rintro e w1 ⟨rfl, o1, m1⟩
      have O1 : Hid (Only (fun b => b = M) w w1 ∧ VmB w1 M ((k : Int) + 1) dd) := ⟨o1, m1⟩
      clear HM o1 m1
      go_wp2_with fail
      refine (show Calls Tryz.prog 75 _ _ _ from HN.out _ _ (O1.out.2.keep (by repeat' first | exact (Only.refl _ _) | apply Only.alloc))).mono ?_
      rintro e w2 ⟨rfl, o2, d2, m2, p2, q2⟩
      have O2 : Hid (Only (fun b => b = M) w w2 ∧ VmB w2 M ((k + 1 : Nat) : Int) d2 ∧ 0 ≤ d2 ∧ d2 ≤ 1000) := ⟨O1.out.1.trans (Only.trans (show Only (fun b => b = M) w1 _ by repeat' first | exact (Only.refl _ _) | apply Only.alloc) o2 (fun _ _ g => g)) (fun _ _ g => g), by simpa using m2, p2, q2⟩
      have hs1 := O1.out.1.size
      have x0 : w2.cell? ⟨w1.heap.size + 1, 0, none⟩ = some (.slice ao L cap) := o2.cell (a := ⟨w1.heap.size + 1, 0, none⟩) (by simp [go_sem]) (by have := HL.out; simp only; omega)
      have HC2 : Hid _ := HC.out w2 d2 O2.out.1 O2.out.2.1 HB.out.1 HB.out.2 p2 q2
      clear HN HC o2 m2 p2 q2 O1 hs1
      go_wp2_with fail
      refine (show Calls Tryz.prog 77 _ _ _ from HC2.out).mono ?_
      rintro e w3 ⟨rfl, G3⟩
      have HF : Hid (Only (fun b => b = M) w w3 ∧ (Z = true → ∃ dd' : Int, VmB w3 M ((k + (1 + Y) : Nat) : Int) dd' ∧ 0 ≤ dd' ∧ dd' ≤ 1000)) := ⟨O2.out.1.trans G3.out.1 (fun _ _ g => g), fun hz => by have := G3.out.2 hz; rwa [show k + (1 + Y) = k + 1 + Y by omega]⟩
      clear HC2 G3 O2 x0
      go_wp2
      go_ret
      exact ⟨by simp, HF.out.1, fun h => HF.out.2 (by simpa using h)⟩
    · have e2 : decide ((o : Int) + 1 ≤ 32) = false := decide_eq_false (by omega)
      rw [e2] at HN
      rw [decide_eq_false h2]
      clear e2 h1 HC
      go_enter Tryz.func53, Tryz.ntmps53
      go_wp2_with fail
      refine (show Calls Tryz.prog 74 _ _ _ from HM.out).mono ?_
      rintro e w1 ⟨rfl, o1, m1⟩
      have O1 : Hid (Only (fun b => b = M) w w1 ∧ VmB w1 M ((k : Int) + 1) dd) := ⟨o1, m1⟩
      clear HM o1 m1
      go_wp2_with fail
      refine (show Calls Tryz.prog 75 _ _ _ from HN.out _ _ (O1.out.2.keep (by repeat' first | exact (Only.refl _ _) | apply Only.alloc))).mono ?_
      rintro e w2 ⟨rfl, o2, d2, m2, p2, q2⟩
      have O2 : Hid (Only (fun b => b = M) w w2) := O1.out.1.trans (Only.trans (show Only (fun b => b = M) w1 _ by repeat' first | exact (Only.refl _ _) | apply Only.alloc) o2 (fun _ _ g => g)) (fun _ _ g => g)
      clear HN o2 m2 p2 q2 O1
      go_wp2
      go_ret
      exact ⟨by simp, O2.out, fun h => by simp at h⟩
  · have e1 : decide ((k : Int) + 1 ≤ 1024) = false := decide_eq_false (by omega)
    rw [e1] at HM
    rw [decide_eq_false h1]
    clear e1 HC HN
    go_enter Tryz.func53, Tryz.ntmps53
    go_wp2_with fail
    refine (show Calls Tryz.prog 74 _ _ _ from HM.out).mono ?_
    rintro e w1 ⟨rfl, o1, m1⟩
    have O1 : Hid (Only (fun b => b = M) w w1) := o1
    clear HM o1 m1
    go_wp2
    go_ret
    exact ⟨by simp, O1.out, fun h => by simp at h⟩
end Go.Proofs.YthlloenonjagbaaGreatDoor
namespace Go.Proofs.YthlloenonjagbaaGreatDoor
open Go.RowKit Go.Lib
set_option linter.unusedSimpArgs false
set_option linter.unusedVariables false
abbrev i1v : Value := .iface 59 (.agg #[.int .i64 1])
set_option maxRecDepth 100000 in
theorem vevery_bad (v : Value) (hv : BadV v) (M g : Nat) (k d : Int) (w : World) (h : VmB w M k d) (h1 : 0 ≤ k) (h2 : k < 900) (hgM : g ≠ M) (hg0 : w.cell? ⟨g, 0, none⟩ = some i1v) (hg1 : w.cell? ⟨g, 1, none⟩ = some v) : Calls Tryz.prog 76 #[.slice (some ⟨g, 0, none⟩) 2 2, .func (.func 53) #[.pointer (some ⟨M, 0, none⟩)] #[], .int .i64 1] w fun e w' => e = .returned (.bool false) ∧ Only (fun b => b = M) w w' := by
  have HI : Hid (∀ w1 k d, VmB w1 M k d → 0 ≤ k → k < 1000 → Calls Tryz.prog 53 #[.pointer (some ⟨M, 0, none⟩), i1v, .int .i64 1] w1 fun e w' => e = .returned (.bool true) ∧ Only (fun b => b = M) w1 w' ∧ VmB w' M (k + 1) d) := fun w1 k d => vval_int 1 (by omega) (by omega) M k d 1 w1
  have HV : Hid (∀ w1 k d, VmB w1 M k d → 0 ≤ k → k < 1000 → Calls Tryz.prog 53 #[.pointer (some ⟨M, 0, none⟩), v, .int .i64 1] w1 fun e w' => e = .returned (.bool false) ∧ Only (fun b => b = M) w1 w') := fun w1 k d => vval_bad v hv M k d 1 w1
  have HM : Hid (VmB w M k d) := h
  clear h hv
  go_enter Tryz.func76, Tryz.ntmps76
  go_wp2
  go_loopw [11] (fun r wr => ∃ i : Int, r = .int .i64 i ∧ ((i = 0 ∧ Hid (wr = w)) ∨ (i = 1 ∧ Hid (Only (fun b => b = M) w wr ∧ VmB wr M (k + 1) d)))) (fun r _ => 1 - uOf r)
  case atStart => exact ⟨0, rfl, .inl ⟨rfl, rfl⟩⟩
  case round =>
    obtain ⟨i, rfl, hi⟩ := hrel
    rcases hi with ⟨rfl, HW⟩ | ⟨rfl, HO⟩
    · obtain rfl := HW.out
      go_wp2_with fail
      refine (show Calls Tryz.prog 53 _ _ _ from HI.out _ _ _ HM.out h1 (by omega)).mono ?_
      rintro e w2 ⟨rfl, o2⟩
      have O2 : Hid (Only (fun b => b = M) wr w2 ∧ VmB w2 M (k + 1) d) := o2
      clear HI o2 HV HM hg0 hg1 HW
      go_wp2
      go_roundw
      case rel => exact ⟨1, rfl, .inr ⟨rfl, O2⟩⟩
      case measure => simp [uOf]
    · have hg2 := HO.out.1.cell hg1 (fun h => hgM h)
      have i2 : (0 : Int) ≤ k + 1 := by omega
      have i3 : k + 1 < 1000 := by omega
      clear hg0 hg1
      go_wp2_with fail
      refine (show Calls Tryz.prog 53 _ _ _ from HV.out _ _ _ HO.out.2 i2 i3).mono ?_
      rintro e w2 ⟨rfl, o2⟩
      have O2 : Hid (Only (fun b => b = M) w w2) := HO.out.1.trans o2 (fun _ _ g => g)
      clear o2 HI HV HM
      go_wp2
      go_ret
      exact ⟨rfl, O2.out⟩
end Go.Proofs.YthlloenonjagbaaGreatDoor
