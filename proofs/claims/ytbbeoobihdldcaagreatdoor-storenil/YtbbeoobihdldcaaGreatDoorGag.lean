/-             -/
import Derived.Test.YtbbeoobihdldcaaGreatDoorGaf
import Derived.Laws.StructEq
import Derived.Test.YtbbeoobihdldcaaGreatDoorGac
import Derived.Test.YtbbeoobihdldcaaGreatDoorRows
import Derived.RangeFuncNested
import Derived.RangeFuncBound
import Derived.RangeFuncCalls
import Derived.RangeFuncLeaves
import Derived.RangeFuncBox
import Derived.Shelf.Abstract
import Derived.Shelf.RegionOpen
import Derived.OwnWalkIn
import Derived.TacticsInMore
import Derived.LoopNIn
import Derived.LoopIn
namespace Go.Proofs.YtbbeoobihdldcaaGreatDoor
open Go.RowKit Go.Lib
set_option linter.unusedSimpArgs false
set_option linter.unusedVariables false
theorem ms_list (d : Nat) (t : Vt) (k o : Nat) (hk : t.k = 4 ∨ t.k = 5) : msB (d + 1) false t k o = (decide (k + 1 ≤ 1024) && decide (o + 1 ≤ 32) && evB d (decide (t.k = 5)) t.l (k + 1) (o + 1)) := by
 have h1 : okV (d + 1) false t = t.l.all (okV d (decide (t.k = 5))) := by unfold okV; rw [if_pos hk]
 have h2 : sz (d + 1) false t = 1 + (t.l.map (sz d (decide (t.k = 5)))).sum := by unfold sz; rfl
 have h3 : dp (d + 1) false t = 1 + ((t.l.map (dp d (decide (t.k = 5)))).foldl max 0) := by unfold dp; rw [if_pos hk]
 unfold msB
 rw [h1, h2, h3]
 by_cases a1 : k + 1 ≤ 1024
 ·by_cases a2 : o + 1 ≤ 32
  ·rw [evB_eq _ _ _ _ _ a1 a2, decide_eq_true a1, decide_eq_true a2]
   rw [show k + (1 + (t.l.map (sz d (decide (t.k = 5)))).sum) = k + 1 + (t.l.map (sz d (decide (t.k = 5)))).sum by omega, show o + (1 + (t.l.map (dp d (decide (t.k = 5)))).foldl max 0) = o + 1 + (t.l.map (dp d (decide (t.k = 5)))).foldl max 0 by omega]
   simp
  ·rw [decide_eq_false a2, decide_eq_false (show ¬ o + (1 + (t.l.map (dp d (decide (t.k = 5)))).foldl max 0) ≤ 32 by omega)]
   simp
 ·rw [decide_eq_false a1, decide_eq_false (show ¬ k + (1 + (t.l.map (sz d (decide (t.k = 5)))).sum) ≤ 1024 by omega)]
  simp
set_option maxRecDepth 100000 in
set_option maxHeartbeats 4000000 in
theorem mlist (d : Nat) (H : EvC d false 165 153) (t : Vt) (v : Value) (w : World) (S : Nat → Prop) (M k o : Nat) (dd : Int) (h : TiAt w S (d + 1) false t v) (hk4 : t.k = 4) (hM : ∀ b, S b → b ≠ M) (hsm : ∃ e, SmT e t) (hv : VmB w M k dd) (hk : k ≤ 1024) (hd1 : (o : Int) ≤ dd) (hd2 : dd ≤ 1000) (ho : o ≤ 32) (hT : Tb w) (hg : Mg M) :
  Calls Tryz.prog 153 #[.pointer (some ⟨M, 0, none⟩), v, .int .i64 (o : Int)] w fun e w' => e = .returned (.bool (msB (d + 1) false t k o)) ∧ Hid (Only (fun b => b = M) w w' ∧ (msB (d + 1) false t k o = true → ∃ dd' : Int, VmB w' M ((k + sz (d + 1) false t : Nat) : Int) dd' ∧ dd' = max dd ((o + dp (d + 1) false t : Nat) : Int) ∧ dd' ≤ 1000)) := by
 have hk45 : t.k = 4 ∨ t.k = 5 := by omega
 obtain ⟨ao, cap, rfl, hcap, hel⟩ : ∃ ao cap, v = .iface 82 (.agg #[.slice ao t.l.length cap]) ∧ t.l.length ≤ cap ∧ ∀ i x, t.l[i]? = some x → ∃ g k u, ao = some ⟨g, k, none⟩ ∧ S g ∧ w.cell? ⟨g, k + i, none⟩ = some u ∧ TiAt w S d false x u := by
  rcases h with ⟨e, _⟩ | ⟨e, _⟩ | ⟨e, _⟩ | ⟨e, _⟩ | ⟨e, _⟩ | ⟨_, ao, cap, h1, h2, h3⟩
  ·omega
  ·omega
  ·omega
  ·omega
  ·omega
  ·rw [hk4] at h1 h3
   exact ⟨ao, cap, h1, h2, h3⟩
 have hms := ms_list d t k o hk45
 rw [show decide (t.k = 5) = false by rw [hk4]; rfl] at hms
 have hdp : dp (d + 1) false t = 1 + (t.l.map (dp d false)).foldl max 0 := by unfold dp; rw [if_pos hk45, show decide (t.k = 5) = false by rw [hk4]; rfl]
 have hsz : sz (d + 1) false t = 1 + (t.l.map (sz d false)).sum := by unfold sz; rw [show decide (t.k = 5) = false by rw [hk4]; rfl]
 have HM : Hid _ := vcount_all M k dd w hv (by omega) (by omega)
 have HN : Hid (∀ w1 (k1 : Int), VmB w1 M k1 dd → Calls Tryz.prog 164 #[.pointer (some ⟨M, 0, none⟩), .int .i64 ((o : Int) + 1)] w1 fun e w' => e = .returned (.bool (decide ((o : Int) + 1 ≤ 32))) ∧ Only (fun b => b = M) w1 w' ∧ ∃ d', VmB w' M k1 d' ∧ d' = max dd ((o : Int) + 1) ∧ d' ≤ 1000) := fun w1 k1 hv1 => venter_all M k1 dd ((o : Int) + 1) w1 hv1 (by omega) hd2 (by omega) (by omega)
 have HC : Hid (∀ w1 (dd1 : Int), Only (fun b => b = M) w w1 → VmB w1 M ((k + 1 : Nat) : Int) dd1 → k + 1 ≤ 1024 → o + 1 ≤ 32 → ((o + 1 : Nat) : Int) ≤ dd1 → dd1 ≤ 1000 → Calls Tryz.prog 165 #[.slice ao t.l.length cap, .func (.func 153) #[.pointer (some ⟨M, 0, none⟩)] #[], .int .i64 ((o + 1 : Nat) : Int)] w1 fun e w' => e = .returned (.bool (evB d false t.l (k + 1) (o + 1))) ∧ Hid (Only (fun b => b = M) w1 w' ∧ (evB d false t.l (k + 1) (o + 1) = true → ∃ dd' : Int, VmB w' M ((k + 1 + (t.l.map (sz d false)).sum : Nat) : Int) dd' ∧ dd' = max dd1 ((o + 1 + (t.l.map (dp d false)).foldl max 0 : Nat) : Int) ∧ dd' ≤ 1000))) := by
  intro w1 dd1 o1 hv1 hk1 ho1 h1 h2
  refine H t.l ao cap w1 S M (k + 1) (o + 1) dd1 (fun j x hx => ?_) hM (by obtain ⟨e, he⟩ := hsm; exact he.parts) (by obtain ⟨e, he⟩ := hsm; exact he.len) hv1 hk1 h1 h2 ho1 (hT.keep o1 hg.1 hg.2.1 hg.2.2) hg
  obtain ⟨g, q, u, p1, p2, p3, p4⟩ := hel j x hx
  exact ⟨g, q, u, p1, p2, o1.cell p3 (hM g p2), p4.only o1 (fun b hb => hM b hb)⟩
 have HL : Hid (M < w.heap.size) := (Array.getElem?_eq_some_iff.1 hv).1
 have hHit := va_hit 82 24 _ Tryz.underlying82 (by intro m h; cases h)
 rw [hms, hsz, hdp]
 obtain ⟨L, hL⟩ : ∃ L, L = t.l.length := ⟨_, rfl⟩
 obtain ⟨Y, hY⟩ : ∃ Y, Y = (t.l.map (sz d false)).sum := ⟨_, rfl⟩
 obtain ⟨F, hF⟩ : ∃ F, F = (t.l.map (dp d false)).foldl max 0 := ⟨_, rfl⟩
 obtain ⟨Z, hZ⟩ : ∃ Z, Z = evB d false t.l (k + 1) (o + 1) := ⟨_, rfl⟩
 rw [← hL, ← hY, ← hZ, ← hF] at HC
 rw [← hL, ← hY, ← hZ, ← hF]
 clear hL hY hZ hF hdp h hk4 hM hsm hv hd1 hd2 hT hg hel hcap hms hsz H hk45
 by_cases h1 : k + 1 ≤ 1024
 ·have e1 : decide ((k : Int) + 1 ≤ 1024) = true := decide_eq_true (by omega)
  rw [e1] at HM
  rw [decide_eq_true h1]
  clear e1
  by_cases h2 : o + 1 ≤ 32
  ·have e2 : decide ((o : Int) + 1 ≤ 32) = true := decide_eq_true (by omega)
   rw [e2] at HN
   rw [decide_eq_true h2]
   have HB : Hid (k + 1 ≤ 1024 ∧ o + 1 ≤ 32) := ⟨h1, h2⟩
   clear e2 h1
   go_enter Tryz.func153, Tryz.ntmps153
   go_wp2_with fail
   refine (show Calls Tryz.prog 163 _ _ _ from HM.out).mono ?_
   rintro e w1 ⟨rfl, o1, m1⟩
   have O1 : Hid (Only (fun b => b = M) w w1 ∧ VmB w1 M ((k : Int) + 1) dd) := ⟨o1, m1⟩
   clear HM o1 m1
   go_wp2_with fail
   refine (show Calls Tryz.prog 164 _ _ _ from HN.out _ _ (O1.out.2.keep (by repeat' first | exact (Only.refl _ _) | apply Only.alloc))).mono ?_
   rintro e w2 ⟨rfl, o2, d2, m2, p2, q2⟩
   have O2 : Hid (Only (fun b => b = M) w w2 ∧ VmB w2 M ((k + 1 : Nat) : Int) d2 ∧ d2 = max dd ((o : Int) + 1) ∧ d2 ≤ 1000) := ⟨O1.out.1.trans (Only.trans (show Only (fun b => b = M) w1 _ by repeat' first | exact (Only.refl _ _) | apply Only.alloc) o2 (fun _ _ g => g)) (fun _ _ g => g), by simpa using m2, p2, q2⟩
   have hs1 := O1.out.1.size
   have x0 : w2.cell? ⟨w1.heap.size, 0, none⟩ = some (.slice ao L cap) := o2.cell (a := ⟨w1.heap.size, 0, none⟩) (by simp [go_sem]) (by have := HL.out; simp only; omega)
   have HC2 : Hid _ := HC.out w2 d2 O2.out.1 O2.out.2.1 HB.out.1 HB.out.2 (by rw [p2]; omega) q2
   clear HN HC o2 m2 p2 q2 O1 hs1
   go_wp2_with fail
   refine (show Calls Tryz.prog 165 _ _ _ from HC2.out).mono ?_
   rintro e w3 ⟨rfl, G3⟩
   have HF : Hid (Only (fun b => b = M) w w3 ∧ (Z = true → ∃ dd' : Int, VmB w3 M ((k + (1 + Y) : Nat) : Int) dd' ∧ dd' = max dd ((o + (1 + F) : Nat) : Int) ∧ dd' ≤ 1000)) := ⟨O2.out.1.trans G3.out.1 (fun _ _ g => g), fun hz => by
    obtain ⟨q, q1, q2, q3⟩ := G3.out.2 hz
    refine ⟨q, by rwa [show k + (1 + Y) = k + 1 + Y by omega], ?_, q3⟩
    rw [q2, O2.out.2.2.1]
    omega⟩
   clear HC2 G3 O2 x0
   go_wp2
   go_ret
   exact ⟨by simp, HF.out.1, fun h => HF.out.2 (by simpa using h)⟩
  ·have e2 : decide ((o : Int) + 1 ≤ 32) = false := decide_eq_false (by omega)
   rw [e2] at HN
   rw [decide_eq_false h2]
   clear e2 h1 HC
   go_enter Tryz.func153, Tryz.ntmps153
   go_wp2_with fail
   refine (show Calls Tryz.prog 163 _ _ _ from HM.out).mono ?_
   rintro e w1 ⟨rfl, o1, m1⟩
   have O1 : Hid (Only (fun b => b = M) w w1 ∧ VmB w1 M ((k : Int) + 1) dd) := ⟨o1, m1⟩
   clear HM o1 m1
   go_wp2_with fail
   refine (show Calls Tryz.prog 164 _ _ _ from HN.out _ _ (O1.out.2.keep (by repeat' first | exact (Only.refl _ _) | apply Only.alloc))).mono ?_
   rintro e w2 ⟨rfl, o2, d2, m2, p2, q2⟩
   have O2 : Hid (Only (fun b => b = M) w w2) := O1.out.1.trans (Only.trans (show Only (fun b => b = M) w1 _ by repeat' first | exact (Only.refl _ _) | apply Only.alloc) o2 (fun _ _ g => g)) (fun _ _ g => g)
   clear HN o2 m2 p2 q2 O1
   go_wp2
   go_ret
   exact ⟨by simp, O2.out, fun h => by simp at h⟩
 ·have e1 : decide ((k : Int) + 1 ≤ 1024) = false := decide_eq_false (by omega)
  rw [e1] at HM
  rw [decide_eq_false h1]
  clear e1 HC HN
  go_enter Tryz.func153, Tryz.ntmps153
  go_wp2_with fail
  refine (show Calls Tryz.prog 163 _ _ _ from HM.out).mono ?_
  rintro e w1 ⟨rfl, o1, m1⟩
  have O1 : Hid (Only (fun b => b = M) w w1) := o1
  clear HM o1 m1
  go_wp2
  go_ret
  exact ⟨by simp, O1.out, fun h => by simp at h⟩
set_option maxRecDepth 100000 in
set_option maxHeartbeats 4000000 in
theorem mquot (d : Nat) (H : EvC d true 166 167) (t : Vt) (v : Value) (w : World) (S : Nat → Prop) (M k o : Nat) (dd : Int) (h : TiAt w S (d + 1) false t v) (hk4 : t.k = 5) (hM : ∀ b, S b → b ≠ M) (hsm : ∃ e, SmT e t) (hv : VmB w M k dd) (hk : k ≤ 1024) (hd1 : (o : Int) ≤ dd) (hd2 : dd ≤ 1000) (ho : o ≤ 32) (hT : Tb w) (hg : Mg M) :
  Calls Tryz.prog 153 #[.pointer (some ⟨M, 0, none⟩), v, .int .i64 (o : Int)] w fun e w' => e = .returned (.bool (msB (d + 1) false t k o)) ∧ Hid (Only (fun b => b = M) w w' ∧ (msB (d + 1) false t k o = true → ∃ dd' : Int, VmB w' M ((k + sz (d + 1) false t : Nat) : Int) dd' ∧ dd' = max dd ((o + dp (d + 1) false t : Nat) : Int) ∧ dd' ≤ 1000)) := by
 have hk45 : t.k = 4 ∨ t.k = 5 := by omega
 obtain ⟨ao, cap, rfl, hcap, hel⟩ : ∃ ao cap, v = .iface 89 (.agg #[.slice ao t.l.length cap]) ∧ t.l.length ≤ cap ∧ ∀ i x, t.l[i]? = some x → ∃ g k u, ao = some ⟨g, k, none⟩ ∧ S g ∧ w.cell? ⟨g, k + i, none⟩ = some u ∧ TiAt w S d true x u := by
  rcases h with ⟨e, _⟩ | ⟨e, _⟩ | ⟨e, _⟩ | ⟨e, _⟩ | ⟨e, _⟩ | ⟨_, ao, cap, h1, h2, h3⟩
  ·omega
  ·omega
  ·omega
  ·omega
  ·omega
  ·rw [hk4] at h1 h3
   exact ⟨ao, cap, h1, h2, h3⟩
 have hms := ms_list d t k o hk45
 rw [show decide (t.k = 5) = true by rw [hk4]; rfl] at hms
 have hdp : dp (d + 1) false t = 1 + (t.l.map (dp d true)).foldl max 0 := by unfold dp; rw [if_pos hk45, show decide (t.k = 5) = true by rw [hk4]; rfl]
 have hsz : sz (d + 1) false t = 1 + (t.l.map (sz d true)).sum := by unfold sz; rw [show decide (t.k = 5) = true by rw [hk4]; rfl]
 have HM : Hid _ := vcount_all M k dd w hv (by omega) (by omega)
 have HN : Hid (∀ w1 (k1 : Int), VmB w1 M k1 dd → Calls Tryz.prog 164 #[.pointer (some ⟨M, 0, none⟩), .int .i64 ((o : Int) + 1)] w1 fun e w' => e = .returned (.bool (decide ((o : Int) + 1 ≤ 32))) ∧ Only (fun b => b = M) w1 w' ∧ ∃ d', VmB w' M k1 d' ∧ d' = max dd ((o : Int) + 1) ∧ d' ≤ 1000) := fun w1 k1 hv1 => venter_all M k1 dd ((o : Int) + 1) w1 hv1 (by omega) hd2 (by omega) (by omega)
 have HC : Hid (∀ w1 (dd1 : Int), Only (fun b => b = M) w w1 → VmB w1 M ((k + 1 : Nat) : Int) dd1 → k + 1 ≤ 1024 → o + 1 ≤ 32 → ((o + 1 : Nat) : Int) ≤ dd1 → dd1 ≤ 1000 → Calls Tryz.prog 166 #[.slice ao t.l.length cap, .func (.func 167) #[.pointer (some ⟨M, 0, none⟩)] #[], .int .i64 ((o + 1 : Nat) : Int)] w1 fun e w' => e = .returned (.bool (evB d true t.l (k + 1) (o + 1))) ∧ Hid (Only (fun b => b = M) w1 w' ∧ (evB d true t.l (k + 1) (o + 1) = true → ∃ dd' : Int, VmB w' M ((k + 1 + (t.l.map (sz d true)).sum : Nat) : Int) dd' ∧ dd' = max dd1 ((o + 1 + (t.l.map (dp d true)).foldl max 0 : Nat) : Int) ∧ dd' ≤ 1000))) := by
  intro w1 dd1 o1 hv1 hk1 ho1 h1 h2
  refine H t.l ao cap w1 S M (k + 1) (o + 1) dd1 (fun j x hx => ?_) hM (by obtain ⟨e, he⟩ := hsm; exact he.parts) (by obtain ⟨e, he⟩ := hsm; exact he.len) hv1 hk1 h1 h2 ho1 (hT.keep o1 hg.1 hg.2.1 hg.2.2) hg
  obtain ⟨g, q, u, p1, p2, p3, p4⟩ := hel j x hx
  exact ⟨g, q, u, p1, p2, o1.cell p3 (hM g p2), p4.only o1 (fun b hb => hM b hb)⟩
 have HL : Hid (M < w.heap.size) := (Array.getElem?_eq_some_iff.1 hv).1
 have hMiss := va_miss 89 82 24 _ Tryz.underlying82 (by intro m h; cases h) (by decide) _ zL
 have hHit := va_hit 89 24 _ Tryz.underlying89 (by intro m h; cases h)
 rw [hms, hsz, hdp]
 obtain ⟨L, hL⟩ : ∃ L, L = t.l.length := ⟨_, rfl⟩
 obtain ⟨Y, hY⟩ : ∃ Y, Y = (t.l.map (sz d true)).sum := ⟨_, rfl⟩
 obtain ⟨F, hF⟩ : ∃ F, F = (t.l.map (dp d true)).foldl max 0 := ⟨_, rfl⟩
 obtain ⟨Z, hZ⟩ : ∃ Z, Z = evB d true t.l (k + 1) (o + 1) := ⟨_, rfl⟩
 rw [← hL, ← hY, ← hZ, ← hF] at HC
 rw [← hL, ← hY, ← hZ, ← hF]
 clear hL hY hZ hF hdp h hk4 hM hsm hv hd1 hd2 hT hg hel hcap hms hsz H hk45
 by_cases h1 : k + 1 ≤ 1024
 ·have e1 : decide ((k : Int) + 1 ≤ 1024) = true := decide_eq_true (by omega)
  rw [e1] at HM
  rw [decide_eq_true h1]
  clear e1
  by_cases h2 : o + 1 ≤ 32
  ·have e2 : decide ((o : Int) + 1 ≤ 32) = true := decide_eq_true (by omega)
   rw [e2] at HN
   rw [decide_eq_true h2]
   have HB : Hid (k + 1 ≤ 1024 ∧ o + 1 ≤ 32) := ⟨h1, h2⟩
   clear e2 h1
   go_enter Tryz.func153, Tryz.ntmps153
   go_wp2_with fail
   refine (show Calls Tryz.prog 163 _ _ _ from HM.out).mono ?_
   rintro e w1 ⟨rfl, o1, m1⟩
   have O1 : Hid (Only (fun b => b = M) w w1 ∧ VmB w1 M ((k : Int) + 1) dd) := ⟨o1, m1⟩
   clear HM o1 m1
   go_wp2_with fail
   refine (show Calls Tryz.prog 164 _ _ _ from HN.out _ _ (O1.out.2.keep (by repeat' first | exact (Only.refl _ _) | apply Only.alloc))).mono ?_
   rintro e w2 ⟨rfl, o2, d2, m2, p2, q2⟩
   have O2 : Hid (Only (fun b => b = M) w w2 ∧ VmB w2 M ((k + 1 : Nat) : Int) d2 ∧ d2 = max dd ((o : Int) + 1) ∧ d2 ≤ 1000) := ⟨O1.out.1.trans (Only.trans (show Only (fun b => b = M) w1 _ by repeat' first | exact (Only.refl _ _) | apply Only.alloc) o2 (fun _ _ g => g)) (fun _ _ g => g), by simpa using m2, p2, q2⟩
   have hs1 := O1.out.1.size
   have x0 : w2.cell? ⟨w1.heap.size + 1, 0, none⟩ = some (.slice ao L cap) := o2.cell (a := ⟨w1.heap.size + 1, 0, none⟩) (by simp [go_sem]) (by have := HL.out; simp only; omega)
   have HC2 : Hid _ := HC.out w2 d2 O2.out.1 O2.out.2.1 HB.out.1 HB.out.2 (by rw [p2]; omega) q2
   clear HN HC o2 m2 p2 q2 O1 hs1
   go_wp2_with fail
   refine (show Calls Tryz.prog 166 _ _ _ from HC2.out).mono ?_
   rintro e w3 ⟨rfl, G3⟩
   have HF : Hid (Only (fun b => b = M) w w3 ∧ (Z = true → ∃ dd' : Int, VmB w3 M ((k + (1 + Y) : Nat) : Int) dd' ∧ dd' = max dd ((o + (1 + F) : Nat) : Int) ∧ dd' ≤ 1000)) := ⟨O2.out.1.trans G3.out.1 (fun _ _ g => g), fun hz => by
    obtain ⟨q, q1, q2, q3⟩ := G3.out.2 hz
    refine ⟨q, by rwa [show k + (1 + Y) = k + 1 + Y by omega], ?_, q3⟩
    rw [q2, O2.out.2.2.1]
    omega⟩
   clear HC2 G3 O2 x0
   go_wp2
   go_ret
   exact ⟨by simp, HF.out.1, fun h => HF.out.2 (by simpa using h)⟩
  ·have e2 : decide ((o : Int) + 1 ≤ 32) = false := decide_eq_false (by omega)
   rw [e2] at HN
   rw [decide_eq_false h2]
   clear e2 h1 HC
   go_enter Tryz.func153, Tryz.ntmps153
   go_wp2_with fail
   refine (show Calls Tryz.prog 163 _ _ _ from HM.out).mono ?_
   rintro e w1 ⟨rfl, o1, m1⟩
   have O1 : Hid (Only (fun b => b = M) w w1 ∧ VmB w1 M ((k : Int) + 1) dd) := ⟨o1, m1⟩
   clear HM o1 m1
   go_wp2_with fail
   refine (show Calls Tryz.prog 164 _ _ _ from HN.out _ _ (O1.out.2.keep (by repeat' first | exact (Only.refl _ _) | apply Only.alloc))).mono ?_
   rintro e w2 ⟨rfl, o2, d2, m2, p2, q2⟩
   have O2 : Hid (Only (fun b => b = M) w w2) := O1.out.1.trans (Only.trans (show Only (fun b => b = M) w1 _ by repeat' first | exact (Only.refl _ _) | apply Only.alloc) o2 (fun _ _ g => g)) (fun _ _ g => g)
   clear HN o2 m2 p2 q2 O1
   go_wp2
   go_ret
   exact ⟨by simp, O2.out, fun h => by simp at h⟩
 ·have e1 : decide ((k : Int) + 1 ≤ 1024) = false := decide_eq_false (by omega)
  rw [e1] at HM
  rw [decide_eq_false h1]
  clear e1 HC HN
  go_enter Tryz.func153, Tryz.ntmps153
  go_wp2_with fail
  refine (show Calls Tryz.prog 163 _ _ _ from HM.out).mono ?_
  rintro e w1 ⟨rfl, o1, m1⟩
  have O1 : Hid (Only (fun b => b = M) w w1) := o1
  clear HM o1 m1
  go_wp2
  go_ret
  exact ⟨by simp, O1.out, fun h => by simp at h⟩
end Go.Proofs.YtbbeoobihdldcaaGreatDoor
namespace Go.Proofs.YtbbeoobihdldcaaGreatDoor
open Go.RowKit Go.Lib
set_option linter.unusedSimpArgs false
set_option linter.unusedVariables false
abbrev i1v : Value := .iface 36 (.agg #[.int .i64 1])
end Go.Proofs.YtbbeoobihdldcaaGreatDoor
namespace Go.Proofs.YtbbeoobihdldcaaGreatDoor
open Go.RowKit Go.Lib
set_option linter.unusedSimpArgs false
set_option linter.unusedVariables false
def BadI (v : Value) : Prop :=
 (∃ u, v = .iface 148 (.agg #[u]) ∧ BadV u) ∨ ((∀ W : World, (Instr.typeAssert v 86 148 true).run Tryz.prog W = .ok (.tuple #[.agg #[.nilIface], .bool false]) W) ∧ (∀ W : World, (Instr.typeAssert v 86 146 true).run Tryz.prog W = .ok (.tuple #[.agg #[.string ByteArray.empty], .bool false]) W))
def BadW (w : World) (x : Value) : Prop :=
 BadV x ∨ (∃ g v, x = .iface 82 (.agg #[.slice (some ⟨g, 0, none⟩) 2 2]) ∧ BadV v ∧ w.cell? ⟨g, 0, none⟩ = some i1v ∧ w.cell? ⟨g, 1, none⟩ = some v) ∨ (∃ g v, x = .iface 89 (.agg #[.slice (some ⟨g, 0, none⟩) 1 1]) ∧ BadI v ∧ w.cell? ⟨g, 0, none⟩ = some v)
theorem BadW.one {w : World} (v : Value) (h : BadV v) : BadW w v := .inl h
theorem BadW.list {w : World} (g : Nat) (v : Value) (h : BadV v) (hg0 : w.cell? ⟨g, 0, none⟩ = some i1v) (hg1 : w.cell? ⟨g, 1, none⟩ = some v) : BadW w (.iface 82 (.agg #[.slice (some ⟨g, 0, none⟩) 2 2])) := .inr (.inl ⟨g, v, rfl, h, hg0, hg1⟩)
end Go.Proofs.YtbbeoobihdldcaaGreatDoor
namespace Go.Proofs.YtbbeoobihdldcaaGreatDoor
open Go.RowKit Go.Lib
set_option linter.unusedSimpArgs false
set_option linter.unusedVariables false
theorem results_two {fn : Func} {t u : Tmp} (h : fn.results = #[.cell u 196, .tmp t]) (tmps : Array Value) (w : World) (B : Nat) {x y : Value} (h0 : w.cell? ⟨B, 0, none⟩ = some x) (h1 : w.cell? ⟨B, 1, none⟩ = some y) (ha : tmps.getD u undef = .pointer (some ⟨B, 0, none⟩)) :
  (results fn tmps).run Tryz.prog w = .ok (.tuple #[.agg #[x, y], tmps.getD t undef]) w := by
 have ha' : tmps[u]?.getD undef = .pointer (some ⟨B, 0, none⟩) := by simpa using ha
 simp [results, h, ha', asAddr, go_sem, loadVar, isAgg, Tryz.underlying196, h0, h1]
theorem set2 {w : World} {B : Nat} {x0 y0 : Value} (h0 : w.cell? ⟨B, 0, none⟩ = some x0) (h1 : w.cell? ⟨B, 1, none⟩ = some y0) (x y : Value) :
  ((w.setCell ⟨B, 0, none⟩ x).setCell ⟨B, 1, none⟩ y).cell? ⟨B, 0, none⟩ = some x ∧ ((w.setCell ⟨B, 0, none⟩ x).setCell ⟨B, 1, none⟩ y).cell? ⟨B, 1, none⟩ = some y := by
 have ne : ∀ (W : World) (i j : Nat) (v : Value), i ≠ j → (W.setCell ⟨B, i, none⟩ v).cell? ⟨B, j, none⟩ = W.cell? ⟨B, j, none⟩ := fun W i j v g => by apply World.cell?_setCell_other; intro e; exact g (by injection e)
 refine ⟨?_, ?_⟩
 ·rw [ne _ 1 0 _ (by omega)]
  exact World.cell?_setCell_same' _ _ _ (by rw [h0]; rfl)
 ·exact World.cell?_setCell_same' _ _ _ (by rw [ne _ 0 1 _ (by omega), h1]; rfl)
end Go.Proofs.YtbbeoobihdldcaaGreatDoor
namespace Go.Proofs.YtbbeoobihdldcaaGreatDoor
open Go.RowKit Go.Lib
set_option linter.unusedSimpArgs false
set_option linter.unusedVariables false
theorem nilP (W : World) : (Instr.typeAssert .nilIface 86 148 true).run Tryz.prog W = .ok (.tuple #[.agg #[.nilIface], .bool false]) W := by kernel_rfl
theorem nilC (W : World) : (Instr.typeAssert .nilIface 86 146 true).run Tryz.prog W = .ok (.tuple #[.agg #[.string ⟨#[]⟩], .bool false]) W := by kernel_rfl
set_option maxRecDepth 100000 in
set_option maxHeartbeats 4000000 in
theorem mitem (d : Nat) (H : MsC d false 153) : MsC (d + 1) true 167 := by
 intro t v w S M k o dd h hM hsm hv hk hd1 hd2 ho hT hg
 rcases h with ⟨h7, hl, rfl⟩ | ⟨h8, hl, rfl⟩ | ⟨h7, h8, u, rfl, hu⟩
 ·have hms : msB (d + 1) true t k o = (decide (k + 1 ≤ 1024) && clB t.s) := by
   unfold msB okV sz dp
   rw [if_pos h7, if_pos (.inl h7), if_pos (.inl h7), decide_eq_true (show o + 0 ≤ 32 by omega), Bool.and_true, Bool.and_comm]
  have hsz : sz (d + 1) true t = 1 := by unfold sz; rw [if_pos (.inl h7)]
  have hdp : dp (d + 1) true t = 0 := by unfold dp; rw [if_pos (.inl h7)]
  have mP := va_miss 146 148 86 _ Tryz.underlying148 (by intro m h; cases h) (by decide) _ vzero_Push
  have hC := va_hit 146 86 _ Tryz.underlying146 (by intro m h; cases h)
  have HM : Hid (∀ w1, Only (fun _ => False) w w1 → Calls Tryz.prog 163 #[.pointer (some ⟨M, 0, none⟩)] w1 fun e w' => e = .returned (.bool (decide ((k : Int) + 1 ≤ 1024))) ∧ Only (fun b => b = M) w1 w' ∧ VmB w' M ((k : Int) + 1) dd) := fun w1 o1 => vcount_all M k dd w1 (hv.keep o1) (by omega) (by omega)
  have HA : Hid (∀ w1, Only (fun b => b = M) w w1 → Calls Tryz.prog 170 #[.agg #[.string t.s]] w1 fun e w' => e = .returned (.bool (clB t.s)) ∧ Only (fun _ => False) w1 w') := fun w1 o1 => vcallable_any t.s w1 (hT.keep o1 hg.1 hg.2.1 hg.2.2).1
  have HD : Hid (dd = max dd ((o + 0 : Nat) : Int) ∧ dd ≤ 1000 ∧ M < w.heap.size) := ⟨by omega, hd2, (Array.getElem?_eq_some_iff.1 hv).1⟩
  have O0 : Hid (Only (fun _ => False) w w) := Only.refl _ _
  rw [hms, hsz, hdp]
  clear hdp
  obtain ⟨a, ha⟩ : ∃ a, a = clB t.s := ⟨_, rfl⟩
  obtain ⟨s, hs⟩ : ∃ s, s = t.s := ⟨_, rfl⟩
  rw [← ha] at HA ⊢
  rw [← hs] at HA ⊢
  clear hM hsm hv hd1 hd2 ho hT hg hsz hms ha hs hl h7 H
  by_cases h1 : k + 1 ≤ 1024
  ·have e1 : decide ((k : Int) + 1 ≤ 1024) = true := decide_eq_true (by omega)
   rw [e1] at HM
   rw [decide_eq_true h1]
   clear e1
   go_enter Tryz.func167, Tryz.ntmps167
   go_wp2_with fail
   refine (show Calls Tryz.prog 163 _ _ _ from HM.out _ (by repeat' first | exact O0.out | apply Only.alloc)).mono ?_
   rintro e w1 ⟨rfl, o1, m1⟩
   have O1 : Hid (Only (fun b => b = M) w w1 ∧ VmB w1 M ((k : Int) + 1) dd) := ⟨Only.trans (show Only (fun b => b = M) w _ by repeat' first | exact (Only.refl _ _) | apply Only.alloc) o1 (fun _ _ g => g), m1⟩
   have x0 : w1.cell? ⟨w.heap.size + 1, 0, none⟩ = some (.string s) := o1.cell (a := ⟨w.heap.size + 1, 0, none⟩) (by simp [go_sem]) (by have := HD.out; simp only; omega)
   have HA1 : Hid _ := HA.out w1 O1.out.1
   clear HM o1 m1 HA
   go_wp2_with fail
   refine (show Calls Tryz.prog 170 _ _ _ from HA1.out).mono ?_
   rintro e w2 ⟨rfl, o2⟩
   have HF : Hid (Only (fun b => b = M) w w2 ∧ VmB w2 M ((k + 1 : Nat) : Int) dd) := ⟨O1.out.1.trans (o2.mono (bs' := fun b => b = M) (fun _ _ g => g.elim)) (fun _ _ g => g), by have := O1.out.2.keep o2; simpa using this⟩
   clear HA1 o2 O1 x0
   go_wp2
   go_ret
   exact ⟨by simp, HF.out.1, fun _ => ⟨dd, HF.out.2, HD.out.1, HD.out.2.1⟩⟩
  ·have e1 : decide ((k : Int) + 1 ≤ 1024) = false := decide_eq_false (by omega)
   rw [e1] at HM
   rw [decide_eq_false h1]
   clear e1 HA
   go_enter Tryz.func167, Tryz.ntmps167
   go_wp2_with fail
   refine (show Calls Tryz.prog 163 _ _ _ from HM.out _ (by repeat' first | exact O0.out | apply Only.alloc)).mono ?_
   rintro e w1 ⟨rfl, o1, m1⟩
   have O1 : Hid (Only (fun b => b = M) w w1) := Only.trans (show Only (fun b => b = M) w _ by repeat' first | exact (Only.refl _ _) | apply Only.alloc) o1 (fun _ _ g => g)
   clear HM o1 m1
   go_wp2
   go_ret
   exact ⟨by simp, O1.out, fun h => by simp at h⟩
 ·have hms : msB (d + 1) true t k o = false := by
   unfold msB okV
   rw [if_neg (by omega), if_pos h8]
   rfl
  have mP := nilP
  have mC := nilC
  have O0 : Hid (Only (fun b => b = M) w w) := Only.refl _ _
  rw [hms]
  clear hM hsm hv hd1 hd2 ho hT hg hms hl h8 H
  go_enter Tryz.func167, Tryz.ntmps167
  go_wp2
  go_ret
  exact ⟨rfl, (by repeat' first | exact O0.out | apply Only.alloc), fun h => by cases h⟩
 ·have hsz : sz (d + 1) true t = sz d false t := by
   show (if t.k = 7 ∨ t.k = 8 then 1 else sz d false t) = sz d false t
   rw [if_neg (by omega)]
  have hdp : dp (d + 1) true t = dp d false t := by
   show (if t.k = 7 ∨ t.k = 8 then 0 else dp d false t) = dp d false t
   rw [if_neg (by omega)]
  have hok : okV (d + 1) true t = okV d false t := by
   show (if t.k = 7 then clB t.s else if t.k = 8 then false else okV d false t) = okV d false t
   rw [if_neg h7, if_neg h8]
  have hms : msB (d + 1) true t k o = msB d false t k o := by
   unfold msB
   rw [hok, hsz, hdp]
  clear hok
  obtain ⟨T1, y1, rfl⟩ := hu.iface h8
  have hP := va_hit 148 86 _ Tryz.underlying148 (by intro m h; cases h)
  have HV : Hid (∀ w1, Only (fun _ => False) w w1 → Calls Tryz.prog 153 #[.pointer (some ⟨M, 0, none⟩), .iface T1 y1, .int .i64 (o : Int)] w1 fun e w' => e = .returned (.bool (msB d false t k o)) ∧ Hid (Only (fun b => b = M) w1 w' ∧ (msB d false t k o = true → ∃ dd' : Int, VmB w' M ((k + sz d false t : Nat) : Int) dd' ∧ dd' = max dd ((o + dp d false t : Nat) : Int) ∧ dd' ≤ 1000))) := fun w1 o1 => H t _ w1 S M k o dd (hu.only o1 (fun _ _ g => g)) hM hsm (hv.keep o1) hk hd1 hd2 ho (hT.frame o1) hg
  have O0 : Hid (Only (fun _ => False) w w) := Only.refl _ _
  rw [hms, hsz, hdp]
  clear hdp
  obtain ⟨Z, hZ⟩ : ∃ Z, Z = msB d false t k o := ⟨_, rfl⟩
  rw [← hZ] at HV ⊢
  clear hM hsm hv hd1 hd2 ho hT hg hms hsz h7 h8 H hu hZ
  go_enter Tryz.func167, Tryz.ntmps167
  go_wp2_with fail
  refine (show Calls Tryz.prog 153 _ _ _ from HV.out _ (by repeat' first | exact O0.out | apply Only.alloc)).mono ?_
  rintro e w1 ⟨rfl, G1⟩
  have HF : Hid (Only (fun b => b = M) w w1 ∧ (Z = true → ∃ dd' : Int, VmB w1 M ((k + sz d false t : Nat) : Int) dd' ∧ dd' = max dd ((o + dp d false t : Nat) : Int) ∧ dd' ≤ 1000)) := ⟨Only.trans (show Only (fun b => b = M) w _ by repeat' first | exact (Only.refl _ _) | apply Only.alloc) G1.out.1 (fun _ _ g => g), G1.out.2⟩
  clear HV G1
  go_wp2
  go_ret
  exact ⟨rfl, HF.out⟩
theorem mval (d : Nat) (H1 : MsC d false 153) (H2 : MsC d true 167) : MsC (d + 1) false 153 := by
 intro t v w S M k o dd h hM hsm hv hk hd1 hd2 ho hT hg
 by_cases h4 : t.k = 4
 ·exact mlist d (ev_values d H1) t v w S M k o dd h h4 hM hsm hv hk hd1 hd2 ho hT hg
 by_cases h5 : t.k = 5
 ·exact mquot d (ev_items d H2) t v w S M k o dd h h5 hM hsm hv hk hd1 hd2 ho hT hg
 exact mleaf d t v w S M k o dd h (by omega) (by obtain ⟨e, he⟩ := hsm; exact he.str) hv hk hd1 hd2 ho hT hg
theorem ms_all : ∀ d : Nat, MsC d false 153 ∧ MsC d true 167
 | 0 => ⟨fun t v w S M k o dd h => h.elim, fun t v w S M k o dd h => h.elim⟩
 | d + 1 => ⟨mval d (ms_all d).1 (ms_all d).2, mitem d (ms_all d).1⟩
end Go.Proofs.YtbbeoobihdldcaaGreatDoor
namespace Go.Proofs.YtbbeoobihdldcaaGreatDoor
open Go.RowKit Go.Lib
set_option linter.unusedSimpArgs false
set_option linter.unusedVariables false
def sdB (d : Nat) (t : Vt) : Bool := msB d false t 0 0
def MeP (Z : Bool) (Y Q : Nat) (w : World) (e : Ending) (w' : World) : Prop := ∃ dd : Int, (Z = true → dd = (Q : Int)) ∧ e = .returned (.tuple #[.agg #[.int .i64 (if Z then (Y : Int) else 0), .int .i64 (if Z then dd else 0)], .int .i64 (if Z then 0 else 1)]) ∧ Only (fun _ => False) w w'
set_option maxRecDepth 100000 in
set_option maxHeartbeats 1000000 in
theorem measured_any {d : Nat} {t : Vt} {v : Value} {w : World} {S : Nat → Prop} (h : TiAt w S d false t v) (hS : ∀ b, S b → b < w.heap.size) (hsm : ∃ e, SmT e t) (hT : Tb w) : Calls Tryz.prog 125 #[v] w (MeP (sdB d t) (sz d false t) (dp d false t) w) := by
 obtain ⟨W, hW⟩ : ∃ W, W = (w.alloc (.cells #[.int .i64 0, .int .i64 0] 196)).alloc (.cells #[.int .i64 0, .int .i64 0] 196) := ⟨_, rfl⟩
 obtain ⟨N, hN⟩ : ∃ N, N = w.heap.size := ⟨_, rfl⟩
 have oW : Only (fun _ => False) w W := by rw [hW]; exact ((Only.refl _ w).alloc _).alloc _
 have a0 : W.heap[N]? = some (.cells #[.int .i64 0, .int .i64 0] 196) := by rw [hW]; exact (((Only.refl (fun _ => False) _).alloc _).block N (by simp [hN]) (fun g => g)).trans (va_at _ _ _ hN)
 have a1 : W.heap[N + 1]? = some (.cells #[.int .i64 0, .int .i64 0] 196) := by rw [hW]; exact va_at _ _ _ (by simp [hN])
 have lt := hT.lt
 have HV : Hid (Calls Tryz.prog 153 #[.pointer (some ⟨N + 1, 0, none⟩), v, .int .i64 0] W fun e w' => e = .returned (.bool (sdB d t)) ∧ Hid (Only (fun b => b = N + 1) W w' ∧ (sdB d t = true → ∃ dd' : Int, VmB w' (N + 1) ((0 + sz d false t : Nat) : Int) dd' ∧ dd' = max 0 ((0 + dp d false t : Nat) : Int) ∧ dd' ≤ 1000))) :=
  (ms_all d).1 t v W S (N + 1) 0 0 0 (h.only oW (fun _ _ g => g)) (fun b hb => by have := hS b hb; omega) hsm a1 (by omega) (by omega) (by omega) (by omega) (hT.frame oW) ⟨by omega, by omega, by omega⟩
 have HA : Hid (W.heap[N]? = some (.cells #[.int .i64 0, .int .i64 0] 196) ∧ Only (fun _ => False) w W ∧ N = w.heap.size) := ⟨a0, oW, hN⟩
 obtain ⟨Z, hZ⟩ : ∃ Z, Z = sdB d t := ⟨_, rfl⟩
 obtain ⟨Y, hY⟩ : ∃ Y, Y = sz d false t := ⟨_, rfl⟩
 obtain ⟨Q, hQ⟩ : ∃ Q, Q = dp d false t := ⟨_, rfl⟩
 rw [← hZ, ← hY, ← hQ] at HV
 rw [← hZ, ← hY, ← hQ]
 clear h hS hsm hT oW a0 a1 lt hZ hY hQ
 go_enter Tryz.func125, Tryz.ntmps125
 go_wp2_with fail
 rw [← hW, ← hN]
 clear hW hN
 refine (show Calls Tryz.prog 153 _ _ _ from HV.out).mono ?_
 rintro e w1 ⟨rfl, G1⟩
 have o1 := G1.out.1
 have h0 := (o1.block N (Array.getElem?_eq_some_iff.1 HA.out.1).1 (by omega)).trans HA.out.1
 have O1 : Hid (Only (fun _ => False) w w1) := HA.out.2.1.trans o1 (fun k hk e => by have := HA.out.2.2; omega)
 have c0 := wr_cell h0 0
 have c1 := wr_cell h0 1
 have f0 := wr_froz h0 0
 have f1 := wr_froz h0 1
 simp only [List.getElem?_toArray, List.getElem?_cons_succ, List.getElem?_cons_zero] at c0 c1
 cases Z with
 | false =>
   have q := set2 c0 c1 (.int .i64 0) (.int .i64 0)
   have QQ : Hid _ := q
   clear h0 HV o1 G1 q
   go_wp2
   refine bodyPost_ret (results_two rfl _ _ N QQ.out.1 QQ.out.2 rfl) rfl ?_
   refine ⟨0, (fun h => by cases h), rfl, (O1.out.setCell _ _ (fun g => ?_)).setCell _ _ (fun g => ?_)⟩ <;> (have := HA.out.2.2; simp only at g; omega)
 | true =>
   obtain ⟨dd, m1, m2, _⟩ := G1.out.2 rfl
   have HM2 : Hid (dd = (Q : Int)) := by show dd = (Q : Int); rw [m2]; omega
   have d0 := wr_cell m1 0
   have d1 := wr_cell m1 1
   simp only [List.getElem?_toArray, List.getElem?_cons_succ, List.getElem?_cons_zero, Nat.zero_add] at d0 d1
   have q := set2 c0 c1 (.int .i64 (Y : Int)) (.int .i64 dd)
   have QQ : Hid _ := q
   clear h0 HV o1 G1 q m1 m2
   go_wp2
   refine bodyPost_ret (results_two rfl _ _ N QQ.out.1 QQ.out.2 rfl) rfl ?_
   refine ⟨dd, (fun _ => HM2.out), rfl, (O1.out.setCell _ _ (fun g => ?_)).setCell _ _ (fun g => ?_)⟩ <;> (have := HA.out.2.2; simp only at g; omega)
set_option maxRecDepth 100000 in
theorem vcheck_any {d : Nat} {t : Vt} {v : Value} {w : World} {S : Nat → Prop} (h : TiAt w S d false t v) (hS : ∀ b, S b → b < w.heap.size) (hsm : ∃ e, SmT e t) (hT : Tb w) : Calls Tryz.prog 99 #[v] w fun e w' => e = .returned (.int .i64 (if sdB d t then 0 else 1)) ∧ Only (fun _ => False) w w' := by
 have HV : Hid _ := measured_any h hS hsm hT
 clear h hS hsm hT
 obtain ⟨X3, h3⟩ : ∃ X : Int, X = (if sdB d t then 0 else 1) := ⟨_, rfl⟩
 rw [← h3]
 have H3 : Hid (X3 = (if sdB d t then 0 else 1)) := h3
 clear h3
 go_enter Tryz.func99, Tryz.ntmps99
 go_wp2_with fail
 refine (show Calls Tryz.prog 125 _ _ _ from HV.out).mono ?_
 rintro e w1 ⟨dd, _, rfl, o1⟩
 have O1 : Hid (Only (fun _ => False) w w1) := o1
 obtain ⟨X1, h1⟩ : ∃ X : Int, X = (if sdB d t then (sz d false t : Int) else 0) := ⟨_, rfl⟩
 obtain ⟨X2, h2⟩ : ∃ X : Int, X = (if sdB d t then dd else 0) := ⟨_, rfl⟩
 rw [← h1, ← h2, ← H3.out]
 clear HV o1 h1 h2
 go_wp2
 go_ret
 exact ⟨rfl, O1.out.alloc _⟩
end Go.Proofs.YtbbeoobihdldcaaGreatDoor
namespace Go.Proofs.YtbbeoobihdldcaaGreatDoor
open Go.RowKit Go.Lib
set_option linter.unusedSimpArgs false
set_option linter.unusedVariables false
end Go.Proofs.YtbbeoobihdldcaaGreatDoor
namespace Go.Proofs.YtbbeoobihdldcaaGreatDoor
open Go.RowKit Go.Lib
set_option linter.unusedSimpArgs false
set_option linter.unusedVariables false
end Go.Proofs.YtbbeoobihdldcaaGreatDoor
namespace Go.Proofs.YtbbeoobihdldcaaGreatDoor
open Go.RowKit Go.Lib
set_option linter.unusedSimpArgs false
set_option linter.unusedVariables false
end Go.Proofs.YtbbeoobihdldcaaGreatDoor
namespace Go.Proofs.YtbbeoobihdldcaaGreatDoor
open Go.RowKit Go.Lib
set_option linter.unusedSimpArgs false
set_option linter.unusedVariables false
end Go.Proofs.YtbbeoobihdldcaaGreatDoor
namespace Go.Proofs.YtbbeoobihdldcaaGreatDoor
open Go.RowKit Go.Lib
set_option linter.unusedSimpArgs false
set_option linter.unusedVariables false
def bxL : Nat → Bool → Vt → List Int
 | 0, _, _ => []
 | d + 1, true, t => if t.k = 7 then [] else bxL d false t
 | d + 1, false, t => if t.k = 6 then [t.n] else if t.k = 4 then t.l.flatMap (bxL d false) else if t.k = 5 then t.l.flatMap (bxL d true) else []
def BnAt (w : World) (B : Nat) (v : Value) (ns : List Int) : Prop := w.ownsRow B 3 1 v ns.length (ns.map (Value.int .i64))
theorem bn_nil (w : World) (B : Nat) : BnAt w B (.slice none 0 0) [] := ⟨rfl, .inl ⟨rfl, rfl⟩⟩
theorem BnAt.form {w : World} {B : Nat} {v : Value} {ns : List Int} (h : BnAt w B v ns) : ∃ ao cap, v = .slice ao ns.length cap := by
 rcases h.2 with ⟨h1, h2⟩ | ⟨g, cap, cur, h1, _⟩
 ·exact ⟨_, _, by rw [h1, h2]⟩
 ·exact ⟨_, _, h1⟩
theorem BnAt.only {w w' : World} {B : Nat} {v : Value} {ns : List Int} {bs : Nat → Prop} (h : BnAt w B v ns) (o : Only bs w w') (hb : ∀ b, B ≤ b → b < w.heap.size → ¬ bs b) : BnAt w' B v ns := o.owns h (fun k hk => hb k (h.lt k hk).1 (h.lt k hk).2)
theorem bninfo : (Tryz.prog.info? 3).map (fun i => (i.zero, i.size, i.bytes)) = some (some (.int .i64 0), 1, 8) := by kernel_rfl
theorem app_bn {w : World} {B : Nat} {v : Value} {ns : List Int} {n : Int} (hf : BnAt w B v ns) (hB : B ≤ w.heap.size) (hl : ns.length ≤ 1048576) :
  ∃ v' w', (∀ ty, (Builtin.append_ #[103, 103] ty #[v, .slice (some ⟨w.heap.size, 0, none⟩) 1 1]).run Tryz.prog (w.alloc (.cells #[.int .i64 n] 3)) = .ok v' w') ∧ BnAt w' B v' (ns ++ [n]) ∧ Only (fun k => v.ownBlock = some k) w w' := by
 obtain ⟨i0, hi, hz0, hz1, hz2⟩ := vinfo_parts bninfo
 obtain ⟨W, hW⟩ : ∃ W, W = w.alloc (.cells #[.int .i64 n] 3) := ⟨_, rfl⟩
 have oo : Only (fun _ => False) w W := by rw [hW]; exact (Only.refl _ w).alloc _
 have hf2 : BnAt W B v ns := hf.only oo (fun _ _ _ h => h)
 have hblk : W.heap[w.heap.size]? = some (.cells #[.int .i64 n] 3) := by rw [hW]; exact valloc_at _ _ _ rfl
 have key := fun ty => run_append_own_at (P := Tryz.prog) W B 103 ty 3 i0 (.int .i64 0) 1 8 Tryz.underlying103 hi hz0 hz1 hz2 rfl (by omega) v ns.length (ns.map (Value.int .i64)) hf2 ⟨w.heap.size, 0, none⟩ 1 1 [.int .i64 n] rfl (by
   intro j u hj
   rw [addr_ad, vblk_cells hblk]
   simpa using hj) (by
   intro u hu
   simp only [List.mem_cons, List.not_mem_nil, or_false] at hu
   subst hu
   rfl) (by unfold maxLen; omega) (by omega) (by have := oo.size; omega)
 obtain ⟨v', w', hr, own', hg, _, hat⟩ := key 0
 refine ⟨v', w', fun ty => ?_, ?_, (oo.mono (bs' := fun k => v.ownBlock = some k) (fun _ _ h => h.elim)).trans ((Only.refl (fun k => v.ownBlock = some k) W).grown hg (fun k e _ => e)) (fun k hk e => e)⟩
 ·rw [← hW, ← hr]
  rfl
 ·unfold BnAt
  simpa using own'
def BxC (d F : Nat) (i : Bool) : Prop := ∀ (t : Vt) (v : Value) (w0 : World) (S : Nat → Prop), TiAt w0 S d i t v → okV d i t = true → (∃ e, SmT e t) → ∀ (w : World) (ao : Option Addr) (n cap : Nat) (ns : List Int), Only (fun _ => False) w0 w → BnAt w w0.heap.size (.slice ao n cap) ns → ns.length + (bxL d i t).length ≤ 1000000 →
 Calls Tryz.prog F #[.slice ao n cap, v] w fun e w' => ∃ ao' n' cap', e = .returned (.slice ao' n' cap') ∧ Hid (BnAt w' w0.heap.size (.slice ao' n' cap') (ns ++ bxL d i t) ∧ Only (fun _ => False) w0 w')
theorem bn_app {w0 w : World} {ao : Option Addr} {n cap : Nat} {ns : List Int} (z : Int) (o : Only (fun _ => False) w0 w) (h : BnAt w w0.heap.size (.slice ao n cap) ns) (hl : ns.length ≤ 1000000) (b : Nat) (hb : b = w.heap.size) :
  ∃ ao' cap' w', (∀ ty, (Builtin.append_ #[103, 103] ty #[.slice ao n cap, .slice (some ⟨b, 0, none⟩) 1 1]).run Tryz.prog (w.alloc (.cells #[.int .i64 z] 3)) = .ok (.slice ao' (ns.length + 1) cap') w') ∧ BnAt w' w0.heap.size (.slice ao' (ns.length + 1) cap') (ns ++ [z]) ∧ Only (fun _ => False) w0 w' := by
 subst hb
 obtain ⟨v', w', hr, hw, o2⟩ := app_bn (n := z) h o.size (by omega)
 obtain ⟨ao', cap', hf⟩ := hw.form
 rw [List.length_append, List.length_singleton] at hf
 subst hf
 exact ⟨ao', cap', w', hr, hw, o.trans o2 (fun b hb e => by have := (h.lt b e).1; omega)⟩
set_option maxRecDepth 100000 in
theorem bx_int (n1 : Int) (w : World) (ao : Option Addr) (n cap : Nat) :
  Calls Tryz.prog 101 #[.slice ao n cap, .iface 36 (.agg #[.int .i64 n1])] w fun e w' => e = .returned (.slice ao n cap) ∧ Only (fun _ => False) w w' := by
 have mBox := va_miss 36 93 24 _ Tryz.underlying93 (by intro m h; cases h) (by decide) _ zB
 have mList := va_miss 36 82 24 _ Tryz.underlying82 (by intro m h; cases h) (by decide) _ zL
 have mQuot := va_miss 36 89 24 _ Tryz.underlying89 (by intro m h; cases h) (by decide) _ zQ
 have O : Hid (Only (fun _ => False) w w) := Only.refl _ _
 go_enter Tryz.func101, Tryz.ntmps101
 go_wp2
 go_ret
 exact ⟨rfl, by repeat' first | exact O.out | apply Only.alloc⟩
set_option maxRecDepth 100000 in
theorem bx_str (s1 : ByteArray) (w : World) (ao : Option Addr) (n cap : Nat) :
  Calls Tryz.prog 101 #[.slice ao n cap, .iface 79 (.agg #[.string s1])] w fun e w' => e = .returned (.slice ao n cap) ∧ Only (fun _ => False) w w' := by
 have mBox := va_miss 79 93 24 _ Tryz.underlying93 (by intro m h; cases h) (by decide) _ zB
 have mList := va_miss 79 82 24 _ Tryz.underlying82 (by intro m h; cases h) (by decide) _ zL
 have mQuot := va_miss 79 89 24 _ Tryz.underlying89 (by intro m h; cases h) (by decide) _ zQ
 have O : Hid (Only (fun _ => False) w w) := Only.refl _ _
 go_enter Tryz.func101, Tryz.ntmps101
 go_wp2
 go_ret
 exact ⟨rfl, by repeat' first | exact O.out | apply Only.alloc⟩
set_option maxRecDepth 100000 in
theorem bx_bool (b1 : Bool) (w : World) (ao : Option Addr) (n cap : Nat) :
  Calls Tryz.prog 101 #[.slice ao n cap, .iface 137 (.agg #[.bool b1])] w fun e w' => e = .returned (.slice ao n cap) ∧ Only (fun _ => False) w w' := by
 have mBox := va_miss 137 93 24 _ Tryz.underlying93 (by intro m h; cases h) (by decide) _ zB
 have mList := va_miss 137 82 24 _ Tryz.underlying82 (by intro m h; cases h) (by decide) _ zL
 have mQuot := va_miss 137 89 24 _ Tryz.underlying89 (by intro m h; cases h) (by decide) _ zQ
 have O : Hid (Only (fun _ => False) w w) := Only.refl _ _
 go_enter Tryz.func101, Tryz.ntmps101
 go_wp2
 go_ret
 exact ⟨rfl, by repeat' first | exact O.out | apply Only.alloc⟩
set_option maxRecDepth 100000 in
theorem bx_box (n1 : Int) (w0 w : World) (ao : Option Addr) (n cap : Nat) (ns : List Int) (o : Only (fun _ => False) w0 w) (h : BnAt w w0.heap.size (.slice ao n cap) ns) (hl : ns.length ≤ 1000000) :
  Calls Tryz.prog 101 #[.slice ao n cap, .iface 93 (.agg #[.int .i64 n1])] w fun e w' => ∃ ao' n' cap', e = .returned (.slice ao' n' cap') ∧ Hid (BnAt w' w0.heap.size (.slice ao' n' cap') (ns ++ [n1]) ∧ Only (fun _ => False) w0 w') := by
 have hBox := va_hit 93 24 _ Tryz.underlying93 (by intro m h; cases h)
 obtain ⟨W, hW⟩ : ∃ W, W = w.alloc (.cells #[.int .i64 n1] 93) := ⟨_, rfl⟩
 have O1 : Only (fun _ => False) w W := by rw [hW]; exact (Only.refl _ w).alloc _
 obtain ⟨ao', cap', w2, hr, hw2, o2⟩ := bn_app n1 (o.trans O1 (fun _ _ g => g)) (h.only O1 (fun _ _ _ g => g)) hl (w.heap.size + 1) (by rw [hW]; simp)
 rw [hW] at hr
 have HR : Hid _ := hr
 have H2 : Hid (BnAt w2 w0.heap.size (.slice ao' (ns.length + 1) cap') (ns ++ [n1]) ∧ Only (fun _ => False) w0 w2) := ⟨hw2, o2⟩
 obtain ⟨L, hL⟩ : ∃ L, L = ns.length + 1 := ⟨_, rfl⟩
 rw [← hL] at HR H2
 clear O1 hr hw2 o2 hL hW o h hl
 go_enter Tryz.func101, Tryz.ntmps101
 go_wp2_with (at_builtin; refine vwpList_append_run rfl _ _ 103 rfl _ _ _ rfl rfl HR.out ?_)
 go_ret
 exact ⟨ao', L, cap', rfl, H2⟩
set_option maxRecDepth 100000 in
set_option maxHeartbeats 4000000 in
theorem bx_list (d : Nat) (H : BxC d 101 false) (l : List Vt) (la : Option Addr) (lc : Nat) (w0 : World) (S : Nat → Prop) (hel : ∀ (j : Nat) (x : Vt), l[j]? = some x → ∃ g k u, la = some ⟨g, k, none⟩ ∧ S g ∧ w0.cell? ⟨g, k + j, none⟩ = some u ∧ TiAt w0 S d false x u) (hok : ∀ x ∈ l, okV d false x = true) (hsm : ∀ x ∈ l, ∃ e, SmT e x) (hlen : l.length ≤ 2513169434900) (w : World) (ao : Option Addr) (n cap : Nat) (ns : List Int) (o : Only (fun _ => False) w0 w) (h : BnAt w w0.heap.size (.slice ao n cap) ns) (hb : ns.length + (l.flatMap (bxL d false)).length ≤ 1000000) :
  Calls Tryz.prog 101 #[.slice ao n cap, .iface 82 (.agg #[.slice la l.length lc])] w fun e w' => ∃ ao' n' cap', e = .returned (.slice ao' n' cap') ∧ Hid (BnAt w' w0.heap.size (.slice ao' n' cap') (ns ++ l.flatMap (bxL d false)) ∧ Only (fun _ => False) w0 w') := by
 have HE : Hid (∀ (j : Nat) (x : Vt), l[j]? = some x → ∃ g k u, la = some ⟨g, k, none⟩ ∧ w0.cell? ⟨g, k + j, none⟩ = some u ∧ (u = .nilIface ∨ ∃ T y, u = .iface T y) ∧ ∀ (w1 : World) (ao : Option Addr) (n cap : Nat) (ns : List Int), Only (fun _ => False) w0 w1 → BnAt w1 w0.heap.size (.slice ao n cap) ns → ns.length + (bxL d false x).length ≤ 1000000 → Calls Tryz.prog 101 #[.slice ao n cap, u] w1 fun e w' => ∃ ao' n' cap', e = .returned (.slice ao' n' cap') ∧ Hid (BnAt w' w0.heap.size (.slice ao' n' cap') (ns ++ bxL d false x) ∧ Only (fun _ => False) w0 w')) := by
  intro j x hx
  obtain ⟨g, k, u, p1, p2, p3, p4⟩ := hel j x hx
  exact ⟨g, k, u, p1, p3, p4.shape, H x u w0 S p4 (hok x (List.mem_of_getElem? hx)) (hsm x (List.mem_of_getElem? hx))⟩
 obtain ⟨N, hN⟩ : ∃ N, N = l.length := ⟨_, rfl⟩
 have HN : Hid (N = l.length ∧ N ≤ 2513169434900 ∧ ns.length + (l.flatMap (bxL d false)).length ≤ 1000000) := ⟨hN, by omega, hb⟩
 rw [← hN]
 have mBox := va_miss 82 93 24 _ Tryz.underlying93 (by intro m h; cases h) (by decide) _ zB
 have hList := va_hit 82 24 _ Tryz.underlying82 (by intro m h; cases h)
 have HS1 : Hid (∀ w1, Only (fun _ => False) w w1 → BnAt w1 w0.heap.size (.slice ao n cap) ns ∧ Only (fun _ => False) w0 w1) := fun w1 o1 => ⟨h.only o1 (fun _ _ _ g => g), o.trans o1 (fun _ _ g => g)⟩
 have O : Hid (Only (fun _ => False) w w) := Only.refl _ _
 clear h o hel hok hsm hlen hb hN H
 go_enter Tryz.func101, Tryz.ntmps101
 go_wp2
 obtain ⟨wS, hwS⟩ : ∃ x, x = (w.alloc (.cells #[.int .i64 0] 93)).alloc (.cells #[.slice la N lc] 82) := ⟨_, rfl⟩
 have HS2 : Hid (BnAt wS w0.heap.size (.slice ao n cap) ns ∧ Only (fun _ => False) w0 wS) := HS1.out wS (by rw [hwS]; repeat' first | exact O.out | apply Only.alloc)
 rw [← hwS]
 clear hwS HS1 O
 go_loopw [0, 35] (fun r0 r27 wr => ∃ (j : Nat) (a' : Option Addr) (n' c' : Nat), r27 = .int .i64 (j : Int) ∧ j ≤ N ∧ r0 = .slice a' n' c' ∧ Hid (BnAt wr w0.heap.size (.slice a' n' c') (ns ++ (l.take j).flatMap (bxL d false)) ∧ Only (fun _ => False) w0 wr)) (fun _ r27 _ => N - vuOf r27)
 case atStart => exact ⟨0, ao, n, cap, rfl, Nat.zero_le _, rfl, by simpa using HS2.out.1, HS2.out.2⟩
 case round =>
  obtain ⟨j, a', n', c', rfl, hj, rfl, HI⟩ := hrel
  obtain ⟨w2, hw2⟩ : ∃ w2, w2 = wr := ⟨_, rfl⟩
  rw [← hw2] at HI ⊢
  clear hw2
  have hNl := HN.out.1
  have hN2 := HN.out.2.1
  have hN3 := HN.out.2.2
  by_cases hjN : j < N
  ·obtain ⟨x, hx⟩ : ∃ x, l[j]? = some x := ⟨l[j]'(by omega), List.getElem?_eq_getElem (by omega)⟩
   obtain ⟨g, k, u, rfl, h0, hsh, hcall⟩ := HE.out j x hx
   have c0 := HI.out.2.cell h0 (fun g => g)
   have htk : (l.take (j + 1)).flatMap (bxL d false) = (l.take j).flatMap (bxL d false) ++ bxL d false x := by
    rw [List.take_add_one, hx]
    simp
   have hle : ((l.take (j + 1)).flatMap (bxL d false)).length ≤ (l.flatMap (bxL d false)).length := by
    conv => rhs; rw [← List.take_append_drop (j + 1) l]
    rw [List.flatMap_append, List.length_append]
    omega
   have HC : Hid _ := hcall w2 a' n' c' _ HI.out.2 HI.out.1 (by
    rw [htk, List.length_append] at hle
    simp only [List.length_append]
    omega)
   have HX : Hid (j < N ∧ (l.take (j + 1)).flatMap (bxL d false) = (l.take j).flatMap (bxL d false) ++ bxL d false x) := ⟨hjN, htk⟩
   have i1 : (j : Int) < (N : Int) := by omega
   have i0 : (0 : Int) ≤ (j : Int) := by omega
   have i4 : j ≤ 2513169434900 := by omega
   clear h0 hcall hNl hN2 hN3 hjN hj hx htk hle HI HE
   rcases hsh with rfl | ⟨T, y, rfl⟩
   all_goals
    go_wp2_with fail
    refine (show Calls Tryz.prog 101 _ _ _ from HC.out).mono ?_
    rintro e w3 ⟨a3, n3, c3, rfl, G3⟩
    have HF : Hid (BnAt w3 w0.heap.size (.slice a3 n3 c3) (ns ++ (l.take (j + 1)).flatMap (bxL d false)) ∧ Only (fun _ => False) w0 w3) := by
     rw [HX.out.2, ← List.append_assoc]
     exact G3.out
    clear HC G3 c0
    go_wp2
    go_roundw
    case rel => exact ⟨j + 1, a3, n3, c3, by go_num, by have := HX.out.1; omega, rfl, HF⟩
    case measure => simp only [vuOf]; have := HX.out.1; omega
  ·obtain rfl : j = N := by omega
   have i1 : ¬ (j : Int) < (j : Int) := by omega
   have hI := HI.out
   rw [show l.take j = l from by rw [hNl]; exact List.take_length] at hI
   have HF : Hid (BnAt w2 w0.heap.size (.slice a' n' c') (ns ++ l.flatMap (bxL d false)) ∧ Only (fun _ => False) w0 w2) := hI
   clear HI hI hNl hN2 hN3 hjN hj HE
   have mQ := va_miss 82 89 24 _ Tryz.underlying89 (by intro m h; cases h) (by decide) _ zQ
   go_wp2
   go_ret
   exact ⟨a', n', c', rfl, HF.out.1.only (by repeat' first | exact Only.refl _ _ | apply Only.alloc) (fun _ _ _ g => g), by repeat' first | exact HF.out.2 | apply Only.alloc⟩
set_option maxRecDepth 100000 in
set_option maxHeartbeats 4000000 in
theorem bx_quot (d : Nat) (H : BxC d 127 true) (l : List Vt) (la : Option Addr) (lc : Nat) (w0 : World) (S : Nat → Prop) (hel : ∀ (j : Nat) (x : Vt), l[j]? = some x → ∃ g k u, la = some ⟨g, k, none⟩ ∧ S g ∧ w0.cell? ⟨g, k + j, none⟩ = some u ∧ TiAt w0 S d true x u) (hok : ∀ x ∈ l, okV d true x = true) (hsm : ∀ x ∈ l, ∃ e, SmT e x) (hlen : l.length ≤ 2513169434900) (w : World) (ao : Option Addr) (n cap : Nat) (ns : List Int) (o : Only (fun _ => False) w0 w) (h : BnAt w w0.heap.size (.slice ao n cap) ns) (hb : ns.length + (l.flatMap (bxL d true)).length ≤ 1000000) :
  Calls Tryz.prog 101 #[.slice ao n cap, .iface 89 (.agg #[.slice la l.length lc])] w fun e w' => ∃ ao' n' cap', e = .returned (.slice ao' n' cap') ∧ Hid (BnAt w' w0.heap.size (.slice ao' n' cap') (ns ++ l.flatMap (bxL d true)) ∧ Only (fun _ => False) w0 w') := by
 have HE : Hid (∀ (j : Nat) (x : Vt), l[j]? = some x → ∃ g k u, la = some ⟨g, k, none⟩ ∧ w0.cell? ⟨g, k + j, none⟩ = some u ∧ (u = .nilIface ∨ ∃ T y, u = .iface T y) ∧ ∀ (w1 : World) (ao : Option Addr) (n cap : Nat) (ns : List Int), Only (fun _ => False) w0 w1 → BnAt w1 w0.heap.size (.slice ao n cap) ns → ns.length + (bxL d true x).length ≤ 1000000 → Calls Tryz.prog 127 #[.slice ao n cap, u] w1 fun e w' => ∃ ao' n' cap', e = .returned (.slice ao' n' cap') ∧ Hid (BnAt w' w0.heap.size (.slice ao' n' cap') (ns ++ bxL d true x) ∧ Only (fun _ => False) w0 w')) := by
  intro j x hx
  obtain ⟨g, k, u, p1, p2, p3, p4⟩ := hel j x hx
  exact ⟨g, k, u, p1, p3, p4.shape, H x u w0 S p4 (hok x (List.mem_of_getElem? hx)) (hsm x (List.mem_of_getElem? hx))⟩
 obtain ⟨N, hN⟩ : ∃ N, N = l.length := ⟨_, rfl⟩
 have HN : Hid (N = l.length ∧ N ≤ 2513169434900 ∧ ns.length + (l.flatMap (bxL d true)).length ≤ 1000000) := ⟨hN, by omega, hb⟩
 rw [← hN]
 have mBox := va_miss 89 93 24 _ Tryz.underlying93 (by intro m h; cases h) (by decide) _ zB
 have mList := va_miss 89 82 24 _ Tryz.underlying82 (by intro m h; cases h) (by decide) _ zL
 have hQuot := va_hit 89 24 _ Tryz.underlying89 (by intro m h; cases h)
 have HS1 : Hid (∀ w1, Only (fun _ => False) w w1 → BnAt w1 w0.heap.size (.slice ao n cap) ns ∧ Only (fun _ => False) w0 w1) := fun w1 o1 => ⟨h.only o1 (fun _ _ _ g => g), o.trans o1 (fun _ _ g => g)⟩
 have O : Hid (Only (fun _ => False) w w) := Only.refl _ _
 clear h o hel hok hsm hlen hb hN H
 go_enter Tryz.func101, Tryz.ntmps101
 go_wp2
 obtain ⟨wS, hwS⟩ : ∃ x, x = ((w.alloc (.cells #[.int .i64 0] 93)).alloc (.cells #[.slice none 0 0] 82)).alloc (.cells #[.slice la N lc] 89) := ⟨_, rfl⟩
 have HS2 : Hid (BnAt wS w0.heap.size (.slice ao n cap) ns ∧ Only (fun _ => False) w0 wS) := HS1.out wS (by rw [hwS]; repeat' first | exact O.out | apply Only.alloc)
 rw [← hwS]
 clear hwS HS1 O
 go_loopw [0, 52] (fun r0 r27 wr => ∃ (j : Nat) (a' : Option Addr) (n' c' : Nat), r27 = .int .i64 (j : Int) ∧ j ≤ N ∧ r0 = .slice a' n' c' ∧ Hid (BnAt wr w0.heap.size (.slice a' n' c') (ns ++ (l.take j).flatMap (bxL d true)) ∧ Only (fun _ => False) w0 wr)) (fun _ r27 _ => N - vuOf r27)
 case atStart => exact ⟨0, ao, n, cap, rfl, Nat.zero_le _, rfl, by simpa using HS2.out.1, HS2.out.2⟩
 case round =>
  obtain ⟨j, a', n', c', rfl, hj, rfl, HI⟩ := hrel
  obtain ⟨w2, hw2⟩ : ∃ w2, w2 = wr := ⟨_, rfl⟩
  rw [← hw2] at HI ⊢
  clear hw2
  have hNl := HN.out.1
  have hN2 := HN.out.2.1
  have hN3 := HN.out.2.2
  by_cases hjN : j < N
  ·obtain ⟨x, hx⟩ : ∃ x, l[j]? = some x := ⟨l[j]'(by omega), List.getElem?_eq_getElem (by omega)⟩
   obtain ⟨g, k, u, rfl, h0, hsh, hcall⟩ := HE.out j x hx
   have c0 := HI.out.2.cell h0 (fun g => g)
   have htk : (l.take (j + 1)).flatMap (bxL d true) = (l.take j).flatMap (bxL d true) ++ bxL d true x := by
    rw [List.take_add_one, hx]
    simp
   have hle : ((l.take (j + 1)).flatMap (bxL d true)).length ≤ (l.flatMap (bxL d true)).length := by
    conv => rhs; rw [← List.take_append_drop (j + 1) l]
    rw [List.flatMap_append, List.length_append]
    omega
   have HC : Hid _ := hcall w2 a' n' c' _ HI.out.2 HI.out.1 (by
    rw [htk, List.length_append] at hle
    simp only [List.length_append]
    omega)
   have HX : Hid (j < N ∧ (l.take (j + 1)).flatMap (bxL d true) = (l.take j).flatMap (bxL d true) ++ bxL d true x) := ⟨hjN, htk⟩
   have i1 : (j : Int) < (N : Int) := by omega
   have i0 : (0 : Int) ≤ (j : Int) := by omega
   have i4 : j ≤ 2513169434900 := by omega
   clear h0 hcall hNl hN2 hN3 hjN hj hx htk hle HI HE
   rcases hsh with rfl | ⟨T, y, rfl⟩
   all_goals
    go_wp2_with fail
    refine (show Calls Tryz.prog 127 _ _ _ from HC.out).mono ?_
    rintro e w3 ⟨a3, n3, c3, rfl, G3⟩
    have HF : Hid (BnAt w3 w0.heap.size (.slice a3 n3 c3) (ns ++ (l.take (j + 1)).flatMap (bxL d true)) ∧ Only (fun _ => False) w0 w3) := by
     rw [HX.out.2, ← List.append_assoc]
     exact G3.out
    clear HC G3 c0
    go_wp2
    go_roundw
    case rel => exact ⟨j + 1, a3, n3, c3, by go_num, by have := HX.out.1; omega, rfl, HF⟩
    case measure => simp only [vuOf]; have := HX.out.1; omega
  ·obtain rfl : j = N := by omega
   have i1 : ¬ (j : Int) < (j : Int) := by omega
   have hI := HI.out
   rw [show l.take j = l from by rw [hNl]; exact List.take_length] at hI
   have HF : Hid (BnAt w2 w0.heap.size (.slice a' n' c') (ns ++ l.flatMap (bxL d true)) ∧ Only (fun _ => False) w0 w2) := hI
   clear HI hI hNl hN2 hN3 hjN hj HE
   go_wp2
   go_ret
   exact ⟨a', n', c', rfl, HF⟩
end Go.Proofs.YtbbeoobihdldcaaGreatDoor
namespace Go.Proofs.YtbbeoobihdldcaaGreatDoor
open Go.RowKit
set_option linter.unusedSimpArgs false
set_option linter.unusedVariables false
attribute [local go_sem] Oper.semAt_some
def KpP (Pb : Nat) (W W' : World) : Prop := W'.heap[Pb]? = W.heap[Pb]?
def intEnc (x : Int) : Array Value := #[.int .i64 x]
theorem take_succ_getD (zs : List Int) (k : Nat) (h : k < zs.length) : zs.take (k + 1) = zs.take k ++ [zs.getD k 0] := by
 rw [List.take_succ_eq_append_getElem h]
 simp [List.getD, h]
def IntsIn (w : World) (Pb : Nat) (sv : Value) (zs : List Int) : Prop :=
 (sv = .slice none 0 0 ∧ zs = []) ∨ ∃ off cap, sv = .slice (some ⟨Pb, off, none⟩) zs.length cap ∧ ∀ j, j < zs.length → w.cell? ⟨Pb, off + j, none⟩ = some (.int .i64 (zs.getD j 0))
set_option maxRecDepth 100000 in
set_option maxHeartbeats 2000000 in
theorem values_core (m : Nat) (l Bs Pb off cap : Nat) (zs : List Int) (hlen : zs.length ≤ maxLen) (J Jx : List Int → World → Prop)
  (hY : ∀ k W, k < zs.length → J (zs.take k) W → YieldAt Fence.wide (m - 1) Tryz.prog l (intEnc (zs.getD k 0)) W fun e W' =>
   (e = .returned (.bool true) ∧ J (zs.take k ++ [zs.getD k 0]) W' ∧ KpP Pb W W') ∨ (e = .returned (.bool false) ∧ Jx (zs.take k ++ [zs.getD k 0]) W'))
  (W : World) (hBs : W.cell? ⟨Bs, 0, none⟩ = some (.slice (some ⟨Pb, off, none⟩) zs.length cap)) (hc : ∀ j, j < zs.length → W.cell? ⟨Pb, off + j, none⟩ = some (.int .i64 (zs.getD j 0))) (h0 : J [] W) :
  CallsIn Fence.wide m Tryz.prog 126 #[.func (.yield l) #[] #[], .pointer (some ⟨Bs, 0, none⟩)] W fun e W' => (∃ v, e = .returned v) ∧ (J zs W' ∨ ∃ k, k ≤ zs.length ∧ Jx (zs.take k) W') := by
 unfold maxLen at hlen
 refine callsIn_of_wp Tryz.func126 rfl trivial ?_ rfl
 simp only [Tryz.ntmps126, List.size_toArray, List.length_cons, List.length_nil, Nat.reduceAdd, Nat.reduceSub, Array.replicate_succ, Array.replicate_zero, List.push_toArray, List.append_toArray, List.nil_append, List.cons_append]
 gi_wp2
 gi_loopw [7] (fun i wr => ∃ k : Nat, k ≤ zs.length ∧ i = .int .i64 k ∧ J (zs.take k) wr ∧ KpP Pb W wr) (fun i _ => zs.length - (intOf i).toNat)
 case atStart => exact ⟨0, Nat.zero_le _, rfl, h0, rfl⟩
 case round =>
  obtain ⟨k, hk, rfl, hJ, hkp⟩ := hrel
  by_cases hlt : k < zs.length
  ·obtain ⟨fn, tmps, assign, body, hyr, hR⟩ := hY k wr hlt hJ
   have hcx : wr.cell? ⟨Pb, off + k, none⟩ = some (.int .i64 (zs.getD k 0)) := (World.cell?_of_block (w := W) (show wr.heap[Pb]? = W.heap[Pb]? from hkp)).trans (hc k hlt)
   have hj0 : (0 : Int) ≤ (k : Int) := Int.natCast_nonneg _
   have hj1 : (k : Int) < (zs.length : Int) := by omega
   have HT := take_succ_getD zs k hlt
   obtain ⟨z, hz⟩ : ∃ z, z = zs.getD k 0 := ⟨_, rfl⟩
   rw [← hz] at hyr hR hcx HT
   have HT' : Hid _ := HT
   have HKP : Hid (KpP Pb W wr) := hkp
   unfold intEnc at hyr
   clear hY hc h0 hBs hkp hz HT hJ
   gi_wp2
   refine ⟨fun h => (by simp [Fence.wide] at h), hR.mono ?_⟩
   rintro e W3 (⟨rfl, hJ3, hk3⟩ | ⟨rfl, hJx3⟩)
   ·have HK4 : Hid (KpP Pb W W3) := Eq.trans hk3 HKP.out
    clear hk3
    gi_wp2
    go_roundw
    case rel => exact ⟨k + 1, by omega, by simp, by rw [HT'.out]; exact hJ3, HK4.out⟩
    case measure => simp [intOf]; omega
   ·gi_wp2
    refine bodyPost_ret (results_none rfl _ _ _) rfl ?_
    exact ⟨⟨_, rfl⟩, .inr ⟨k + 1, by omega, by rw [HT'.out]; exact hJx3⟩⟩
  ·obtain rfl : k = zs.length := by omega
   rw [List.take_length] at hJ
   clear hY hc h0 hBs hkp
   gi_wp2
   go_end0
   exact ⟨⟨_, rfl⟩, .inl hJ⟩
set_option maxRecDepth 100000 in
set_option maxHeartbeats 1000000 in
theorem values_none (m l Bs : Nat) (J : World → Prop) (W : World) (hBs : W.cell? ⟨Bs, 0, none⟩ = some (.slice none 0 0)) (h0 : J W) :
  CallsIn Fence.wide m Tryz.prog 126 #[.func (.yield l) #[] #[], .pointer (some ⟨Bs, 0, none⟩)] W fun e W' => (∃ v, e = .returned v) ∧ J W' := by
 refine callsIn_of_wp Tryz.func126 rfl trivial ?_ rfl
 simp only [Tryz.ntmps126, List.size_toArray, List.length_cons, List.length_nil, Nat.reduceAdd, Nat.reduceSub, Array.replicate_succ, Array.replicate_zero, List.push_toArray, List.append_toArray, List.nil_append, List.cons_append]
 gi_wp2
 gi_loopw [7] (fun i wr => i = .int .i64 0 ∧ J wr) (fun _ _ => 0)
 case atStart => exact ⟨rfl, h0⟩
 case round =>
  obtain ⟨rfl, hJ⟩ := hrel
  gi_wp2
  go_end0
  exact ⟨⟨_, rfl⟩, hJ⟩
set_option maxRecDepth 100000 in
set_option maxHeartbeats 1000000 in
theorem values_in (m : Nat) (a : Option Addr) (n c : Nat) (w : World) :
  CallsIn Fence.wide m Tryz.prog 100 #[.slice a n c] w fun e w' => e = .returned (.func (.func 126) #[] #[.pointer (some ⟨w.heap.size, 0, none⟩)]) ∧ w' = w.alloc (.cells #[.slice a n c] 103) := by
 refine callsIn_of_wp Tryz.func100 rfl trivial ?_ rfl
 simp only [Tryz.ntmps100, List.size_toArray, List.length_cons, List.length_nil, Nat.reduceAdd, Nat.reduceSub, Array.replicate_succ, Array.replicate_zero, List.push_toArray, List.append_toArray, List.nil_append, List.cons_append]
 gi_wp2
 go_ret
 exact ⟨rfl, rfl⟩
end Go.Proofs.YtbbeoobihdldcaaGreatDoor
