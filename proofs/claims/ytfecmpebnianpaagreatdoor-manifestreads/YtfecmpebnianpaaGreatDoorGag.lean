/- Parts up to a word: parse.upTo[api.Item]. Parts up to a word: parse.upTo[api.Value]. Literals, items and brackets as a whole; one side of an effect. -/
import Derived.Test.YtfecmpebnianpaaGreatDoorGaf
namespace Go.Proofs.YtfecmpebnianpaaGreatDoor
open Go.RowKit
set_option linter.unusedSimpArgs false
set_option linter.unusedVariables false
/-- how many tokens are left -/
def qLen (w : World) (R : Nat) : Nat := match w.cell? ⟨R, 0, none⟩ with | some (.slice _ n _) => n | _ => 0
theorem qLen_of {w : World} {R : Nat} {q : List Tok} {n o z : Int} (h : RdAt w R q n o z) : qLen w R = q.length := by
  obtain ⟨v, hR, ao, cap, rfl, _⟩ := h
  simp [qLen, World.cell?, hR]
/-- what stands ahead of an answer -/
def pre (acc : List Tre) (r : Except (Int × Int) (List Tre × List Tok × Int)) : Except (Int × Int) (List Tre × List Tok × Int) :=
  match r with
  | .error e => .error e
  | .ok (l, q, z) => .ok (acc ++ l, q, z)
theorem pre_nil (r : Except (Int × Int) (List Tre × List Tok × Int)) : pre [] r = r := by
  cases r with
  | error e => rfl
  | ok p => rfl
theorem pre_app (a b : List Tre) (r : Except (Int × Int) (List Tre × List Tok × Int)) : pre a (pre b r) = pre (a ++ b) r := by
  cases r with
  | error e => rfl
  | ok p => simp [pre]
theorem prs_up (n : Int) (g m : Nat) (t : Tok) (r : List Tok) (o z : Int) : prs n (g + 1) (m + 2) (t :: r) o z = if isB t (shB m) then .ok ([], r, z) else
    match prs n g (min m 1) (t :: r) o z with
    | .error e => .error e
    | .ok (l1, r1, z1) => pre l1 (prs n g (m + 2) r1 o z1) := by
  simp only [prs]
  split
  · rfl
  · cases prs n g (min m 1) (t :: r) o z with
    | error e => rfl
    | ok p =>
      obtain ⟨l1, r1, z1⟩ := p
      dsimp only
      cases prs n g (m + 2) r1 o z1 with
      | error e => rfl
      | ok p => rfl
theorem RdAt.lt {w : World} {R : Nat} {q : List Tok} {n o z : Int} (h : RdAt w R q n o z) : R < w.heap.size := by
  obtain ⟨v, hR, _⟩ := h
  exact (Array.getElem?_eq_some_iff.1 hR).1
theorem take_consO (R : Nat) (t : Tok) (q : List Tok) (n o z : Int) (w : World) (h : RdAt w R (t :: q) n o z) :
    Calls Tryz.prog 129 #[.pointer (some ⟨R, 0, none⟩)] w fun x w' => x = .returned t.v ∧ w'.cell? ⟨R, 2, none⟩ = some (.int .i64 o) ∧ w'.frozen? ⟨R, 2, none⟩ = false ∧ Hid (RdAt w' R q n o z ∧ Only (fun b => b = R) w w') :=
  (take_cons R t q n o z w h).mono fun e w' g => by
    obtain ⟨v, hR, _⟩ := g.2.out.1
    exact ⟨g.1, by rw [blk_cells hR]; rfl, blk_froz hR 2, g.2⟩
set_option maxRecDepth 100000 in
theorem el_info13 : ∃ i z, Tryz.prog.info? 53 = some i ∧ i.zero = some z ∧ i.size = 1 ∧ i.bytes = 16 ∧ z.cells.size = 1 := ⟨_, _, rfl, rfl, rfl, rfl, rfl⟩
set_option maxRecDepth 100000 in
set_option maxHeartbeats 4000000 in
theorem up13_of (R : Nat) (n : Int) (f m : Nat) (hm : m = 1 ∨ m = 2) (HP : ∀ g, g < f → PtC R n g 1 102 true) : UpC R n f (m + 2) 131 53 true 102 := by
  intro q o z w hl hl2 ho ho1 hz hz1 h
  have e2 : m + 2 - 2 = m := by omega
  rw [e2]
  have hmin : min m 1 = 1 := by omega
  obtain ⟨Z, hZ⟩ : ∃ Z, Z = prs n f (m + 2) q o z := ⟨_, rfl⟩
  rw [← hZ]
  have HZ : Hid (Z = pre [] (prs n f (m + 2) q o z)) := by show Z = _; rw [pre_nil]; exact hZ
  have HM : Hid (min m 1 = 1) := hmin
  have HB : Hid (3 * q.length + 3 ≤ f ∧ q.length ≤ 4096 ∧ 0 ≤ z ∧ z ≤ 1024) := ⟨hl, hl2, hz, hz1⟩
  have H0 : Hid (RdAt w R q n o z) := h
  have HPP : Hid (∀ g, g < f → PtC R n g 1 102 true) := HP
  have HR : Hid (R < w.heap.size) := h.lt
  obtain ⟨sh, hsh⟩ : ∃ sh, sh = shB m := ⟨_, rfl⟩
  rw [← hsh]
  have HS : Hid (sh = shB m) := hsh
  have HO : Hid (1 ≤ o ∧ o ≤ 32) := ⟨ho, ho1⟩
  clear e2 hZ hmin hl hl2 hz hz1 h HP hsh hm ho ho1
  go_enter Tryz.func131, Tryz.ntmps131
  go_wp2
  go_loopw [7] (fun r7 wr => ∃ (g : Nat) (q' : List Tok) (z' : Int) (acc : List Tre) (ao : Option Addr) (cap : Nat), r7 = .slice ao acc.length cap ∧ Hid (Z = pre acc (prs n g (m + 2) q' o z') ∧ 3 * q'.length + 3 ≤ g ∧ g ≤ f ∧ acc.length + q'.length ≤ 4096 ∧ 0 ≤ z' ∧ z' ≤ 1024 ∧ RwAt wr w.heap.size 53 f true (.slice ao acc.length cap) acc ∧ RdAt wr R q' n o z' ∧ Only (fun b => b = R) w wr)) (fun _ wr => qLen wr R)
  case atStart => exact ⟨f, q, z, [], none, 0, rfl, HZ.out, HB.out.1, Nat.le_refl _, by simpa using HB.out.2.1, HB.out.2.2.1, HB.out.2.2.2, rw_nil _ _ _ _ _, H0.out, Only.refl _ _⟩
  case round =>
    obtain ⟨g, q', z', acc, ao, cap, rfl, HI⟩ := hrel
    obtain ⟨w1, rfl⟩ : ∃ w1, w1 = wr := ⟨_, rfl⟩
    clear HZ HB H0
    obtain ⟨g0, rfl⟩ : ∃ g0, g = g0 + 1 := ⟨g - 1, by have := HI.out.2.1; omega⟩
    obtain ⟨L, hL⟩ : ∃ L, L = acc.length := ⟨_, rfl⟩
    have HL : Hid (L = acc.length) := hL
    rw [← hL] at HI ⊢
    clear hL
    cases q' with
    | nil =>
      have HE : Hid (Z = .error (n, 9)) := by show Z = _; rw [HI.out.1]; rfl
      have HC : Hid (Calls Tryz.prog 100 #[.pointer (some ⟨R, 0, none⟩), .string sh] w1 fun x w' => x = gup n 9 ∧ Only (fun _ => False) w1 w') := is_nil R n o z' sh w1 HI.out.2.2.2.2.2.2.2.1
      have O1 : Hid (Only (fun b => b = R) w w1) := HI.out.2.2.2.2.2.2.2.2
      clear HI
      go_wp2_with fail
      refine (show Calls Tryz.prog 100 _ _ _ from HC.out).mono ?_
      rintro e w2 ⟨rfl, o2⟩
      have O2 : Hid (Only (fun b => b = R) w w2) := O1.out.trans (o2.mono (bs' := fun b => b = R) (fun _ _ h => h.elim)) (fun _ _ g => g)
      clear o2 O1 HC
      unfold gup
      go_wp2
      refine ⟨rfl, ?_⟩
      rw [show Z = _ from HE.out]
      exact show _ ∧ _ from ⟨rfl, O2.out⟩
    | cons t r =>
      have HC : Hid (Calls Tryz.prog 100 #[.pointer (some ⟨R, 0, none⟩), .string sh] w1 fun x w' => x = .returned (.bool (isB t sh)) ∧ Only (fun _ => False) w1 w') := is_cons R t r n o z' sh w1 HI.out.2.2.2.2.2.2.2.1
      cases hb : isB t sh with
      | true =>
        have HE : Hid (Z = .ok (acc, r, z')) := by
          show Z = _
          rw [HI.out.1, prs_up, ← show sh = _ from HS.out, hb, if_pos rfl]
          simp [pre]
        rw [hb] at HC
        have HK : Hid (RwAt w1 w.heap.size 53 f true (.slice ao L cap) acc ∧ RdAt w1 R (t :: r) n o z' ∧ Only (fun b => b = R) w w1) := ⟨HI.out.2.2.2.2.2.2.1, HI.out.2.2.2.2.2.2.2⟩
        clear HI
        go_wp2_with fail
        refine (show Calls Tryz.prog 100 _ _ _ from HC.out).mono ?_
        rintro e w2 ⟨rfl, o2⟩
        have K2 : Hid (RwAt w2 w.heap.size 53 f true (.slice ao L cap) acc ∧ RdAt w2 R (t :: r) n o z' ∧ Only (fun b => b = R) w w2) := ⟨HK.out.1.only o2 (fun _ _ h => h), HK.out.2.1.only o2, HK.out.2.2.trans (o2.mono (bs' := fun b => b = R) (fun _ _ h => h.elim)) (fun _ _ g => g)⟩
        clear o2 HK HC
        go_wp2_with fail
        refine (show Calls Tryz.prog 129 _ _ _ from take_consO R t r n o z' _ K2.out.2.1).mono ?_
        rintro e w3 ⟨rfl, c3, f3, g3⟩
        have K3 : Hid (RwAt w3 w.heap.size 53 f true (.slice ao L cap) acc ∧ RdAt w3 R r n o z' ∧ Only (fun b => b = R) w w3) := ⟨K2.out.1.only g3.out.2 (fun b hb e => by have : R < w.heap.size := HR.out; omega), g3.out.1, K2.out.2.2.trans g3.out.2 (fun _ _ g => g)⟩
        clear K2 g3
        obtain ⟨tk, tt, tn, ta⟩ := t
        simp only [Tok.v]
        have hoo : 1 ≤ o ∧ o ≤ 32 := HO.out
        have ho1 := hoo.1
        have ho2 := hoo.2
        clear hoo
        go_wp2
        go_ret
        rw [show Z = _ from HE.out]
        have e1 : L = acc.length := HL.out
        obtain ⟨r1, r2⟩ := K3.out.2.1.open_ (o - 1)
        refine show ∃ ao cap, _ ∧ Hid _ from ⟨ao, cap, by rw [← e1]; rfl, ?_⟩
        rw [← e1]
        exact ⟨K3.out.1.only r2 (fun b hb e => by have : R < w.heap.size := HR.out; omega), r1, K3.out.2.2.trans r2 (fun _ _ g => g)⟩
      | false =>
        rw [hb] at HC
        have HE : Hid (Z = pre acc (match prs n g0 1 (t :: r) o z' with
            | .error e => .error e
            | .ok (l1, r1, z1) => pre l1 (prs n g0 (m + 2) r1 o z1))) := by
          show Z = _
          rw [HI.out.1, prs_up, ← show sh = _ from HS.out, hb, if_neg (by simp), show min m 1 = _ from HM.out]
          try rfl
        have HQ : Hid (∀ w2, RdAt w2 R (t :: r) n o z' → Calls Tryz.prog 102 #[.pointer (some ⟨R, 0, none⟩)] w2 (ptP R g0 true n o w2 (prs n g0 1 (t :: r) o z'))) := by
          have h1 := HI.out.2.1
          have h2 := HI.out.2.2.1
          have h3 := HI.out.2.2.2.1
          have h4 : 1 ≤ o ∧ o ≤ 32 := HO.out
          exact fun w2 hw => HPP.out g0 (by omega) (t :: r) o z' w2 (by simp only [List.length_cons] at h1 ⊢; omega) (by omega) (by omega) h4.2 HI.out.2.2.2.2.1 HI.out.2.2.2.2.2.1 hw
        have HN : Hid (∀ l1 r1 z1, prs n g0 1 (t :: r) o z' = .ok (l1, r1, z1) → r1.length < (t :: r).length ∧ 0 ≤ z1 ∧ z1 ≤ 1024 ∧ l1.length = 1) := by
          intro l1 r1 z1 hp
          obtain ⟨a1, a2, a3, a4, a5⟩ := prs_ok n g0 1 _ _ _ _ _ _ hp HI.out.2.2.2.2.2.1
          have := HI.out.2.2.2.2.1
          exact ⟨a1, by omega, a3, a4 (by omega)⟩
        have HK : Hid (3 * (t :: r).length + 3 ≤ g0 + 1 ∧ g0 + 1 ≤ f ∧ L + (t :: r).length ≤ 4096 ∧ RwAt w1 w.heap.size 53 f true (.slice ao L cap) acc ∧ RdAt w1 R (t :: r) n o z' ∧ Only (fun b => b = R) w w1) := ⟨HI.out.2.1, HI.out.2.2.1, HI.out.2.2.2.1, HI.out.2.2.2.2.2.2.1, HI.out.2.2.2.2.2.2.2⟩
        clear HI
        obtain ⟨X, hX⟩ : ∃ X, X = prs n g0 1 (t :: r) o z' := ⟨_, rfl⟩
        rw [← hX] at HE HQ HN
        clear hX
        go_wp2_with fail
        refine (show Calls Tryz.prog 100 _ _ _ from HC.out).mono ?_
        rintro e w2 ⟨rfl, o2⟩
        have K2 : Hid (RwAt w2 w.heap.size 53 f true (.slice ao L cap) acc ∧ RdAt w2 R (t :: r) n o z' ∧ Only (fun b => b = R) w w2) := ⟨HK.out.2.2.2.1.only o2 (fun _ _ h => h), HK.out.2.2.2.2.1.only o2, HK.out.2.2.2.2.2.trans (o2.mono (bs' := fun b => b = R) (fun _ _ h => h.elim)) (fun _ _ g => g)⟩
        have KM : Hid (qLen w1 R = (t :: r).length) := qLen_of HK.out.2.2.2.2.1
        have KB : Hid (3 * (t :: r).length + 3 ≤ g0 + 1 ∧ g0 + 1 ≤ f ∧ L + (t :: r).length ≤ 4096) := ⟨HK.out.1, HK.out.2.1, HK.out.2.2.1⟩
        clear o2 HK HC
        go_wp2_with fail
        refine (show Calls Tryz.prog 102 _ _ _ from HQ.out _ K2.out.2.1).mono ?_
        intro e w3 g3
        clear HQ
        cases X with
        | error p =>
          obtain ⟨a, er⟩ := p
          obtain ⟨he, o3⟩ := g3
          subst he
          have O3 : Hid (Only (fun b => b = R) w w3) := K2.out.2.2.trans o3 (fun _ _ g => g)
          clear o3 K2 KM KB HN
          unfold gup
          go_wp2
          refine ⟨rfl, ?_⟩
          rw [show Z = _ from HE.out]
          exact show _ ∧ _ from ⟨rfl, O3.out⟩
        | ok p =>
          obtain ⟨l1, r1, z1⟩ := p
          obtain ⟨t1, v, hl1, he, g4⟩ := g3
          subst he
          subst hl1
          have hR : R < w.heap.size := HR.out
          have K3 : Hid (NwAt w3 w2.heap.size f true t1 v ∧ RdAt w3 R r1 n o z1 ∧ Only (fun b => b = R) w w3) := ⟨g4.out.1.deep (by have := KB.out; omega), g4.out.2.1, K2.out.2.2.trans g4.out.2.2 (fun _ _ g => g)⟩
          have W3 : RwAt w3 w.heap.size 53 f true (.slice ao L cap) acc := K2.out.1.only g4.out.2.2 (fun b hb e => by omega)
          have hlt2 : ∀ k, (Value.slice ao L cap).ownBlock = some k → k < w2.heap.size := fun k hk => by
            obtain ⟨us, S, hr, _⟩ := K2.out.1
            exact (hr.lt k hk).2
          obtain ⟨T, y, hv⟩ := g4.out.1.form
          subst hv
          have HE2 : Hid (Z = pre (acc ++ [t1]) (prs n g0 (m + 2) r1 o z1)) := by
            show Z = _
            rw [HE.out]
            exact pre_app _ _ _
          have HN2 : Hid (r1.length < (t :: r).length ∧ 0 ≤ z1 ∧ z1 ≤ 1024) := ⟨(HN.out _ _ _ rfl).1, (HN.out _ _ _ rfl).2.1, (HN.out _ _ _ rfl).2.2.1⟩
          have hsz : w.heap.size ≤ w2.heap.size := K2.out.2.2.size
          have hsz3 : w.heap.size ≤ w3.heap.size := K3.out.2.2.size
          clear g4 K2 HE HN
          have e1 : L = acc.length := HL.out
          have W4 : RwAt (w3.alloc (.cells #[.iface T y] 53)) w.heap.size 53 f true (.slice ao L cap) acc := W3.only ((Only.refl (fun _ => False) w3).alloc _) (fun _ _ h => h)
          have N4 : NwAt (w3.alloc (.cells #[.iface T y] 53)) w2.heap.size f true t1 (.iface T y) := K3.out.1.only ((Only.refl (fun _ => False) w3).alloc _) (fun _ _ h => h)
          have R4 : RdAt (w3.alloc (.cells #[.iface T y] 53)) R r1 n o z1 := K3.out.2.1.only ((Only.refl (fun _ => False) w3).alloc _)
          have O4 : Only (fun b => b = R) w (w3.alloc (.cells #[.iface T y] 53)) := K3.out.2.2.alloc _
          obtain ⟨us, S, hown, htr, hSS⟩ := W4
          rw [← e1] at hown
          have HOW : Hid ((w3.alloc (.cells #[.iface T y] 53)).ownsRow w.heap.size 53 1 (.slice ao L cap) L us) := hown
          have HAL : Hid ((∀ (j : Nat) (x : Tre), acc[j]? = some x → ∃ u, us[j]? = some u ∧ TrAt (w3.alloc (.cells #[.iface T y] 53)) S f true x u) ∧ (∀ b, S b → w.heap.size ≤ b ∧ Liv (w3.alloc (.cells #[.iface T y] 53)) b ∧ (Value.slice ao L cap).ownBlock ≠ some b) ∧ NwAt (w3.alloc (.cells #[.iface T y] 53)) w2.heap.size f true t1 (.iface T y) ∧ RdAt (w3.alloc (.cells #[.iface T y] 53)) R r1 n o z1 ∧ Only (fun b => b = R) w (w3.alloc (.cells #[.iface T y] 53)) ∧ w.heap.size ≤ w2.heap.size ∧ (∀ k, (Value.slice ao L cap).ownBlock = some k → k < w2.heap.size)) := ⟨htr, hSS, N4, R4, O4, hsz, hlt2⟩
          obtain ⟨i0, z0, hi, hz0, hz1, hz2, hz3⟩ := el_info13
          clear W3 N4 R4 O4 hown htr hSS K3 hlt2 hR hsz e1
          go_wp2_with (at_builtin; refine wpList_append_own_at _ rfl _ _ 47 rfl w.heap.size 53 i0 z0 1 16 Tryz.underlying47 hi hz0 hz1 hz2 hz3 (by decide) _ L us rfl HOW.out ⟨w3.heap.size, 0, none⟩ 1 1 [.iface T y] rfl rfl ?c1 ?c2 ?c3 ?c4 ?c5 ?_)
          case c1 =>
            intro j u hj
            rcases j with _ | j
            · simp at hj
              subst hj
              simp [Addr.add]
            · simp at hj
          case c2 =>
            intro u hu
            simp only [List.mem_cons, List.not_mem_nil, or_false] at hu
            subst hu
            rfl
          case c3 => have := KB.out.2.2; simp only [List.length_cons] at this; unfold maxLen; omega
          case c4 => have := KB.out.2.2; simp only [List.length_cons] at this; omega
          case c5 => simp; omega
          intro v' w4 hown' hgrow _ hat
          have e1 : L = acc.length := HL.out
          obtain ⟨a1, a2, a3, a4, a5, a6, a7⟩ := HAL.out
          have W5 : RwAt w4 w.heap.size 53 f true v' (acc ++ [t1]) := RwAt.snoc hgrow (by rw [← e1]; exact HOW.out) a1 a2 a3 a6 a7 (by rw [← e1]; exact hown') (by simpa using hat)
          have hR2 : R < w.heap.size := HR.out
          have og : Only (fun k => (Value.slice ao L cap).ownBlock = some k) (w3.alloc (.cells #[.iface T y] 53)) w4 := (Only.refl _ _).grown hgrow (fun k e _ => e)
          have hge : ∀ k, (Value.slice ao L cap).ownBlock = some k → w.heap.size ≤ k := fun k hk => (HOW.out.lt k hk).1
          have R5 : RdAt w4 R r1 n o z1 := a4.other (fun b hb e => by have := hge b e; omega) og
          have O5 : Only (fun b => b = R) w w4 := a5.trans og (fun k hk e => by have := hge k e; omega)
          obtain ⟨ao', cap', hv'⟩ := W5.form
          subst hv'
          have HK5 : Hid (RwAt w4 w.heap.size 53 f true (.slice ao' (acc ++ [t1]).length cap') (acc ++ [t1]) ∧ RdAt w4 R r1 n o z1 ∧ Only (fun b => b = R) w w4) := ⟨W5, R5, O5⟩
          clear W5 R5 O5 og hge HAL HOW hown' hgrow hat a1 a2 a3 a4 a5 a6 a7 hi hz0 hz1 hz2 hz3 hsz3
          have KB2 : Hid (3 * r1.length + 3 ≤ g0 ∧ g0 ≤ f ∧ (acc ++ [t1]).length + r1.length ≤ 4096) := by
            have b1 := KB.out
            have b2 := HN2.out.1
            simp only [List.length_cons, List.length_append, List.length_nil] at *
            exact ⟨by omega, by omega, by omega⟩
          have KQ : Hid (qLen w4 R < qLen w1 R) := by
            show qLen w4 R < qLen w1 R
            rw [KM.out, qLen_of HK5.out.2.1]
            exact HN2.out.1
          clear KB KM e1 hR2
          obtain ⟨L2, hL2⟩ : ∃ L2, L2 = (acc ++ [t1]).length := ⟨_, rfl⟩
          have HL2 : Hid (L2 = (acc ++ [t1]).length) := hL2
          rw [← hL2] at HK5
          rw [← hL2]
          clear hL2
          go_wp2
          go_roundw
          case rel => exact ⟨g0, r1, z1, acc ++ [t1], ao', cap', by rw [show L2 = _ from HL2.out], HE2.out, KB2.out.1, KB2.out.2.1, KB2.out.2.2, HN2.out.2.1, HN2.out.2.2, by have := HK5.out.1; rw [show L2 = _ from HL2.out] at this; exact this, HK5.out.2.1, HK5.out.2.2⟩
          case measure => exact KQ.out
end Go.Proofs.YtfecmpebnianpaaGreatDoor
namespace Go.Proofs.YtfecmpebnianpaaGreatDoor
open Go.RowKit
set_option linter.unusedSimpArgs false
set_option linter.unusedVariables false
set_option maxRecDepth 100000 in
theorem el_info14 : ∃ i z, Tryz.prog.info? 157 = some i ∧ i.zero = some z ∧ i.size = 1 ∧ i.bytes = 16 ∧ z.cells.size = 1 := ⟨_, _, rfl, rfl, rfl, rfl, rfl⟩
set_option maxRecDepth 100000 in
set_option maxHeartbeats 4000000 in
theorem up14_of (R : Nat) (n : Int) (f m : Nat) (hm : m = 0) (HP : ∀ g, g < f → PtC R n g 0 133 false) : UpC R n f (m + 2) 151 157 false 133 := by
  intro q o z w hl hl2 ho ho1 hz hz1 h
  have e2 : m + 2 - 2 = m := by omega
  rw [e2]
  have hmin : min m 1 = 0 := by omega
  obtain ⟨Z, hZ⟩ : ∃ Z, Z = prs n f (m + 2) q o z := ⟨_, rfl⟩
  rw [← hZ]
  have HZ : Hid (Z = pre [] (prs n f (m + 2) q o z)) := by show Z = _; rw [pre_nil]; exact hZ
  have HM : Hid (min m 1 = 0) := hmin
  have HB : Hid (3 * q.length + 3 ≤ f ∧ q.length ≤ 4096 ∧ 0 ≤ z ∧ z ≤ 1024) := ⟨hl, hl2, hz, hz1⟩
  have H0 : Hid (RdAt w R q n o z) := h
  have HPP : Hid (∀ g, g < f → PtC R n g 0 133 false) := HP
  have HR : Hid (R < w.heap.size) := h.lt
  obtain ⟨sh, hsh⟩ : ∃ sh, sh = shB m := ⟨_, rfl⟩
  rw [← hsh]
  have HS : Hid (sh = shB m) := hsh
  have HO : Hid (1 ≤ o ∧ o ≤ 32) := ⟨ho, ho1⟩
  clear e2 hZ hmin hl hl2 hz hz1 h HP hsh hm ho ho1
  go_enter Tryz.func151, Tryz.ntmps151
  go_wp2
  go_loopw [7] (fun r7 wr => ∃ (g : Nat) (q' : List Tok) (z' : Int) (acc : List Tre) (ao : Option Addr) (cap : Nat), r7 = .slice ao acc.length cap ∧ Hid (Z = pre acc (prs n g (m + 2) q' o z') ∧ 3 * q'.length + 3 ≤ g ∧ g ≤ f ∧ acc.length + q'.length ≤ 4096 ∧ 0 ≤ z' ∧ z' ≤ 1024 ∧ RwAt wr w.heap.size 157 f false (.slice ao acc.length cap) acc ∧ RdAt wr R q' n o z' ∧ Only (fun b => b = R) w wr)) (fun _ wr => qLen wr R)
  case atStart => exact ⟨f, q, z, [], none, 0, rfl, HZ.out, HB.out.1, Nat.le_refl _, by simpa using HB.out.2.1, HB.out.2.2.1, HB.out.2.2.2, rw_nil _ _ _ _ _, H0.out, Only.refl _ _⟩
  case round =>
    obtain ⟨g, q', z', acc, ao, cap, rfl, HI⟩ := hrel
    obtain ⟨w1, rfl⟩ : ∃ w1, w1 = wr := ⟨_, rfl⟩
    clear HZ HB H0
    obtain ⟨g0, rfl⟩ : ∃ g0, g = g0 + 1 := ⟨g - 1, by have := HI.out.2.1; omega⟩
    obtain ⟨L, hL⟩ : ∃ L, L = acc.length := ⟨_, rfl⟩
    have HL : Hid (L = acc.length) := hL
    rw [← hL] at HI ⊢
    clear hL
    cases q' with
    | nil =>
      have HE : Hid (Z = .error (n, 9)) := by show Z = _; rw [HI.out.1]; rfl
      have HC : Hid (Calls Tryz.prog 100 #[.pointer (some ⟨R, 0, none⟩), .string sh] w1 fun x w' => x = gup n 9 ∧ Only (fun _ => False) w1 w') := is_nil R n o z' sh w1 HI.out.2.2.2.2.2.2.2.1
      have O1 : Hid (Only (fun b => b = R) w w1) := HI.out.2.2.2.2.2.2.2.2
      clear HI
      go_wp2_with fail
      refine (show Calls Tryz.prog 100 _ _ _ from HC.out).mono ?_
      rintro e w2 ⟨rfl, o2⟩
      have O2 : Hid (Only (fun b => b = R) w w2) := O1.out.trans (o2.mono (bs' := fun b => b = R) (fun _ _ h => h.elim)) (fun _ _ g => g)
      clear o2 O1 HC
      unfold gup
      go_wp2
      refine ⟨rfl, ?_⟩
      rw [show Z = _ from HE.out]
      exact show _ ∧ _ from ⟨rfl, O2.out⟩
    | cons t r =>
      have HC : Hid (Calls Tryz.prog 100 #[.pointer (some ⟨R, 0, none⟩), .string sh] w1 fun x w' => x = .returned (.bool (isB t sh)) ∧ Only (fun _ => False) w1 w') := is_cons R t r n o z' sh w1 HI.out.2.2.2.2.2.2.2.1
      cases hb : isB t sh with
      | true =>
        have HE : Hid (Z = .ok (acc, r, z')) := by
          show Z = _
          rw [HI.out.1, prs_up, ← show sh = _ from HS.out, hb, if_pos rfl]
          simp [pre]
        rw [hb] at HC
        have HK : Hid (RwAt w1 w.heap.size 157 f false (.slice ao L cap) acc ∧ RdAt w1 R (t :: r) n o z' ∧ Only (fun b => b = R) w w1) := ⟨HI.out.2.2.2.2.2.2.1, HI.out.2.2.2.2.2.2.2⟩
        clear HI
        go_wp2_with fail
        refine (show Calls Tryz.prog 100 _ _ _ from HC.out).mono ?_
        rintro e w2 ⟨rfl, o2⟩
        have K2 : Hid (RwAt w2 w.heap.size 157 f false (.slice ao L cap) acc ∧ RdAt w2 R (t :: r) n o z' ∧ Only (fun b => b = R) w w2) := ⟨HK.out.1.only o2 (fun _ _ h => h), HK.out.2.1.only o2, HK.out.2.2.trans (o2.mono (bs' := fun b => b = R) (fun _ _ h => h.elim)) (fun _ _ g => g)⟩
        clear o2 HK HC
        go_wp2_with fail
        refine (show Calls Tryz.prog 129 _ _ _ from take_consO R t r n o z' _ K2.out.2.1).mono ?_
        rintro e w3 ⟨rfl, c3, f3, g3⟩
        have K3 : Hid (RwAt w3 w.heap.size 157 f false (.slice ao L cap) acc ∧ RdAt w3 R r n o z' ∧ Only (fun b => b = R) w w3) := ⟨K2.out.1.only g3.out.2 (fun b hb e => by have : R < w.heap.size := HR.out; omega), g3.out.1, K2.out.2.2.trans g3.out.2 (fun _ _ g => g)⟩
        clear K2 g3
        obtain ⟨tk, tt, tn, ta⟩ := t
        simp only [Tok.v]
        have hoo : 1 ≤ o ∧ o ≤ 32 := HO.out
        have ho1 := hoo.1
        have ho2 := hoo.2
        clear hoo
        go_wp2
        go_ret
        rw [show Z = _ from HE.out]
        have e1 : L = acc.length := HL.out
        obtain ⟨r1, r2⟩ := K3.out.2.1.open_ (o - 1)
        refine show ∃ ao cap, _ ∧ Hid _ from ⟨ao, cap, by rw [← e1]; rfl, ?_⟩
        rw [← e1]
        exact ⟨K3.out.1.only r2 (fun b hb e => by have : R < w.heap.size := HR.out; omega), r1, K3.out.2.2.trans r2 (fun _ _ g => g)⟩
      | false =>
        rw [hb] at HC
        have HE : Hid (Z = pre acc (match prs n g0 0 (t :: r) o z' with
            | .error e => .error e
            | .ok (l1, r1, z1) => pre l1 (prs n g0 (m + 2) r1 o z1))) := by
          show Z = _
          rw [HI.out.1, prs_up, ← show sh = _ from HS.out, hb, if_neg (by simp), show min m 1 = _ from HM.out]
          try rfl
        have HQ : Hid (∀ w2, RdAt w2 R (t :: r) n o z' → Calls Tryz.prog 133 #[.pointer (some ⟨R, 0, none⟩)] w2 (ptP R g0 false n o w2 (prs n g0 0 (t :: r) o z'))) := by
          have h1 := HI.out.2.1
          have h2 := HI.out.2.2.1
          have h3 := HI.out.2.2.2.1
          have h4 : 1 ≤ o ∧ o ≤ 32 := HO.out
          exact fun w2 hw => HPP.out g0 (by omega) (t :: r) o z' w2 (by simp only [List.length_cons] at h1 ⊢; omega) (by omega) (by omega) h4.2 HI.out.2.2.2.2.1 HI.out.2.2.2.2.2.1 hw
        have HN : Hid (∀ l1 r1 z1, prs n g0 0 (t :: r) o z' = .ok (l1, r1, z1) → r1.length < (t :: r).length ∧ 0 ≤ z1 ∧ z1 ≤ 1024 ∧ l1.length = 1) := by
          intro l1 r1 z1 hp
          obtain ⟨a1, a2, a3, a4, a5⟩ := prs_ok n g0 0 _ _ _ _ _ _ hp HI.out.2.2.2.2.2.1
          have := HI.out.2.2.2.2.1
          exact ⟨a1, by omega, a3, a4 (by omega)⟩
        have HK : Hid (3 * (t :: r).length + 3 ≤ g0 + 1 ∧ g0 + 1 ≤ f ∧ L + (t :: r).length ≤ 4096 ∧ RwAt w1 w.heap.size 157 f false (.slice ao L cap) acc ∧ RdAt w1 R (t :: r) n o z' ∧ Only (fun b => b = R) w w1) := ⟨HI.out.2.1, HI.out.2.2.1, HI.out.2.2.2.1, HI.out.2.2.2.2.2.2.1, HI.out.2.2.2.2.2.2.2⟩
        clear HI
        obtain ⟨X, hX⟩ : ∃ X, X = prs n g0 0 (t :: r) o z' := ⟨_, rfl⟩
        rw [← hX] at HE HQ HN
        clear hX
        go_wp2_with fail
        refine (show Calls Tryz.prog 100 _ _ _ from HC.out).mono ?_
        rintro e w2 ⟨rfl, o2⟩
        have K2 : Hid (RwAt w2 w.heap.size 157 f false (.slice ao L cap) acc ∧ RdAt w2 R (t :: r) n o z' ∧ Only (fun b => b = R) w w2) := ⟨HK.out.2.2.2.1.only o2 (fun _ _ h => h), HK.out.2.2.2.2.1.only o2, HK.out.2.2.2.2.2.trans (o2.mono (bs' := fun b => b = R) (fun _ _ h => h.elim)) (fun _ _ g => g)⟩
        have KM : Hid (qLen w1 R = (t :: r).length) := qLen_of HK.out.2.2.2.2.1
        have KB : Hid (3 * (t :: r).length + 3 ≤ g0 + 1 ∧ g0 + 1 ≤ f ∧ L + (t :: r).length ≤ 4096) := ⟨HK.out.1, HK.out.2.1, HK.out.2.2.1⟩
        clear o2 HK HC
        go_wp2_with fail
        refine (show Calls Tryz.prog 133 _ _ _ from HQ.out _ K2.out.2.1).mono ?_
        intro e w3 g3
        clear HQ
        cases X with
        | error p =>
          obtain ⟨a, er⟩ := p
          obtain ⟨he, o3⟩ := g3
          subst he
          have O3 : Hid (Only (fun b => b = R) w w3) := K2.out.2.2.trans o3 (fun _ _ g => g)
          clear o3 K2 KM KB HN
          unfold gup
          go_wp2
          refine ⟨rfl, ?_⟩
          rw [show Z = _ from HE.out]
          exact show _ ∧ _ from ⟨rfl, O3.out⟩
        | ok p =>
          obtain ⟨l1, r1, z1⟩ := p
          obtain ⟨t1, v, hl1, he, g4⟩ := g3
          subst he
          subst hl1
          have hR : R < w.heap.size := HR.out
          have K3 : Hid (NwAt w3 w2.heap.size f false t1 v ∧ RdAt w3 R r1 n o z1 ∧ Only (fun b => b = R) w w3) := ⟨g4.out.1.deep (by have := KB.out; omega), g4.out.2.1, K2.out.2.2.trans g4.out.2.2 (fun _ _ g => g)⟩
          have W3 : RwAt w3 w.heap.size 157 f false (.slice ao L cap) acc := K2.out.1.only g4.out.2.2 (fun b hb e => by omega)
          have hlt2 : ∀ k, (Value.slice ao L cap).ownBlock = some k → k < w2.heap.size := fun k hk => by
            obtain ⟨us, S, hr, _⟩ := K2.out.1
            exact (hr.lt k hk).2
          obtain ⟨T, y, hv⟩ := g4.out.1.form
          subst hv
          have HE2 : Hid (Z = pre (acc ++ [t1]) (prs n g0 (m + 2) r1 o z1)) := by
            show Z = _
            rw [HE.out]
            exact pre_app _ _ _
          have HN2 : Hid (r1.length < (t :: r).length ∧ 0 ≤ z1 ∧ z1 ≤ 1024) := ⟨(HN.out _ _ _ rfl).1, (HN.out _ _ _ rfl).2.1, (HN.out _ _ _ rfl).2.2.1⟩
          have hsz : w.heap.size ≤ w2.heap.size := K2.out.2.2.size
          have hsz3 : w.heap.size ≤ w3.heap.size := K3.out.2.2.size
          clear g4 K2 HE HN
          have e1 : L = acc.length := HL.out
          have W4 : RwAt (w3.alloc (.cells #[.iface T y] 157)) w.heap.size 157 f false (.slice ao L cap) acc := W3.only ((Only.refl (fun _ => False) w3).alloc _) (fun _ _ h => h)
          have N4 : NwAt (w3.alloc (.cells #[.iface T y] 157)) w2.heap.size f false t1 (.iface T y) := K3.out.1.only ((Only.refl (fun _ => False) w3).alloc _) (fun _ _ h => h)
          have R4 : RdAt (w3.alloc (.cells #[.iface T y] 157)) R r1 n o z1 := K3.out.2.1.only ((Only.refl (fun _ => False) w3).alloc _)
          have O4 : Only (fun b => b = R) w (w3.alloc (.cells #[.iface T y] 157)) := K3.out.2.2.alloc _
          obtain ⟨us, S, hown, htr, hSS⟩ := W4
          rw [← e1] at hown
          have HOW : Hid ((w3.alloc (.cells #[.iface T y] 157)).ownsRow w.heap.size 157 1 (.slice ao L cap) L us) := hown
          have HAL : Hid ((∀ (j : Nat) (x : Tre), acc[j]? = some x → ∃ u, us[j]? = some u ∧ TrAt (w3.alloc (.cells #[.iface T y] 157)) S f false x u) ∧ (∀ b, S b → w.heap.size ≤ b ∧ Liv (w3.alloc (.cells #[.iface T y] 157)) b ∧ (Value.slice ao L cap).ownBlock ≠ some b) ∧ NwAt (w3.alloc (.cells #[.iface T y] 157)) w2.heap.size f false t1 (.iface T y) ∧ RdAt (w3.alloc (.cells #[.iface T y] 157)) R r1 n o z1 ∧ Only (fun b => b = R) w (w3.alloc (.cells #[.iface T y] 157)) ∧ w.heap.size ≤ w2.heap.size ∧ (∀ k, (Value.slice ao L cap).ownBlock = some k → k < w2.heap.size)) := ⟨htr, hSS, N4, R4, O4, hsz, hlt2⟩
          obtain ⟨i0, z0, hi, hz0, hz1, hz2, hz3⟩ := el_info14
          clear W3 N4 R4 O4 hown htr hSS K3 hlt2 hR hsz e1
          go_wp2_with (at_builtin; refine wpList_append_own_at _ rfl _ _ 189 rfl w.heap.size 157 i0 z0 1 16 Tryz.underlying189 hi hz0 hz1 hz2 hz3 (by decide) _ L us rfl HOW.out ⟨w3.heap.size, 0, none⟩ 1 1 [.iface T y] rfl rfl ?c1 ?c2 ?c3 ?c4 ?c5 ?_)
          case c1 =>
            intro j u hj
            rcases j with _ | j
            · simp at hj
              subst hj
              simp [Addr.add]
            · simp at hj
          case c2 =>
            intro u hu
            simp only [List.mem_cons, List.not_mem_nil, or_false] at hu
            subst hu
            rfl
          case c3 => have := KB.out.2.2; simp only [List.length_cons] at this; unfold maxLen; omega
          case c4 => have := KB.out.2.2; simp only [List.length_cons] at this; omega
          case c5 => simp; omega
          intro v' w4 hown' hgrow _ hat
          have e1 : L = acc.length := HL.out
          obtain ⟨a1, a2, a3, a4, a5, a6, a7⟩ := HAL.out
          have W5 : RwAt w4 w.heap.size 157 f false v' (acc ++ [t1]) := RwAt.snoc hgrow (by rw [← e1]; exact HOW.out) a1 a2 a3 a6 a7 (by rw [← e1]; exact hown') (by simpa using hat)
          have hR2 : R < w.heap.size := HR.out
          have og : Only (fun k => (Value.slice ao L cap).ownBlock = some k) (w3.alloc (.cells #[.iface T y] 157)) w4 := (Only.refl _ _).grown hgrow (fun k e _ => e)
          have hge : ∀ k, (Value.slice ao L cap).ownBlock = some k → w.heap.size ≤ k := fun k hk => (HOW.out.lt k hk).1
          have R5 : RdAt w4 R r1 n o z1 := a4.other (fun b hb e => by have := hge b e; omega) og
          have O5 : Only (fun b => b = R) w w4 := a5.trans og (fun k hk e => by have := hge k e; omega)
          obtain ⟨ao', cap', hv'⟩ := W5.form
          subst hv'
          have HK5 : Hid (RwAt w4 w.heap.size 157 f false (.slice ao' (acc ++ [t1]).length cap') (acc ++ [t1]) ∧ RdAt w4 R r1 n o z1 ∧ Only (fun b => b = R) w w4) := ⟨W5, R5, O5⟩
          clear W5 R5 O5 og hge HAL HOW hown' hgrow hat a1 a2 a3 a4 a5 a6 a7 hi hz0 hz1 hz2 hz3 hsz3
          have KB2 : Hid (3 * r1.length + 3 ≤ g0 ∧ g0 ≤ f ∧ (acc ++ [t1]).length + r1.length ≤ 4096) := by
            have b1 := KB.out
            have b2 := HN2.out.1
            simp only [List.length_cons, List.length_append, List.length_nil] at *
            exact ⟨by omega, by omega, by omega⟩
          have KQ : Hid (qLen w4 R < qLen w1 R) := by
            show qLen w4 R < qLen w1 R
            rw [KM.out, qLen_of HK5.out.2.1]
            exact HN2.out.1
          clear KB KM e1 hR2
          obtain ⟨L2, hL2⟩ : ∃ L2, L2 = (acc ++ [t1]).length := ⟨_, rfl⟩
          have HL2 : Hid (L2 = (acc ++ [t1]).length) := hL2
          rw [← hL2] at HK5
          rw [← hL2]
          clear hL2
          go_wp2
          go_roundw
          case rel => exact ⟨g0, r1, z1, acc ++ [t1], ao', cap', by rw [show L2 = _ from HL2.out], HE2.out, KB2.out.1, KB2.out.2.1, KB2.out.2.2, HN2.out.2.1, HN2.out.2.2, by have := HK5.out.1; rw [show L2 = _ from HL2.out] at this; exact this, HK5.out.2.1, HK5.out.2.2⟩
          case measure => exact KQ.out
end Go.Proofs.YtfecmpebnianpaaGreatDoor
namespace Go.Proofs.YtfecmpebnianpaaGreatDoor
open Go.RowKit
set_option linter.unusedSimpArgs false
set_option linter.unusedVariables false
theorem parts_any (R : Nat) (n : Int) : ∀ (f f' : Nat), f' < f → PtC R n f' 0 133 false ∧ PtC R n f' 1 102 true ∧ UpC R n f' 2 151 157 false 133 ∧ UpC R n f' 3 131 53 true 102 ∧ UpC R n f' 4 131 53 true 102
  | 0, f', h => by omega
  | f + 1, f', h => by
    have ih := parts_any R n f
    by_cases hf : f' < f
    · exact ih f' hf
    · obtain rfl : f' = f := by omega
      have u2 := up14_of R n f' 0 rfl (fun g hg => (ih g hg).1)
      have u3 := up13_of R n f' 1 (.inl rfl) (fun g hg => (ih g hg).2.1)
      have u4 := up13_of R n f' 2 (.inr rfl) (fun g hg => (ih g hg).2.1)
      refine ⟨?_, ?_, u2, u3, u4⟩
      · cases f' with
        | zero => intro q o z w h0; omega
        | succ g => exact lit_of R n g (ih g (by omega)).2.2.2.1 (ih g (by omega)).2.2.1
      · cases f' with
        | zero => intro q o z w h0; omega
        | succ g => exact item_of R n g (ih g (by omega)).1
/-- the names up to a word -/
def sdR (n : Int) (e : ByteArray) : Nat → List Tok → Except (Int × Int) (Nat × List Tok)
  | _, [] => .error (n, 9)
  | k, t :: r => if isB t e then .ok (k, r) else if nmB t then (if k = 16 then .error (t.a, 11) else sdR n e (k + 1) r) else .error (t.a, 9)
theorem sdR_len (n : Int) (e : ByteArray) : ∀ (k : Nat) (q : List Tok) (j : Nat) (r : List Tok), sdR n e k q = .ok (j, r) → r.length < q.length ∧ (k ≤ 16 → j ≤ 16)
  | k, [], j, r, h => by simp [sdR] at h
  | k, t :: q, j, r, h => by
    simp only [sdR] at h
    repeat' split at h
    · simp only [Except.ok.injEq, Prod.mk.injEq] at h
      obtain ⟨rfl, rfl⟩ := h
      exact ⟨by simp, fun h => h⟩
    · simp at h
    · obtain ⟨h1, h2⟩ := sdR_len n e (k + 1) q j r h
      refine ⟨by simp only [List.length_cons]; omega, fun hk => h2 (by omega)⟩
    · simp at h
/-- what reading a side answers -/
def sdP (R : Nat) (n o z : Int) (w : World) (r : Except (Int × Int) (Nat × List Tok)) (x : Ending) (w' : World) : Prop :=
  match r with
  | .error (a, e) => x = gup a e ∧ Only (fun b => b = R) w w'
  | .ok (k, q) => x = .returned (.int .i64 (k : Int)) ∧ Hid (RdAt w' R q n o z ∧ Only (fun b => b = R) w w')
set_option maxRecDepth 100000 in
set_option maxHeartbeats 4000000 in
theorem side_any (R : Nat) (n o z : Int) (e : ByteArray) (q : List Tok) (w : World) (h : RdAt w R q n o z) :
    Calls Tryz.prog 130 #[.pointer (some ⟨R, 0, none⟩), .string e] w (sdP R n o z w (sdR n e 0 q)) := by
  obtain ⟨Z, hZ⟩ : ∃ Z, Z = sdR n e 0 q := ⟨_, rfl⟩
  rw [← hZ]
  have HZ : Hid (Z = sdR n e 0 q) := hZ
  have H0 : Hid (RdAt w R q n o z) := h
  clear hZ h
  go_enter Tryz.func130, Tryz.ntmps130
  go_wp2
  go_loopw [5] (fun r5 wr => ∃ (k : Nat) (q' : List Tok), r5 = .int .i64 (k : Int) ∧ Hid (Z = sdR n e k q' ∧ k ≤ 16 ∧ RdAt wr R q' n o z ∧ Only (fun b => b = R) w wr)) (fun _ wr => qLen wr R)
  case atStart => exact ⟨0, q, rfl, HZ.out, by omega, H0.out, Only.refl _ _⟩
  case round =>
    obtain ⟨k, q', rfl, HI⟩ := hrel
    obtain ⟨w1, rfl⟩ : ∃ w1, w1 = wr := ⟨_, rfl⟩
    clear HZ H0
    cases q' with
    | nil =>
      have HE : Hid (Z = .error (n, 9)) := by show Z = _; rw [HI.out.1]; rfl
      have HC : Hid (Calls Tryz.prog 100 #[.pointer (some ⟨R, 0, none⟩), .string e] w1 fun x w' => x = gup n 9 ∧ Only (fun _ => False) w1 w') := is_nil R n o z e w1 HI.out.2.2.1
      have O1 : Hid (Only (fun b => b = R) w w1) := HI.out.2.2.2
      clear HI
      go_wp2_with fail
      refine (show Calls Tryz.prog 100 _ _ _ from HC.out).mono ?_
      rintro e w2 ⟨rfl, o2⟩
      have O2 : Hid (Only (fun b => b = R) w w2) := O1.out.trans (o2.mono (bs' := fun b => b = R) (fun _ _ h => h.elim)) (fun _ _ g => g)
      clear o2 O1 HC
      unfold gup
      go_wp2
      refine ⟨rfl, ?_⟩
      rw [show Z = _ from HE.out]
      exact show _ ∧ _ from ⟨rfl, O2.out⟩
    | cons t r =>
      have HC : Hid (Calls Tryz.prog 100 #[.pointer (some ⟨R, 0, none⟩), .string e] w1 fun x w' => x = .returned (.bool (isB t e)) ∧ Only (fun _ => False) w1 w') := is_cons R t r n o z e w1 HI.out.2.2.1
      have HK : Hid (RdAt w1 R (t :: r) n o z ∧ Only (fun b => b = R) w w1 ∧ k ≤ 16) := ⟨HI.out.2.2.1, HI.out.2.2.2, HI.out.2.1⟩
      have HE0 : Hid (Z = if isB t e then .ok (k, r) else if nmB t then (if k = 16 then .error (t.a, 11) else sdR n e (k + 1) r) else .error (t.a, 9)) := by show Z = _; rw [HI.out.1]; rfl
      clear HI
      cases hb : isB t e with
      | true =>
        rw [hb] at HC HE0
        have HE : Hid (Z = .ok (k, r)) := by show Z = _; rw [HE0.out]; rfl
        clear HE0
        go_wp2_with fail
        refine (show Calls Tryz.prog 100 _ _ _ from HC.out).mono ?_
        rintro e w2 ⟨rfl, o2⟩
        have K2 : Hid (RdAt w2 R (t :: r) n o z ∧ Only (fun b => b = R) w w2) := ⟨HK.out.1.only o2, HK.out.2.1.trans (o2.mono (bs' := fun b => b = R) (fun _ _ h => h.elim)) (fun _ _ g => g)⟩
        clear o2 HK HC
        go_wp2_with fail
        refine (show Calls Tryz.prog 129 _ _ _ from take_cons R t r n o z _ K2.out.1).mono ?_
        rintro e w3 ⟨rfl, g3⟩
        have K3 : Hid (RdAt w3 R r n o z ∧ Only (fun b => b = R) w w3) := ⟨g3.out.1, K2.out.2.trans g3.out.2 (fun _ _ g => g)⟩
        clear K2 g3
        obtain ⟨tk, tt, tn, ta⟩ := t
        simp only [Tok.v]
        go_wp2
        go_ret
        rw [show Z = _ from HE.out]
        exact show _ ∧ Hid _ from ⟨rfl, K3⟩
      | false =>
        rw [hb] at HC HE0
        have HN : Hid (∀ w2, RdAt w2 R (t :: r) n o z → Calls Tryz.prog 128 #[.pointer (some ⟨R, 0, none⟩)] w2 fun x w' => x = .returned (.bool (nmB t)) ∧ Only (fun _ => False) w2 w') := fun w2 hw => named_cons R t r n o z w2 hw
        cases hn : nmB t with
        | false =>
          rw [hn] at HN HE0
          have HE : Hid (Z = .error (t.a, 9)) := by show Z = _; rw [HE0.out]; rfl
          clear HE0
          go_wp2_with fail
          refine (show Calls Tryz.prog 100 _ _ _ from HC.out).mono ?_
          rintro e w2 ⟨rfl, o2⟩
          have K2 : Hid (RdAt w2 R (t :: r) n o z ∧ Only (fun b => b = R) w w2) := ⟨HK.out.1.only o2, HK.out.2.1.trans (o2.mono (bs' := fun b => b = R) (fun _ _ h => h.elim)) (fun _ _ g => g)⟩
          clear o2 HK HC
          go_wp2_with fail
          refine (show Calls Tryz.prog 128 _ _ _ from HN.out _ K2.out.1).mono ?_
          rintro e w3 ⟨rfl, o3⟩
          have K3 : Hid (RdAt w3 R (t :: r) n o z ∧ Only (fun b => b = R) w w3) := ⟨K2.out.1.only o3, K2.out.2.trans (o3.mono (bs' := fun b => b = R) (fun _ _ h => h.elim)) (fun _ _ g => g)⟩
          clear o3 K2 HN
          go_wp2_with fail
          refine (show Calls Tryz.prog 127 _ _ _ from must_false R (t :: r) n o z _ K3.out.1).mono ?_
          rintro e w4 ⟨rfl, o4⟩
          have O4 : Hid (Only (fun b => b = R) w w4) := K3.out.2.trans (o4.mono (bs' := fun b => b = R) (fun _ _ h => h.elim)) (fun _ _ g => g)
          clear o4 K3
          unfold gup
          go_wp2
          refine ⟨rfl, ?_⟩
          rw [show Z = _ from HE.out]
          exact show _ ∧ _ from ⟨rfl, O4.out⟩
        | true =>
          rw [hn] at HN HE0
          go_wp2_with fail
          refine (show Calls Tryz.prog 100 _ _ _ from HC.out).mono ?_
          rintro e w2 ⟨rfl, o2⟩
          have K2 : Hid (RdAt w2 R (t :: r) n o z ∧ Only (fun b => b = R) w w2 ∧ qLen w1 R = (t :: r).length ∧ k ≤ 16) := ⟨HK.out.1.only o2, HK.out.2.1.trans (o2.mono (bs' := fun b => b = R) (fun _ _ h => h.elim)) (fun _ _ g => g), qLen_of HK.out.1, HK.out.2.2⟩
          clear o2 HK HC
          go_wp2_with fail
          refine (show Calls Tryz.prog 128 _ _ _ from HN.out _ K2.out.1).mono ?_
          rintro e w3 ⟨rfl, o3⟩
          have K3 : Hid (RdAt w3 R (t :: r) n o z ∧ Only (fun b => b = R) w w3 ∧ qLen w1 R = (t :: r).length ∧ k ≤ 16) := ⟨K2.out.1.only o3, K2.out.2.1.trans (o3.mono (bs' := fun b => b = R) (fun _ _ h => h.elim)) (fun _ _ g => g), K2.out.2.2⟩
          clear o3 K2 HN
          go_wp2_with fail
          refine (show Calls Tryz.prog 127 _ _ _ from must_true R _).mono ?_
          rintro e w4 ⟨rfl, rfl⟩
          by_cases h16 : k = 16
          · have HE : Hid (Z = .error (t.a, 11)) := by show Z = _; rw [HE0.out]; simp [h16]
            subst h16
            clear HE0
            go_wp2_with fail
            refine (show Calls Tryz.prog 149 _ _ _ from fault_any R (t :: r) n o z 11 _ K3.out.1).mono ?_
            rintro e w5 ⟨rfl, o5⟩
            have O5 : Hid (Only (fun b => b = R) w w5) := K3.out.2.1.trans (o5.mono (bs' := fun b => b = R) (fun _ _ h => h.elim)) (fun _ _ g => g)
            clear o5 K3
            go_wp2
            refine ⟨rfl, ?_⟩
            rw [show Z = _ from HE.out]
            exact show _ ∧ _ from ⟨rfl, O5.out⟩
          · have HE : Hid (Z = sdR n e (k + 1) r) := by show Z = _; rw [HE0.out]; simp [h16]
            have i1 : ((k : Int) == 16) = false := by simp; omega
            have i2 : k ≤ 16 := K3.out.2.2.2
            clear HE0
            go_wp2_with fail
            refine (show Calls Tryz.prog 129 _ _ _ from take_cons R t r n o z _ K3.out.1).mono ?_
            rintro e w5 ⟨rfl, g5⟩
            have K5 : Hid (RdAt w5 R r n o z ∧ Only (fun b => b = R) w w5 ∧ qLen w5 R < qLen w1 R ∧ k + 1 ≤ 16) := ⟨g5.out.1, K3.out.2.1.trans g5.out.2 (fun _ _ g => g), by rw [K3.out.2.2.1, qLen_of g5.out.1]; simp, by omega⟩
            clear g5 K3
            obtain ⟨tk, tt, tn, ta⟩ := t
            simp only [Tok.v]
            go_wp2
            go_roundw
            case rel => exact ⟨k + 1, r, by simp, HE.out, K5.out.2.2.2, K5.out.1, K5.out.2.1⟩
            case measure => exact K5.out.2.2.1
end Go.Proofs.YtfecmpebnianpaaGreatDoor
