/- Parts up to a word: parse.upTo[api.Value]. Literals, items and brackets as a whole; one side of an effect. A definition. A form. readAll's deferred function, where the reader has not given up. readAll's deferred function, where the reader has given up. -/
import Derived.Test.YtapehdolnljnoaaDoorGad
import Derived.Test.YtapehdolnljnoaaDoorGac
import Derived.Defers
import Derived.Recover
namespace Go.Proofs.YtapehdolnljnoaaDoor
open Go.RowKit
set_option linter.unusedSimpArgs false
set_option linter.unusedVariables false
set_option maxRecDepth 100000 in
theorem el_info14 : ∃ i z, Tryd.prog.info? 93 = some i ∧ i.zero = some z ∧ i.size = 1 ∧ i.bytes = 16 ∧ z.cells.size = 1 := ⟨_, _, rfl, rfl, rfl, rfl, rfl⟩
set_option maxRecDepth 100000 in
set_option maxHeartbeats 4000000 in
theorem up14_of (R : Nat) (n : Int) (f m : Nat) (hm : m = 0) (HP : ∀ g, g < f → PtC R n g 0 46 false) : UpC R n f (m + 2) 59 93 false 46 := by
  intro q o z w hl hl2 ho ho1 hz hz1 h
  have e2 : m + 2 - 2 = m := by omega
  rw [e2]
  have hmin : min m 1 = 0 := by omega
  obtain ⟨Z, hZ⟩ : ∃ Z, Z = prs n f (m + 2) q o z := ⟨_, rfl⟩
  rw [← hZ]
  have HZ : Hid (Z = pre [] (prs n f (m + 2) q o z)) := by show Z = _; rw [pre_nil]; exact hZ
  have HM : Hid (min m 1 = 0) := hmin
  have HB : Hid (3 * q.length + 3 ≤ f ∧ q.length ≤ 4096 ∧ 0 ≤ z ∧ z ≤ 1024) := ⟨hl, hl2, hz, hz1⟩
  have H0 : Hid (RdAt w R q n o z) := h
  have HPP : Hid (∀ g, g < f → PtC R n g 0 46 false) := HP
  have HR : Hid (R < w.heap.size) := h.lt
  obtain ⟨sh, hsh⟩ : ∃ sh, sh = shB m := ⟨_, rfl⟩
  rw [← hsh]
  have HS : Hid (sh = shB m) := hsh
  have HO : Hid (1 ≤ o ∧ o ≤ 32) := ⟨ho, ho1⟩
  clear e2 hZ hmin hl hl2 hz hz1 h HP hsh hm ho ho1
  go_enter Tryd.func59, Tryd.ntmps59
  go_wp2
  go_loopw [7] (fun r7 wr => ∃ (g : Nat) (q' : List Tok) (z' : Int) (acc : List Tre) (ao : Option Addr) (cap : Nat), r7 = .slice ao acc.length cap ∧ Hid (Z = pre acc (prs n g (m + 2) q' o z') ∧ 3 * q'.length + 3 ≤ g ∧ g ≤ f ∧ acc.length + q'.length ≤ 4096 ∧ 0 ≤ z' ∧ z' ≤ 1024 ∧ RwAt wr w.heap.size 93 f false (.slice ao acc.length cap) acc ∧ RdAt wr R q' n o z' ∧ Only (fun b => b = R) w wr)) (fun _ wr => qLen wr R)
  case atStart => exact ⟨f, q, z, [], none, 0, rfl, HZ.out, HB.out.1, Nat.le_refl _, by simpa using HB.out.2.1, HB.out.2.2.1, HB.out.2.2.2, rw_nil _ _ _ _ _, H0.out, Only.refl _ _⟩
  case round =>
    obtain ⟨g, q', z', acc, ao, cap, rfl, HI⟩ := hrel
    obtain ⟨w1, rfl⟩ : ∃ w1, w1 = wr := ⟨_, rfl⟩
    clear HZ HB H0
    obtain ⟨g0, rfl⟩ : ∃ g0, g = g0 + 1 := ⟨g - 1, by have := HI.out.2.1; omega⟩
    obtain ⟨L, hL⟩ : ∃ L, L = acc.length := ⟨_, rfl⟩
    have HL : Hid (L = acc.length) := hL
    rw [← hL] at HI ⊢
    clear hL
    cases q' with
    | nil =>
      have HE : Hid (Z = .error (n, 9)) := by show Z = _; rw [HI.out.1]; rfl
      have HC : Hid (Calls Tryd.prog 34 #[.pointer (some ⟨R, 0, none⟩), .string sh] w1 fun x w' => x = gup n 9 ∧ Only (fun _ => False) w1 w') := is_nil R n o z' sh w1 HI.out.2.2.2.2.2.2.2.1
      have O1 : Hid (Only (fun b => b = R) w w1) := HI.out.2.2.2.2.2.2.2.2
      clear HI
      go_wp2_with fail
      refine (show Calls Tryd.prog 34 _ _ _ from HC.out).mono ?_
      rintro e w2 ⟨rfl, o2⟩
      have O2 : Hid (Only (fun b => b = R) w w2) := O1.out.trans (o2.mono (bs' := fun b => b = R) (fun _ _ h => h.elim)) (fun _ _ g => g)
      clear o2 O1 HC
      unfold gup
      go_wp2
      refine ⟨rfl, ?_⟩
      rw [show Z = _ from HE.out]
      exact show _ ∧ _ from ⟨rfl, O2.out⟩
    | cons t r =>
      have HC : Hid (Calls Tryd.prog 34 #[.pointer (some ⟨R, 0, none⟩), .string sh] w1 fun x w' => x = .returned (.bool (isB t sh)) ∧ Only (fun _ => False) w1 w') := is_cons R t r n o z' sh w1 HI.out.2.2.2.2.2.2.2.1
      cases hb : isB t sh with
      | true =>
        have HE : Hid (Z = .ok (acc, r, z')) := by
          show Z = _
          rw [HI.out.1, prs_up, ← show sh = _ from HS.out, hb, if_pos rfl]
          simp [pre]
        rw [hb] at HC
        have HK : Hid (RwAt w1 w.heap.size 93 f false (.slice ao L cap) acc ∧ RdAt w1 R (t :: r) n o z' ∧ Only (fun b => b = R) w w1) := ⟨HI.out.2.2.2.2.2.2.1, HI.out.2.2.2.2.2.2.2⟩
        clear HI
        go_wp2_with fail
        refine (show Calls Tryd.prog 34 _ _ _ from HC.out).mono ?_
        rintro e w2 ⟨rfl, o2⟩
        have K2 : Hid (RwAt w2 w.heap.size 93 f false (.slice ao L cap) acc ∧ RdAt w2 R (t :: r) n o z' ∧ Only (fun b => b = R) w w2) := ⟨HK.out.1.only o2 (fun _ _ h => h), HK.out.2.1.only o2, HK.out.2.2.trans (o2.mono (bs' := fun b => b = R) (fun _ _ h => h.elim)) (fun _ _ g => g)⟩
        clear o2 HK HC
        go_wp2_with fail
        refine (show Calls Tryd.prog 53 _ _ _ from take_consO R t r n o z' _ K2.out.2.1).mono ?_
        rintro e w3 ⟨rfl, c3, f3, g3⟩
        have K3 : Hid (RwAt w3 w.heap.size 93 f false (.slice ao L cap) acc ∧ RdAt w3 R r n o z' ∧ Only (fun b => b = R) w w3) := ⟨K2.out.1.only g3.out.2 (fun b hb e => by have : R < w.heap.size := HR.out; omega), g3.out.1, K2.out.2.2.trans g3.out.2 (fun _ _ g => g)⟩
        clear K2 g3
        obtain ⟨tk, tt, tn, ta⟩ := t
        simp only [Tok.v]
        have hoo : 1 ≤ o ∧ o ≤ 32 := HO.out
        have ho1 := hoo.1
        have ho2 := hoo.2
        clear hoo
        go_wp2
        go_ret
        rw [show Z = _ from HE.out]
        have e1 : L = acc.length := HL.out
        obtain ⟨r1, r2⟩ := K3.out.2.1.open_ (o - 1)
        refine show ∃ ao cap, _ ∧ Hid _ from ⟨ao, cap, by rw [← e1]; rfl, ?_⟩
        rw [← e1]
        exact ⟨K3.out.1.only r2 (fun b hb e => by have : R < w.heap.size := HR.out; omega), r1, K3.out.2.2.trans r2 (fun _ _ g => g)⟩
      | false =>
        rw [hb] at HC
        have HE : Hid (Z = pre acc (match prs n g0 0 (t :: r) o z' with
            | .error e => .error e
            | .ok (l1, r1, z1) => pre l1 (prs n g0 (m + 2) r1 o z1))) := by
          show Z = _
          rw [HI.out.1, prs_up, ← show sh = _ from HS.out, hb, if_neg (by simp), show min m 1 = _ from HM.out]
          try rfl
        have HQ : Hid (∀ w2, RdAt w2 R (t :: r) n o z' → Calls Tryd.prog 46 #[.pointer (some ⟨R, 0, none⟩)] w2 (ptP R g0 false n o w2 (prs n g0 0 (t :: r) o z'))) := by
          have h1 := HI.out.2.1
          have h2 := HI.out.2.2.1
          have h3 := HI.out.2.2.2.1
          have h4 : 1 ≤ o ∧ o ≤ 32 := HO.out
          exact fun w2 hw => HPP.out g0 (by omega) (t :: r) o z' w2 (by simp only [List.length_cons] at h1 ⊢; omega) (by omega) (by omega) h4.2 HI.out.2.2.2.2.1 HI.out.2.2.2.2.2.1 hw
        have HN : Hid (∀ l1 r1 z1, prs n g0 0 (t :: r) o z' = .ok (l1, r1, z1) → r1.length < (t :: r).length ∧ 0 ≤ z1 ∧ z1 ≤ 1024 ∧ l1.length = 1) := by
          intro l1 r1 z1 hp
          obtain ⟨a1, a2, a3, a4, a5⟩ := prs_ok n g0 0 _ _ _ _ _ _ hp HI.out.2.2.2.2.2.1
          have := HI.out.2.2.2.2.1
          exact ⟨a1, by omega, a3, a4 (by omega)⟩
        have HK : Hid (3 * (t :: r).length + 3 ≤ g0 + 1 ∧ g0 + 1 ≤ f ∧ L + (t :: r).length ≤ 4096 ∧ RwAt w1 w.heap.size 93 f false (.slice ao L cap) acc ∧ RdAt w1 R (t :: r) n o z' ∧ Only (fun b => b = R) w w1) := ⟨HI.out.2.1, HI.out.2.2.1, HI.out.2.2.2.1, HI.out.2.2.2.2.2.2.1, HI.out.2.2.2.2.2.2.2⟩
        clear HI
        obtain ⟨X, hX⟩ : ∃ X, X = prs n g0 0 (t :: r) o z' := ⟨_, rfl⟩
        rw [← hX] at HE HQ HN
        clear hX
        go_wp2_with fail
        refine (show Calls Tryd.prog 34 _ _ _ from HC.out).mono ?_
        rintro e w2 ⟨rfl, o2⟩
        have K2 : Hid (RwAt w2 w.heap.size 93 f false (.slice ao L cap) acc ∧ RdAt w2 R (t :: r) n o z' ∧ Only (fun b => b = R) w w2) := ⟨HK.out.2.2.2.1.only o2 (fun _ _ h => h), HK.out.2.2.2.2.1.only o2, HK.out.2.2.2.2.2.trans (o2.mono (bs' := fun b => b = R) (fun _ _ h => h.elim)) (fun _ _ g => g)⟩
        have KM : Hid (qLen w1 R = (t :: r).length) := qLen_of HK.out.2.2.2.2.1
        have KB : Hid (3 * (t :: r).length + 3 ≤ g0 + 1 ∧ g0 + 1 ≤ f ∧ L + (t :: r).length ≤ 4096) := ⟨HK.out.1, HK.out.2.1, HK.out.2.2.1⟩
        clear o2 HK HC
        go_wp2_with fail
        refine (show Calls Tryd.prog 46 _ _ _ from HQ.out _ K2.out.2.1).mono ?_
        intro e w3 g3
        clear HQ
        cases X with
        | error p =>
          obtain ⟨a, er⟩ := p
          obtain ⟨he, o3⟩ := g3
          subst he
          have O3 : Hid (Only (fun b => b = R) w w3) := K2.out.2.2.trans o3 (fun _ _ g => g)
          clear o3 K2 KM KB HN
          unfold gup
          go_wp2
          refine ⟨rfl, ?_⟩
          rw [show Z = _ from HE.out]
          exact show _ ∧ _ from ⟨rfl, O3.out⟩
        | ok p =>
          obtain ⟨l1, r1, z1⟩ := p
          obtain ⟨t1, v, hl1, he, g4⟩ := g3
          subst he
          subst hl1
          have hR : R < w.heap.size := HR.out
          have K3 : Hid (NwAt w3 w2.heap.size f false t1 v ∧ RdAt w3 R r1 n o z1 ∧ Only (fun b => b = R) w w3) := ⟨g4.out.1.deep (by have := KB.out; omega), g4.out.2.1, K2.out.2.2.trans g4.out.2.2 (fun _ _ g => g)⟩
          have W3 : RwAt w3 w.heap.size 93 f false (.slice ao L cap) acc := K2.out.1.only g4.out.2.2 (fun b hb e => by omega)
          have hlt2 : ∀ k, (Value.slice ao L cap).ownBlock = some k → k < w2.heap.size := fun k hk => by
            obtain ⟨us, S, hr, _⟩ := K2.out.1
            exact (hr.lt k hk).2
          obtain ⟨T, y, hv⟩ := g4.out.1.form
          subst hv
          have HE2 : Hid (Z = pre (acc ++ [t1]) (prs n g0 (m + 2) r1 o z1)) := by
            show Z = _
            rw [HE.out]
            exact pre_app _ _ _
          have HN2 : Hid (r1.length < (t :: r).length ∧ 0 ≤ z1 ∧ z1 ≤ 1024) := ⟨(HN.out _ _ _ rfl).1, (HN.out _ _ _ rfl).2.1, (HN.out _ _ _ rfl).2.2.1⟩
          have hsz : w.heap.size ≤ w2.heap.size := K2.out.2.2.size
          have hsz3 : w.heap.size ≤ w3.heap.size := K3.out.2.2.size
          clear g4 K2 HE HN
          have e1 : L = acc.length := HL.out
          have W4 : RwAt (w3.alloc (.cells #[.iface T y] 93)) w.heap.size 93 f false (.slice ao L cap) acc := W3.only ((Only.refl (fun _ => False) w3).alloc _) (fun _ _ h => h)
          have N4 : NwAt (w3.alloc (.cells #[.iface T y] 93)) w2.heap.size f false t1 (.iface T y) := K3.out.1.only ((Only.refl (fun _ => False) w3).alloc _) (fun _ _ h => h)
          have R4 : RdAt (w3.alloc (.cells #[.iface T y] 93)) R r1 n o z1 := K3.out.2.1.only ((Only.refl (fun _ => False) w3).alloc _)
          have O4 : Only (fun b => b = R) w (w3.alloc (.cells #[.iface T y] 93)) := K3.out.2.2.alloc _
          obtain ⟨us, S, hown, htr, hSS⟩ := W4
          rw [← e1] at hown
          have HOW : Hid ((w3.alloc (.cells #[.iface T y] 93)).ownsRow w.heap.size 93 1 (.slice ao L cap) L us) := hown
          have HAL : Hid ((∀ (j : Nat) (x : Tre), acc[j]? = some x → ∃ u, us[j]? = some u ∧ TrAt (w3.alloc (.cells #[.iface T y] 93)) S f false x u) ∧ (∀ b, S b → w.heap.size ≤ b ∧ b < (w3.alloc (.cells #[.iface T y] 93)).heap.size ∧ (Value.slice ao L cap).ownBlock ≠ some b) ∧ NwAt (w3.alloc (.cells #[.iface T y] 93)) w2.heap.size f false t1 (.iface T y) ∧ RdAt (w3.alloc (.cells #[.iface T y] 93)) R r1 n o z1 ∧ Only (fun b => b = R) w (w3.alloc (.cells #[.iface T y] 93)) ∧ w.heap.size ≤ w2.heap.size ∧ (∀ k, (Value.slice ao L cap).ownBlock = some k → k < w2.heap.size)) := ⟨htr, hSS, N4, R4, O4, hsz, hlt2⟩
          obtain ⟨i0, z0, hi, hz0, hz1, hz2, hz3⟩ := el_info14
          clear W3 N4 R4 O4 hown htr hSS K3 hlt2 hR hsz e1
          go_wp2_with (at_builtin; refine wpList_append_own_at _ rfl _ _ 114 rfl w.heap.size 93 i0 z0 1 16 Tryd.underlying114 hi hz0 hz1 hz2 hz3 (by decide) _ L us rfl HOW.out ⟨w3.heap.size, 0, none⟩ 1 1 [.iface T y] rfl rfl ?c1 ?c2 ?c3 ?c4 ?c5 ?_)
          case c1 =>
            intro j u hj
            rcases j with _ | j
            · simp at hj
              subst hj
              simp [Addr.add]
            · simp at hj
          case c2 =>
            intro u hu
            simp only [List.mem_cons, List.not_mem_nil, or_false] at hu
            subst hu
            rfl
          case c3 => have := KB.out.2.2; simp only [List.length_cons] at this; unfold maxLen; omega
          case c4 => have := KB.out.2.2; simp only [List.length_cons] at this; omega
          case c5 => simp; omega
          intro v' w4 hown' hgrow _ hat
          have e1 : L = acc.length := HL.out
          obtain ⟨a1, a2, a3, a4, a5, a6, a7⟩ := HAL.out
          have W5 : RwAt w4 w.heap.size 93 f false v' (acc ++ [t1]) := RwAt.snoc hgrow (by rw [← e1]; exact HOW.out) a1 a2 a3 a6 a7 (by rw [← e1]; exact hown') (by simpa using hat)
          have hR2 : R < w.heap.size := HR.out
          have og : Only (fun k => (Value.slice ao L cap).ownBlock = some k) (w3.alloc (.cells #[.iface T y] 93)) w4 := (Only.refl _ _).grown hgrow (fun k e _ => e)
          have hge : ∀ k, (Value.slice ao L cap).ownBlock = some k → w.heap.size ≤ k := fun k hk => (HOW.out.lt k hk).1
          have R5 : RdAt w4 R r1 n o z1 := a4.other (fun b hb e => by have := hge b e; omega) og
          have O5 : Only (fun b => b = R) w w4 := a5.trans og (fun k hk e => by have := hge k e; omega)
          obtain ⟨ao', cap', hv'⟩ := W5.form
          subst hv'
          have HK5 : Hid (RwAt w4 w.heap.size 93 f false (.slice ao' (acc ++ [t1]).length cap') (acc ++ [t1]) ∧ RdAt w4 R r1 n o z1 ∧ Only (fun b => b = R) w w4) := ⟨W5, R5, O5⟩
          clear W5 R5 O5 og hge HAL HOW hown' hgrow hat a1 a2 a3 a4 a5 a6 a7 hi hz0 hz1 hz2 hz3 hsz3
          have KB2 : Hid (3 * r1.length + 3 ≤ g0 ∧ g0 ≤ f ∧ (acc ++ [t1]).length + r1.length ≤ 4096) := by
            have b1 := KB.out
            have b2 := HN2.out.1
            simp only [List.length_cons, List.length_append, List.length_nil] at *
            exact ⟨by omega, by omega, by omega⟩
          have KQ : Hid (qLen w4 R < qLen w1 R) := by
            show qLen w4 R < qLen w1 R
            rw [KM.out, qLen_of HK5.out.2.1]
            exact HN2.out.1
          clear KB KM e1 hR2
          obtain ⟨L2, hL2⟩ : ∃ L2, L2 = (acc ++ [t1]).length := ⟨_, rfl⟩
          have HL2 : Hid (L2 = (acc ++ [t1]).length) := hL2
          rw [← hL2] at HK5
          rw [← hL2]
          clear hL2
          go_wp2
          go_roundw
          case rel => exact ⟨g0, r1, z1, acc ++ [t1], ao', cap', by rw [show L2 = _ from HL2.out], HE2.out, KB2.out.1, KB2.out.2.1, KB2.out.2.2, HN2.out.2.1, HN2.out.2.2, by have := HK5.out.1; rw [show L2 = _ from HL2.out] at this; exact this, HK5.out.2.1, HK5.out.2.2⟩
          case measure => exact KQ.out
end Go.Proofs.YtapehdolnljnoaaDoor
namespace Go.Proofs.YtapehdolnljnoaaDoor
open Go.RowKit
set_option linter.unusedSimpArgs false
set_option linter.unusedVariables false
theorem parts_any (R : Nat) (n : Int) : ∀ (f f' : Nat), f' < f → PtC R n f' 0 46 false ∧ PtC R n f' 1 31 true ∧ UpC R n f' 2 59 93 false 46 ∧ UpC R n f' 3 55 53 true 31 ∧ UpC R n f' 4 55 53 true 31
  | 0, f', h => by omega
  | f + 1, f', h => by
    have ih := parts_any R n f
    by_cases hf : f' < f
    · exact ih f' hf
    · obtain rfl : f' = f := by omega
      have u2 := up14_of R n f' 0 rfl (fun g hg => (ih g hg).1)
      have u3 := up13_of R n f' 1 (.inl rfl) (fun g hg => (ih g hg).2.1)
      have u4 := up13_of R n f' 2 (.inr rfl) (fun g hg => (ih g hg).2.1)
      refine ⟨?_, ?_, u2, u3, u4⟩
      · cases f' with
        | zero => intro q o z w h0; omega
        | succ g => exact lit_of R n g (ih g (by omega)).2.2.2.1 (ih g (by omega)).2.2.1
      · cases f' with
        | zero => intro q o z w h0; omega
        | succ g => exact item_of R n g (ih g (by omega)).1
/-- the names up to a word -/
def sdR (n : Int) (e : ByteArray) : Nat → List Tok → Except (Int × Int) (Nat × List Tok)
  | _, [] => .error (n, 9)
  | k, t :: r => if isB t e then .ok (k, r) else if nmB t then (if k = 16 then .error (t.a, 11) else sdR n e (k + 1) r) else .error (t.a, 9)
theorem sdR_len (n : Int) (e : ByteArray) : ∀ (k : Nat) (q : List Tok) (j : Nat) (r : List Tok), sdR n e k q = .ok (j, r) → r.length < q.length ∧ (k ≤ 16 → j ≤ 16)
  | k, [], j, r, h => by simp [sdR] at h
  | k, t :: q, j, r, h => by
    simp only [sdR] at h
    repeat' split at h
    · simp only [Except.ok.injEq, Prod.mk.injEq] at h
      obtain ⟨rfl, rfl⟩ := h
      exact ⟨by simp, fun h => h⟩
    · simp at h
    · obtain ⟨h1, h2⟩ := sdR_len n e (k + 1) q j r h
      refine ⟨by simp only [List.length_cons]; omega, fun hk => h2 (by omega)⟩
    · simp at h
/-- what reading a side answers -/
def sdP (R : Nat) (n o z : Int) (w : World) (r : Except (Int × Int) (Nat × List Tok)) (x : Ending) (w' : World) : Prop :=
  match r with
  | .error (a, e) => x = gup a e ∧ Only (fun b => b = R) w w'
  | .ok (k, q) => x = .returned (.int .i64 (k : Int)) ∧ Hid (RdAt w' R q n o z ∧ Only (fun b => b = R) w w')
set_option maxRecDepth 100000 in
set_option maxHeartbeats 4000000 in
theorem side_any (R : Nat) (n o z : Int) (e : ByteArray) (q : List Tok) (w : World) (h : RdAt w R q n o z) :
    Calls Tryd.prog 54 #[.pointer (some ⟨R, 0, none⟩), .string e] w (sdP R n o z w (sdR n e 0 q)) := by
  obtain ⟨Z, hZ⟩ : ∃ Z, Z = sdR n e 0 q := ⟨_, rfl⟩
  rw [← hZ]
  have HZ : Hid (Z = sdR n e 0 q) := hZ
  have H0 : Hid (RdAt w R q n o z) := h
  clear hZ h
  go_enter Tryd.func54, Tryd.ntmps54
  go_wp2
  go_loopw [5] (fun r5 wr => ∃ (k : Nat) (q' : List Tok), r5 = .int .i64 (k : Int) ∧ Hid (Z = sdR n e k q' ∧ k ≤ 16 ∧ RdAt wr R q' n o z ∧ Only (fun b => b = R) w wr)) (fun _ wr => qLen wr R)
  case atStart => exact ⟨0, q, rfl, HZ.out, by omega, H0.out, Only.refl _ _⟩
  case round =>
    obtain ⟨k, q', rfl, HI⟩ := hrel
    obtain ⟨w1, rfl⟩ : ∃ w1, w1 = wr := ⟨_, rfl⟩
    clear HZ H0
    cases q' with
    | nil =>
      have HE : Hid (Z = .error (n, 9)) := by show Z = _; rw [HI.out.1]; rfl
      have HC : Hid (Calls Tryd.prog 34 #[.pointer (some ⟨R, 0, none⟩), .string e] w1 fun x w' => x = gup n 9 ∧ Only (fun _ => False) w1 w') := is_nil R n o z e w1 HI.out.2.2.1
      have O1 : Hid (Only (fun b => b = R) w w1) := HI.out.2.2.2
      clear HI
      go_wp2_with fail
      refine (show Calls Tryd.prog 34 _ _ _ from HC.out).mono ?_
      rintro e w2 ⟨rfl, o2⟩
      have O2 : Hid (Only (fun b => b = R) w w2) := O1.out.trans (o2.mono (bs' := fun b => b = R) (fun _ _ h => h.elim)) (fun _ _ g => g)
      clear o2 O1 HC
      unfold gup
      go_wp2
      refine ⟨rfl, ?_⟩
      rw [show Z = _ from HE.out]
      exact show _ ∧ _ from ⟨rfl, O2.out⟩
    | cons t r =>
      have HC : Hid (Calls Tryd.prog 34 #[.pointer (some ⟨R, 0, none⟩), .string e] w1 fun x w' => x = .returned (.bool (isB t e)) ∧ Only (fun _ => False) w1 w') := is_cons R t r n o z e w1 HI.out.2.2.1
      have HK : Hid (RdAt w1 R (t :: r) n o z ∧ Only (fun b => b = R) w w1 ∧ k ≤ 16) := ⟨HI.out.2.2.1, HI.out.2.2.2, HI.out.2.1⟩
      have HE0 : Hid (Z = if isB t e then .ok (k, r) else if nmB t then (if k = 16 then .error (t.a, 11) else sdR n e (k + 1) r) else .error (t.a, 9)) := by show Z = _; rw [HI.out.1]; rfl
      clear HI
      cases hb : isB t e with
      | true =>
        rw [hb] at HC HE0
        have HE : Hid (Z = .ok (k, r)) := by show Z = _; rw [HE0.out]; rfl
        clear HE0
        go_wp2_with fail
        refine (show Calls Tryd.prog 34 _ _ _ from HC.out).mono ?_
        rintro e w2 ⟨rfl, o2⟩
        have K2 : Hid (RdAt w2 R (t :: r) n o z ∧ Only (fun b => b = R) w w2) := ⟨HK.out.1.only o2, HK.out.2.1.trans (o2.mono (bs' := fun b => b = R) (fun _ _ h => h.elim)) (fun _ _ g => g)⟩
        clear o2 HK HC
        go_wp2_with fail
        refine (show Calls Tryd.prog 53 _ _ _ from take_cons R t r n o z _ K2.out.1).mono ?_
        rintro e w3 ⟨rfl, g3⟩
        have K3 : Hid (RdAt w3 R r n o z ∧ Only (fun b => b = R) w w3) := ⟨g3.out.1, K2.out.2.trans g3.out.2 (fun _ _ g => g)⟩
        clear K2 g3
        obtain ⟨tk, tt, tn, ta⟩ := t
        simp only [Tok.v]
        go_wp2
        go_ret
        rw [show Z = _ from HE.out]
        exact show _ ∧ Hid _ from ⟨rfl, K3⟩
      | false =>
        rw [hb] at HC HE0
        have HN : Hid (∀ w2, RdAt w2 R (t :: r) n o z → Calls Tryd.prog 44 #[.pointer (some ⟨R, 0, none⟩)] w2 fun x w' => x = .returned (.bool (nmB t)) ∧ Only (fun _ => False) w2 w') := fun w2 hw => named_cons R t r n o z w2 hw
        cases hn : nmB t with
        | false =>
          rw [hn] at HN HE0
          have HE : Hid (Z = .error (t.a, 9)) := by show Z = _; rw [HE0.out]; rfl
          clear HE0
          go_wp2_with fail
          refine (show Calls Tryd.prog 34 _ _ _ from HC.out).mono ?_
          rintro e w2 ⟨rfl, o2⟩
          have K2 : Hid (RdAt w2 R (t :: r) n o z ∧ Only (fun b => b = R) w w2) := ⟨HK.out.1.only o2, HK.out.2.1.trans (o2.mono (bs' := fun b => b = R) (fun _ _ h => h.elim)) (fun _ _ g => g)⟩
          clear o2 HK HC
          go_wp2_with fail
          refine (show Calls Tryd.prog 44 _ _ _ from HN.out _ K2.out.1).mono ?_
          rintro e w3 ⟨rfl, o3⟩
          have K3 : Hid (RdAt w3 R (t :: r) n o z ∧ Only (fun b => b = R) w w3) := ⟨K2.out.1.only o3, K2.out.2.trans (o3.mono (bs' := fun b => b = R) (fun _ _ h => h.elim)) (fun _ _ g => g)⟩
          clear o3 K2 HN
          go_wp2_with fail
          refine (show Calls Tryd.prog 52 _ _ _ from must_false R (t :: r) n o z _ K3.out.1).mono ?_
          rintro e w4 ⟨rfl, o4⟩
          have O4 : Hid (Only (fun b => b = R) w w4) := K3.out.2.trans (o4.mono (bs' := fun b => b = R) (fun _ _ h => h.elim)) (fun _ _ g => g)
          clear o4 K3
          unfold gup
          go_wp2
          refine ⟨rfl, ?_⟩
          rw [show Z = _ from HE.out]
          exact show _ ∧ _ from ⟨rfl, O4.out⟩
        | true =>
          rw [hn] at HN HE0
          go_wp2_with fail
          refine (show Calls Tryd.prog 34 _ _ _ from HC.out).mono ?_
          rintro e w2 ⟨rfl, o2⟩
          have K2 : Hid (RdAt w2 R (t :: r) n o z ∧ Only (fun b => b = R) w w2 ∧ qLen w1 R = (t :: r).length ∧ k ≤ 16) := ⟨HK.out.1.only o2, HK.out.2.1.trans (o2.mono (bs' := fun b => b = R) (fun _ _ h => h.elim)) (fun _ _ g => g), qLen_of HK.out.1, HK.out.2.2⟩
          clear o2 HK HC
          go_wp2_with fail
          refine (show Calls Tryd.prog 44 _ _ _ from HN.out _ K2.out.1).mono ?_
          rintro e w3 ⟨rfl, o3⟩
          have K3 : Hid (RdAt w3 R (t :: r) n o z ∧ Only (fun b => b = R) w w3 ∧ qLen w1 R = (t :: r).length ∧ k ≤ 16) := ⟨K2.out.1.only o3, K2.out.2.1.trans (o3.mono (bs' := fun b => b = R) (fun _ _ h => h.elim)) (fun _ _ g => g), K2.out.2.2⟩
          clear o3 K2 HN
          go_wp2_with fail
          refine (show Calls Tryd.prog 52 _ _ _ from must_true R _).mono ?_
          rintro e w4 ⟨rfl, rfl⟩
          by_cases h16 : k = 16
          · have HE : Hid (Z = .error (t.a, 11)) := by show Z = _; rw [HE0.out]; simp [h16]
            subst h16
            clear HE0
            go_wp2_with fail
            refine (show Calls Tryd.prog 58 _ _ _ from fault_any R (t :: r) n o z 11 _ K3.out.1).mono ?_
            rintro e w5 ⟨rfl, o5⟩
            have O5 : Hid (Only (fun b => b = R) w w5) := K3.out.2.1.trans (o5.mono (bs' := fun b => b = R) (fun _ _ h => h.elim)) (fun _ _ g => g)
            clear o5 K3
            go_wp2
            refine ⟨rfl, ?_⟩
            rw [show Z = _ from HE.out]
            exact show _ ∧ _ from ⟨rfl, O5.out⟩
          · have HE : Hid (Z = sdR n e (k + 1) r) := by show Z = _; rw [HE0.out]; simp [h16]
            have i1 : ((k : Int) == 16) = false := by simp; omega
            have i2 : k ≤ 16 := K3.out.2.2.2
            clear HE0
            go_wp2_with fail
            refine (show Calls Tryd.prog 53 _ _ _ from take_cons R t r n o z _ K3.out.1).mono ?_
            rintro e w5 ⟨rfl, g5⟩
            have K5 : Hid (RdAt w5 R r n o z ∧ Only (fun b => b = R) w w5 ∧ qLen w5 R < qLen w1 R ∧ k + 1 ≤ 16) := ⟨g5.out.1, K3.out.2.1.trans g5.out.2 (fun _ _ g => g), by rw [K3.out.2.2.1, qLen_of g5.out.1]; simp, by omega⟩
            clear g5 K3
            obtain ⟨tk, tt, tn, ta⟩ := t
            simp only [Tok.v]
            go_wp2
            go_roundw
            case rel => exact ⟨k + 1, r, by simp, HE.out, K5.out.2.2.2, K5.out.1, K5.out.2.1⟩
            case measure => exact K5.out.2.2.1
end Go.Proofs.YtapehdolnljnoaaDoor
namespace Go.Proofs.YtapehdolnljnoaaDoor
open Go.RowKit
set_option linter.unusedSimpArgs false
set_option linter.unusedVariables false
/-- a form: a definition, or an item -/
structure Fm where
  d : Bool
  nm : ByteArray
  i : Nat
  j : Nat
  b : List Tre
  it : Tre
def noT : Tre := ⟨0, 0, ⟨#[]⟩, []⟩
/-- what a definition is read as, from its body on -/
def dfC (n : Int) (f : Nat) (nm : ByteArray) (i j : Nat) (q : List Tok) (o z : Int) : Except (Int × Int) (Fm × List Tok × Int) :=
  match prs n f 4 q (o + 1) (z + 1) with
  | .error e => .error e
  | .ok (l, q6, z') => .ok (⟨true, nm, i, j, l, noT⟩, q6, z')
/-- from its second side on -/
def dfB (n : Int) (f : Nat) (nm : ByteArray) (i : Nat) (q : List Tok) (o z : Int) : Except (Int × Int) (Fm × List Tok × Int) :=
  match sdR n ⟨#[41]⟩ 0 q with
  | .error e => .error e
  | .ok (j, q5) => dfC n f nm i j q5 o z
/-- from its first side on -/
def dfA (n : Int) (f : Nat) (nm : ByteArray) (q : List Tok) (o z : Int) : Except (Int × Int) (Fm × List Tok × Int) :=
  match sdR n ⟨#[45, 45]⟩ 0 q with
  | .error e => .error e
  | .ok (i, q4) => dfB n f nm i q4 o z
/-- from its effect on -/
def dfQ (n : Int) (f : Nat) (nm : ByteArray) (q : List Tok) (o z : Int) : Except (Int × Int) (Fm × List Tok × Int) :=
  match q with
  | [] => .error (n, 9)
  | t2 :: q3 => if isB t2 ⟨#[40]⟩ = false then .error (t2.a, 9) else dfA n f nm q3 o z
/-- from its name on -/
def dfN (n : Int) (f : Nat) (q : List Tok) (o z : Int) : Except (Int × Int) (Fm × List Tok × Int) :=
  match q with
  | [] => .error (n, 9)
  | t1 :: q2 => if nmB t1 = false then .error (t1.a, 9) else dfQ n f t1.t q2 o z
/-- what a definition is read as -/
def dfR (n : Int) (f : Nat) (q : List Tok) (o z : Int) : Except (Int × Int) (Fm × List Tok × Int) :=
  match q with
  | [] => .error (n, 9)
  | t0 :: q1 => if o = 32 ∨ z = 1024 then .error (t0.a, 11) else dfN n f q1 o z
/-- a reader under way since w, with a block of its own behind w -/
structure DfK (w w' : World) (R : Nat) (q : List Tok) (n o z : Int) (ob : Obj) : Prop where
  rd : RdAt w' R q n o z
  on : Only (fun b => b = R) w w'
  bl : w'.heap[w.heap.size]? = some ob
  lt : R < w.heap.size
theorem DfK.start {w : World} {R : Nat} {q : List Tok} {n o z : Int} (h : RdAt w R q n o z) (ob : Obj) : DfK w (w.alloc ob) R q n o z ob :=
  ⟨h.only ((Only.refl (fun _ => False) w).alloc _), (Only.refl (fun b => b = R) w).alloc _, alloc_at _ _ _ rfl, h.lt⟩
theorem DfK.go {w w1 w2 : World} {R : Nat} {q q' : List Tok} {n n' o o' z z' : Int} {ob : Obj} (h : DfK w w1 R q n o z ob) (oo : Only (fun b => b = R) w1 w2) (g : RdAt w2 R q' n' o' z') : DfK w w2 R q' n' o' z' ob :=
  ⟨g, h.on.trans oo (fun _ _ g => g), (oo.block _ (Array.getElem?_eq_some_iff.1 h.bl).1 (by have := h.lt; omega)).trans h.bl, h.lt⟩
theorem DfK.still {w w1 w2 : World} {R : Nat} {q : List Tok} {n o z : Int} {ob : Obj} (h : DfK w w1 R q n o z ob) (oo : Only (fun _ => False) w1 w2) : DfK w w2 R q n o z ob :=
  h.go (oo.mono (bs' := fun b => b = R) (fun _ _ h => h.elim)) (h.rd.only oo)
/-- what definition answers -/
def dfP (R f : Nat) (n o : Int) (w : World) (r : Except (Int × Int) (Fm × List Tok × Int)) (x : Ending) (w' : World) : Prop :=
  match r with
  | .error (a, e) => x = gup a e ∧ Only (fun b => b = R) w w'
  | .ok (fm, q, z) => ∃ ao cap, x = .returned (.agg #[.string fm.nm, .int .i64 (fm.i : Int), .int .i64 (fm.j : Int), .slice ao fm.b.length cap]) ∧ Hid (RwAt w' w.heap.size 53 f true (.slice ao fm.b.length cap) fm.b ∧ RdAt w' R q n o z ∧ Only (fun b => b = R) w w')
theorem results_df {fn : Func} {u : Tmp} (h : fn.results = #[.cell u 51]) (tmps : Array Value) (w : World) (B : Nat) {x y z r : Value} (h0 : w.cell? ⟨B, 0, none⟩ = some x) (h1 : w.cell? ⟨B, 1, none⟩ = some y) (h2 : w.cell? ⟨B, 2, none⟩ = some z) (h3 : w.cell? ⟨B, 3, none⟩ = some r) (ha : tmps.getD u undef = .pointer (some ⟨B, 0, none⟩)) :
    (results fn tmps).run Tryd.prog w = .ok (.agg #[x, y, z, r]) w := by
  have ha' : tmps[u]?.getD undef = .pointer (some ⟨B, 0, none⟩) := by simpa using ha
  simp [results, h, ha', asAddr, go_sem, loadVar, isAgg, Tryd.underlying51, h0, h1, h2, h3]
def dfO : Obj := .cells #[.string ⟨#[]⟩, .int .i64 0, .int .i64 0, .slice none 0 0] 51
set_option maxRecDepth 100000 in
set_option maxHeartbeats 8000000 in
theorem definition_any (R f : Nat) (t0 : Tok) (q1 : List Tok) (n o z : Int) (w : World) (ho : 0 ≤ o) (ho1 : o ≤ 32) (hz : 0 ≤ z) (hz1 : z ≤ 1024) (hl : 3 * q1.length + 3 ≤ f) (hl2 : q1.length ≤ 4096) (h : RdAt w R (t0 :: q1) n o z) :
    Calls Tryd.prog 35 #[.pointer (some ⟨R, 0, none⟩)] w (dfP R f n o w (dfR n f (t0 :: q1) o z)) := by
  obtain ⟨Z, hZ⟩ : ∃ Z, Z = dfR n f (t0 :: q1) o z := ⟨_, rfl⟩
  rw [← hZ]
  have HZ : Hid (Z = dfR n f (t0 :: q1) o z) := hZ
  have HP : Hid (∀ a e w', Z = .error (a, e) → Only (fun b => b = R) w w' → dfP R f n o w Z (gup a e) w') := by
    intro a e w' h1 h2
    rw [h1]
    exact show _ ∧ _ from ⟨rfl, h2⟩
  have K0 : Hid (DfK w (w.alloc dfO) R (t0 :: q1) n o z dfO) := DfK.start h dfO
  have HB : Hid (0 ≤ o ∧ o ≤ 32 ∧ 0 ≤ z ∧ z ≤ 1024 ∧ 3 * q1.length + 3 ≤ f ∧ q1.length ≤ 4096) := ⟨ho, ho1, hz, hz1, hl, hl2⟩
  clear hZ h ho ho1 hz hz1 hl hl2
  have f1 := tok_f1
  go_enter Tryd.func35, Tryd.ntmps35
  go_wp2_with fail
  refine (show Calls Tryd.prog 51 _ _ _ from enter_any R (t0 :: q1) n o z _ ⟨HB.out.1, by have := HB.out; omega⟩ ⟨HB.out.2.2.1, by have := HB.out; omega⟩ K0.out.rd).mono ?_
  intro e w1 g1
  unfold enP at g1
  by_cases hf : o = 32 ∨ z = 1024
  · rw [if_pos hf] at g1
    obtain ⟨he, o1⟩ := g1
    subst he
    have HX : Hid (dfP R f n o w Z (gup t0.a 11) w1) := HP.out _ _ _ (by rw [HZ.out]; simp [dfR, hf]) (K0.out.on.trans o1 (fun _ _ g => g))
    clear HZ HP K0 o1 hf HB
    simp only [flt]
    unfold gup at HX ⊢
    go_wp2
    exact ⟨rfl, HX.out⟩
  · rw [if_neg hf] at g1
    obtain ⟨he, g1⟩ := g1
    subst he
    have K1 : Hid (DfK w w1 R q1 n (o + 1) (z + 1) dfO) := K0.out.go g1.out.2 g1.out.1
    have HF : Hid (¬ (o = 32 ∨ z = 1024)) := hf
    have HFo : Hid (¬ (o = 32 ∨ z = 1024)) := hf
    clear g1 K0 hf
    cases q1 with
    | nil =>
      go_wp2_with fail
      refine (show Calls Tryd.prog 44 _ _ _ from named_nil R n (o + 1) (z + 1) _ K1.out.rd).mono ?_
      rintro e w2 ⟨rfl, o2⟩
      have HX : Hid (dfP R f n o w Z (gup n 9) w2) := HP.out _ _ _ (by rw [HZ.out]; simp only [dfR, dfN]; rw [if_neg HF.out]) (K1.out.still o2).on
      clear HZ HP K1 o2 HF HB
      unfold gup at HX ⊢
      go_wp2
      exact ⟨rfl, HX.out⟩
    | cons t1 q2 =>
      have HN : Hid (∀ w1, RdAt w1 R (t1 :: q2) n (o + 1) (z + 1) → Calls Tryd.prog 44 #[.pointer (some ⟨R, 0, none⟩)] w1 fun x w' => x = .returned (.bool (nmB t1)) ∧ Only (fun _ => False) w1 w') := fun w1 hw => named_cons R t1 q2 n (o + 1) (z + 1) w1 hw
      cases hn : nmB t1 with
      | false =>
        rw [hn] at HN
        have HZ2 : Hid (Z = .error (t1.a, 9)) := by show Z = _; rw [HZ.out]; simp only [dfR, dfN]; rw [if_neg HF.out, if_pos hn]
        clear HZ HF hn
        go_wp2_with fail
        refine (show Calls Tryd.prog 44 _ _ _ from HN.out _ K1.out.rd).mono ?_
        rintro e w2 ⟨rfl, o2⟩
        have K2 : Hid (DfK w w2 R (t1 :: q2) n (o + 1) (z + 1) dfO) := K1.out.still o2
        clear o2 K1 HN
        go_wp2_with fail
        refine (show Calls Tryd.prog 52 _ _ _ from must_false R (t1 :: q2) n (o + 1) (z + 1) _ K2.out.rd).mono ?_
        rintro e w3 ⟨rfl, o3⟩
        have HX : Hid (dfP R f n o w Z (gup t1.a 9) w3) := HP.out _ _ _ HZ2.out (K2.out.still o3).on
        clear HZ2 HP K2 o3 HB
        simp only [flt]
        unfold gup at HX ⊢
        go_wp2
        exact ⟨rfl, HX.out⟩
      | true =>
        rw [hn] at HN
        have HZ2 : Hid (Z = dfQ n f t1.t q2 o z) := by
          show Z = _
          rw [HZ.out]
          simp only [dfR, dfN]
          rw [if_neg HF.out, if_neg (by rw [hn]; simp)]
        have HT : Hid (∀ w1, RdAt w1 R (t1 :: q2) n (o + 1) (z + 1) → Calls Tryd.prog 53 #[.pointer (some ⟨R, 0, none⟩)] w1 fun x w' => x = .returned t1.v ∧ Hid (RdAt w' R q2 n (o + 1) (z + 1) ∧ Only (fun b => b = R) w1 w')) := fun w1 hw => take_cons R t1 q2 n (o + 1) (z + 1) w1 hw
        clear HZ HF hn
        obtain ⟨k1, s1, n1, a1⟩ := t1
        simp only [Tok.v] at HT
        go_wp2_with fail
        refine (show Calls Tryd.prog 44 _ _ _ from HN.out _ K1.out.rd).mono ?_
        rintro e w2 ⟨rfl, o2⟩
        have K2 : Hid (DfK w w2 R (⟨k1, s1, n1, a1⟩ :: q2) n (o + 1) (z + 1) dfO) := K1.out.still o2
        clear o2 K1 HN
        go_wp2_with fail
        refine (show Calls Tryd.prog 52 _ _ _ from must_true R _).mono ?_
        rintro e w3 ⟨rfl, rfl⟩
        go_wp2_with fail
        refine (show Calls Tryd.prog 53 _ _ _ from HT.out _ K2.out.rd).mono ?_
        rintro e w4 ⟨rfl, g4⟩
        have K4 : Hid (DfK w w4 R q2 n (o + 1) (z + 1) dfO) := K2.out.go g4.out.2 g4.out.1
        clear g4 K2 HT
        cases q2 with
        | nil =>
          go_wp2_with fail
          refine (show Calls Tryd.prog 34 _ _ _ from is_nil R n (o + 1) (z + 1) _ _ K4.out.rd).mono ?_
          rintro e w5 ⟨rfl, o5⟩
          have HX : Hid (dfP R f n o w Z (gup n 9) w5) := HP.out _ _ _ HZ2.out (K4.out.still o5).on
          clear HZ2 HP K4 o5 HB
          unfold gup at HX ⊢
          go_wp2
          exact ⟨rfl, HX.out⟩
        | cons t2 q3 =>
          have HS : Hid (∀ w1, RdAt w1 R (t2 :: q3) n (o + 1) (z + 1) → Calls Tryd.prog 34 #[.pointer (some ⟨R, 0, none⟩), .string ⟨#[40]⟩] w1 fun x w' => x = .returned (.bool (isB t2 ⟨#[40]⟩)) ∧ Only (fun _ => False) w1 w') := fun w1 hw => is_cons R t2 q3 n (o + 1) (z + 1) _ w1 hw
          cases hn : isB t2 ⟨#[40]⟩ with
          | false =>
            rw [hn] at HS
            have HZ3 : Hid (Z = .error (t2.a, 9)) := by show Z = _; rw [HZ2.out]; simp only [dfQ]; rw [if_pos hn]
            clear HZ2 hn
            go_wp2_with fail
            refine (show Calls Tryd.prog 34 _ _ _ from HS.out _ K4.out.rd).mono ?_
            rintro e w5 ⟨rfl, o5⟩
            have K5 : Hid (DfK w w5 R (t2 :: q3) n (o + 1) (z + 1) dfO) := K4.out.still o5
            clear o5 K4 HS
            go_wp2_with fail
            refine (show Calls Tryd.prog 52 _ _ _ from must_false R (t2 :: q3) n (o + 1) (z + 1) _ K5.out.rd).mono ?_
            rintro e w6 ⟨rfl, o6⟩
            have HX : Hid (dfP R f n o w Z (gup t2.a 9) w6) := HP.out _ _ _ HZ3.out (K5.out.still o6).on
            clear HZ3 HP K5 o6 HB
            simp only [flt]
            unfold gup at HX ⊢
            go_wp2
            exact ⟨rfl, HX.out⟩
          | true =>
            rw [hn] at HS
            have HZ3 : Hid (Z = dfA n f s1 q3 o z) := by
              show Z = _
              rw [HZ2.out]
              simp only [dfQ]
              rw [if_neg (by rw [hn]; simp)]
            have HT : Hid (∀ w1, RdAt w1 R (t2 :: q3) n (o + 1) (z + 1) → Calls Tryd.prog 53 #[.pointer (some ⟨R, 0, none⟩)] w1 fun x w' => x = .returned t2.v ∧ Hid (RdAt w' R q3 n (o + 1) (z + 1) ∧ Only (fun b => b = R) w1 w')) := fun w1 hw => take_cons R t2 q3 n (o + 1) (z + 1) w1 hw
            have HD1 : Hid (∀ w1, RdAt w1 R q3 n (o + 1) (z + 1) → Calls Tryd.prog 54 #[.pointer (some ⟨R, 0, none⟩), .string ⟨#[45, 45]⟩] w1 (sdP R n (o + 1) (z + 1) w1 (sdR n ⟨#[45, 45]⟩ 0 q3))) := fun w1 hw => side_any R n (o + 1) (z + 1) _ q3 w1 hw
            have HL1 : Hid (∀ i q4, sdR n ⟨#[45, 45]⟩ 0 q3 = .ok (i, q4) → q4.length ≤ q3.length) := fun i q4 hs => Nat.le_of_lt (sdR_len n _ 0 q3 i q4 hs).1
            clear HZ2 hn
            obtain ⟨X1, hX1⟩ : ∃ X1, X1 = sdR n ⟨#[45, 45]⟩ 0 q3 := ⟨_, rfl⟩
            unfold dfA at HZ3
            rw [← hX1] at HZ3 HD1 HL1
            clear hX1
            obtain ⟨k2, s2, n2, a2⟩ := t2
            simp only [Tok.v] at HT
            go_wp2_with fail
            refine (show Calls Tryd.prog 34 _ _ _ from HS.out _ K4.out.rd).mono ?_
            rintro e w5 ⟨rfl, o5⟩
            have K5 : Hid (DfK w w5 R (⟨k2, s2, n2, a2⟩ :: q3) n (o + 1) (z + 1) dfO) := K4.out.still o5
            clear o5 K4 HS
            go_wp2_with fail
            refine (show Calls Tryd.prog 52 _ _ _ from must_true R _).mono ?_
            rintro e w6 ⟨rfl, rfl⟩
            go_wp2_with fail
            refine (show Calls Tryd.prog 53 _ _ _ from HT.out _ K5.out.rd).mono ?_
            rintro e w7 ⟨rfl, g7⟩
            have K7 : Hid (DfK w w7 R q3 n (o + 1) (z + 1) dfO) := K5.out.go g7.out.2 g7.out.1
            clear g7 K5 HT
            go_wp2_with fail
            refine (show Calls Tryd.prog 54 _ _ _ from HD1.out _ K7.out.rd).mono ?_
            intro e w8 g8
            clear HD1
            cases X1 with
            | error p =>
              obtain ⟨a, er⟩ := p
              obtain ⟨he, o8⟩ := g8
              subst he
              have HX : Hid (dfP R f n o w Z (gup a er) w8) := HP.out _ _ _ HZ3.out (K7.out.on.trans o8 (fun _ _ g => g))
              clear HZ3 HP K7 o8 HB HL1
              unfold gup at HX ⊢
              go_wp2
              exact ⟨rfl, HX.out⟩
            | ok p =>
              obtain ⟨i, q4⟩ := p
              obtain ⟨he, g8⟩ := g8
              subst he
              have K8 : Hid (DfK w w8 R q4 n (o + 1) (z + 1) dfO) := K7.out.go g8.out.2 g8.out.1
              have HL2 : Hid (q4.length ≤ q3.length) := HL1.out i q4 rfl
              have HD2 : Hid (∀ w1, RdAt w1 R q4 n (o + 1) (z + 1) → Calls Tryd.prog 54 #[.pointer (some ⟨R, 0, none⟩), .string ⟨#[41]⟩] w1 (sdP R n (o + 1) (z + 1) w1 (sdR n ⟨#[41]⟩ 0 q4))) := fun w1 hw => side_any R n (o + 1) (z + 1) _ q4 w1 hw
              have HL3 : Hid (∀ j q5, sdR n ⟨#[41]⟩ 0 q4 = .ok (j, q5) → q5.length ≤ q4.length) := fun j q5 hs => Nat.le_of_lt (sdR_len n _ 0 q4 j q5 hs).1
              have HZ4 : Hid (Z = dfB n f s1 i q4 o z) := HZ3.out
              clear g8 K7 HL1 HZ3
              obtain ⟨X2, hX2⟩ : ∃ X2, X2 = sdR n ⟨#[41]⟩ 0 q4 := ⟨_, rfl⟩
              unfold dfB at HZ4
              rw [← hX2] at HZ4 HD2 HL3
              clear hX2
              go_wp2_with fail
              refine (show Calls Tryd.prog 54 _ _ _ from HD2.out _ K8.out.rd).mono ?_
              intro e w9 g9
              clear HD2
              cases X2 with
              | error p =>
                obtain ⟨a, er⟩ := p
                obtain ⟨he, o9⟩ := g9
                subst he
                have HX : Hid (dfP R f n o w Z (gup a er) w9) := HP.out _ _ _ HZ4.out (K8.out.on.trans o9 (fun _ _ g => g))
                clear HZ4 HP K8 o9 HB HL3 HL2
                unfold gup at HX ⊢
                go_wp2
                exact ⟨rfl, HX.out⟩
              | ok p =>
                obtain ⟨j, q5⟩ := p
                obtain ⟨he, g9⟩ := g9
                subst he
                have K9 : Hid (DfK w w9 R q5 n (o + 1) (z + 1) dfO) := K8.out.go g9.out.2 g9.out.1
                have HU : Hid (∀ w1, RdAt w1 R q5 n (o + 1) (z + 1) → Calls Tryd.prog 55 #[.pointer (some ⟨R, 0, none⟩), .string ⟨#[59]⟩, .func (.func 31) #[] #[]] w1 (upP R f 53 true n (o + 1) w1 (prs n f 4 q5 (o + 1) (z + 1)))) := by
                  intro w1 hw
                  have b := HB.out
                  have b1 : q4.length ≤ q3.length := HL2.out
                  have b2 := HL3.out j q5 rfl
                  simp only [List.length_cons] at b
                  exact (parts_any R n (f + 1) f (by omega)).2.2.2.2 q5 (o + 1) (z + 1) w1 (by omega) (by omega) (by omega) (by have := HFo.out; omega) (by omega) (by have := HFo.out; omega) hw
                have HZ5 : Hid (Z = dfC n f s1 i j q5 o z) := HZ4.out
                clear g9 K8 HL3 HL2 HZ4
                obtain ⟨X3, hX3⟩ : ∃ X3, X3 = prs n f 4 q5 (o + 1) (z + 1) := ⟨_, rfl⟩
                unfold dfC at HZ5
                rw [← hX3] at HZ5 HU
                clear hX3
                go_wp2_with fail
                refine (show Calls Tryd.prog 55 _ _ _ from HU.out _ K9.out.rd).mono ?_
                intro e w10 g10
                clear HU
                cases X3 with
                | error p =>
                  obtain ⟨a, er⟩ := p
                  obtain ⟨he, o10⟩ := g10
                  subst he
                  have HX : Hid (dfP R f n o w Z (gup a er) w10) := HP.out _ _ _ HZ5.out (K9.out.on.trans o10 (fun _ _ g => g))
                  clear HZ5 HP K9 o10 HB
                  unfold gup at HX ⊢
                  go_wp2
                  exact ⟨rfl, HX.out⟩
                | ok p =>
                  obtain ⟨l, q6, z'⟩ := p
                  obtain ⟨ao, cap, he, g10⟩ := g10
                  subst he
                  have hrd : RdAt w10 R q6 n o z' := by have := g10.out.2.1; rwa [Int.add_sub_cancel] at this
                  have K10 : DfK w w10 R q6 n o z' dfO := K9.out.go g10.out.2.2 hrd
                  have hbig : w.heap.size < w9.heap.size := (Array.getElem?_eq_some_iff.1 K9.out.bl).1
                  have HW : Hid (RwAt w10 (w.heap.size + 1) 53 f true (.slice ao l.length cap) l ∧ DfK w w10 R q6 n o z' dfO) := ⟨g10.out.1.lower hbig, K10⟩
                  have R3 := K10.bl
                  unfold dfO at R3
                  obtain ⟨B, hBe⟩ : ∃ B, B = w.heap.size := ⟨_, rfl⟩
                  have HE : Hid (B = w.heap.size) := hBe
                  rw [← hBe] at R3 ⊢
                  have c0 := blk_cells R3 0
                  have c1 := blk_cells R3 1
                  have c2 := blk_cells R3 2
                  have c3 := blk_cells R3 3
                  have z0 := blk_froz R3 0
                  have z1 := blk_froz R3 1
                  have z2 := blk_froz R3 2
                  have z3 := blk_froz R3 3
                  have HR3 : Hid (w10.heap[B]? = some (.cells #[.string ⟨#[]⟩, .int .i64 0, .int .i64 0, .slice none 0 0] 51)) := R3
                  simp only [List.getElem?_toArray, List.getElem?_cons_zero, List.getElem?_cons_succ] at c0 c1 c2 c3
                  clear g10 K9 K10 hrd hbig R3 hBe HP
                  obtain ⟨L, hL⟩ : ∃ L, L = l.length := ⟨_, rfl⟩
                  have HLL : Hid (L = l.length) := hL
                  rw [← hL] at HW
                  rw [← hL]
                  clear hL
                  go_wp2
                  obtain ⟨p0, p1, p2, p3⟩ := set4 HR3.out rfl (.string s1) (.int .i64 (i : Int)) (.int .i64 (j : Int)) (.slice ao L cap)
                  refine bodyPost_ret (results_df rfl _ _ B p0 p1 p2 p3 rfl) rfl ?_
                  rw [show Z = _ from HZ5.out]
                  have e1 : L = l.length := HLL.out
                  have hBe : B = w.heap.size := HE.out
                  have OB : Only (fun b => b = B) w10 ((((w10.setCell ⟨B, 0, none⟩ (.string s1)).setCell ⟨B, 1, none⟩ (.int .i64 (i : Int))).setCell ⟨B, 2, none⟩ (.int .i64 (j : Int))).setCell ⟨B, 3, none⟩ (.slice ao L cap)) :=
                    ((((Only.refl (fun b => b = B) w10).setCell ⟨B, 0, none⟩ _ (fun _ => rfl)).setCell ⟨B, 1, none⟩ _ (fun _ => rfl)).setCell ⟨B, 2, none⟩ _ (fun _ => rfl)).setCell ⟨B, 3, none⟩ _ (fun _ => rfl)
                  have hR := HW.out.2.lt
                  refine show ∃ ao cap, _ ∧ Hid _ from ⟨ao, cap, by rw [e1], ?_⟩
                  dsimp only
                  rw [← e1]
                  exact ⟨(HW.out.1.only OB (fun b hb e => by omega)).lower (by omega), HW.out.2.rd.other (fun b h e => by omega) OB, HW.out.2.on.trans OB (fun b h e => by omega)⟩
end Go.Proofs.YtapehdolnljnoaaDoor
namespace Go.Proofs.YtapehdolnljnoaaDoor
open Go.RowKit
set_option linter.unusedSimpArgs false
set_option linter.unusedVariables false
/-- the slice v holds the trees l, within the blocks S -/
def SqAt (w : World) (S : Nat → Prop) (d : Nat) (i : Bool) (v : Value) (l : List Tre) : Prop :=
  ∃ ao cap, v = .slice ao l.length cap ∧ l.length ≤ cap ∧ ∀ (j : Nat) (x : Tre), l[j]? = some x → ∃ g k u, ao = some ⟨g, k, none⟩ ∧ S g ∧ w.cell? ⟨g, k + j, none⟩ = some u ∧ TrAt w S d i x u
theorem SqAt.step {w w' : World} {S S' : Nat → Prop} (hS : ∀ b, S b → S' b) (hk : ∀ (a : Addr) u, S a.block → w.cell? a = some u → w'.cell? a = some u) {d d' : Nat} {i : Bool} {l : List Tre} {v : Value} (hd : d ≤ d') (h : SqAt w S d i v l) : SqAt w' S' d' i v l := by
  obtain ⟨ao, cap, hv, hc, hl⟩ := h
  refine ⟨ao, cap, hv, hc, fun j x hx => ?_⟩
  obtain ⟨g, k, u, ha, hg, hu, ht⟩ := hl j x hx
  exact ⟨g, k, u, ha, hS g hg, hk _ _ hg hu, ht.step hS hk hd⟩
theorem RwAt.seq {w : World} {B : Nat} {T : TypeId} {d : Nat} {i : Bool} {v : Value} {l : List Tre} (h : RwAt w B T d i v l) : ∃ S, SqAt w S d i v l ∧ ∀ b, S b → B ≤ b ∧ b < w.heap.size := by
  obtain ⟨us, S, ho, ht, hS⟩ := h
  refine ⟨fun b => S b ∨ v.ownBlock = some b, ?_, fun b hb => ?_⟩
  · rcases ho.2 with ⟨rfl, h2⟩ | ⟨g, cap, cur, hv, hB, hg, hn, hcm, hcs, htk⟩
    · have hl : l = [] := List.eq_nil_of_length_eq_zero h2
      subst hl
      exact ⟨none, 0, rfl, Nat.zero_le _, fun i x hx => by simp at hx⟩
    · refine ⟨some ⟨g, 0, none⟩, cap, hv, hn, fun i x hx => ?_⟩
      obtain ⟨u, h1, h2⟩ := ht i x hx
      have hc := ho.cells (g := g) (by rw [hv]; rfl) i u h1
      rw [addr_ad] at hc
      exact ⟨g, 0, u, rfl, .inr (by rw [hv]; rfl), by simpa using hc, h2.step (fun _ g => .inl g) (fun _ _ _ g => g) (Nat.le_refl _)⟩
  · rcases hb with h | h
    · exact ⟨(hS b h).1, (hS b h).2.1⟩
    · exact ho.lt b h
/-- the cells bv and iv are a form's body and item -/
def FmAt (w : World) (S : Nat → Prop) (d : Nat) (fm : Fm) (bv iv : Value) : Prop :=
  (fm.d = true ∧ fm.it = noT ∧ SqAt w S d true bv fm.b ∧ iv = .nilIface) ∨ (fm.d = false ∧ fm.nm = ⟨#[]⟩ ∧ fm.i = 0 ∧ fm.j = 0 ∧ fm.b = [] ∧ bv = .slice none 0 0 ∧ TrAt w S d true fm.it iv)
theorem FmAt.step {w w' : World} {S S' : Nat → Prop} (hS : ∀ b, S b → S' b) (hk : ∀ (a : Addr) u, S a.block → w.cell? a = some u → w'.cell? a = some u) {d d' : Nat} {fm : Fm} {bv iv : Value} (hd : d ≤ d') (h : FmAt w S d fm bv iv) : FmAt w' S' d' fm bv iv := by
  rcases h with ⟨h1, h4, h2, h3⟩ | ⟨h1, h2, h3, h4, h5, h6, h7⟩
  · exact .inl ⟨h1, h4, h2.step hS hk hd, h3⟩
  · exact .inr ⟨h1, h2, h3, h4, h5, h6, h7.step hS hk hd⟩
/-- a form that was made since block B -/
def NfAt (w : World) (B d : Nat) (fm : Fm) (bv iv : Value) : Prop := ∃ S, FmAt w S d fm bv iv ∧ ∀ b, S b → B ≤ b ∧ b < w.heap.size
theorem NfAt.only {w w' : World} {B d : Nat} {fm : Fm} {bv iv : Value} {bs : Nat → Prop} (h : NfAt w B d fm bv iv) (o : Only bs w w') (hb : ∀ b, B ≤ b → ¬ bs b) : NfAt w' B d fm bv iv := by
  obtain ⟨S, ht, hS⟩ := h
  exact ⟨S, ht.step (fun _ g => g) (fun a u hs hc => o.cell hc (hb _ (hS _ hs).1)) (Nat.le_refl _), fun b hbS => ⟨(hS b hbS).1, Nat.lt_of_lt_of_le (hS b hbS).2 o.size⟩⟩
theorem NfAt.lower {w : World} {B C d : Nat} {fm : Fm} {bv iv : Value} (h : NfAt w B d fm bv iv) (hC : C ≤ B) : NfAt w C d fm bv iv := by
  obtain ⟨S, ht, hS⟩ := h
  exact ⟨S, ht, fun b hbS => ⟨Nat.le_trans hC (hS b hbS).1, (hS b hbS).2⟩⟩
def fmV (fm : Fm) (bv iv : Value) : Value := .agg #[.bool fm.d, .string fm.nm, .int .i64 (fm.i : Int), .int .i64 (fm.j : Int), bv, iv]
/-- what a form is read as -/
def fmR (n : Int) (f : Nat) (q : List Tok) (o z : Int) : Except (Int × Int) (Fm × List Tok × Int) :=
  match q with
  | [] => .error (n, 9)
  | t :: r =>
    if isB t ⟨#[58]⟩ then dfR n f (t :: r) o z else
    match prs n f 1 (t :: r) o z with
    | .error e => .error e
    | .ok (l, q', z') => .ok (⟨false, ⟨#[]⟩, 0, 0, [], l.headD noT⟩, q', z')
/-- what form answers -/
def fmP (R f : Nat) (n o : Int) (w : World) (r : Except (Int × Int) (Fm × List Tok × Int)) (x : Ending) (w' : World) : Prop :=
  match r with
  | .error (a, e) => x = gup a e ∧ Only (fun b => b = R) w w'
  | .ok (fm, q, z) => ∃ bv iv, x = .returned (fmV fm bv iv) ∧ Hid (NfAt w' w.heap.size f fm bv iv ∧ RdAt w' R q n o z ∧ Only (fun b => b = R) w w')
theorem set6 {w : World} {B : Nat} {a b c d e f : Value} {t : TypeId} (h : w.heap[B]? = some (.cells #[a, b, c, d, e, f] t)) (x0 x1 x2 x3 x4 x5 : Value) :
    ((((((w.setCell ⟨B, 0, none⟩ x0).setCell ⟨B, 1, none⟩ x1).setCell ⟨B, 2, none⟩ x2).setCell ⟨B, 3, none⟩ x3).setCell ⟨B, 4, none⟩ x4).setCell ⟨B, 5, none⟩ x5).heap[B]? = some (.cells #[x0, x1, x2, x3, x4, x5] t) := by
  have g1 := heap_setCell_same _ B 0 _ _ x0 h
  have g2 := heap_setCell_same _ B 1 _ _ x1 g1
  have g3 := heap_setCell_same _ B 2 _ _ x2 g2
  have g4 := heap_setCell_same _ B 3 _ _ x3 g3
  have g5 := heap_setCell_same _ B 4 _ _ x4 g4
  have g6 := heap_setCell_same _ B 5 _ _ x5 g5
  exact g6
theorem results_fm {fn : Func} {u : Tmp} (h : fn.results = #[.cell u 55]) (tmps : Array Value) (w : World) (B : Nat) {x0 x1 x2 x3 x4 x5 : Value} (hb : w.heap[B]? = some (.cells #[x0, x1, x2, x3, x4, x5] 55)) (ha : tmps.getD u undef = .pointer (some ⟨B, 0, none⟩)) :
    (results fn tmps).run Tryd.prog w = .ok (.agg #[x0, x1, x2, x3, x4, x5]) w := by
  have ha' : tmps[u]?.getD undef = .pointer (some ⟨B, 0, none⟩) := by simpa using ha
  have c0 := blk_cells hb 0
  have c1 := blk_cells hb 1
  have c2 := blk_cells hb 2
  have c3 := blk_cells hb 3
  have c4 := blk_cells hb 4
  have c5 := blk_cells hb 5
  simp only [List.getElem?_toArray, List.getElem?_cons_zero, List.getElem?_cons_succ] at c0 c1 c2 c3 c4 c5
  simp [results, h, ha', asAddr, go_sem, loadVar, isAgg, Tryd.underlying55, c0, c1, c2, c3, c4, c5]
def fmO : Obj := .cells #[.bool false, .string ⟨#[]⟩, .int .i64 0, .int .i64 0, .slice none 0 0, .nilIface] 55
theorem only6 {w : World} {B : Nat} (x0 x1 x2 x3 x4 x5 : Value) : Only (fun b => b = B) w ((((((w.setCell ⟨B, 0, none⟩ x0).setCell ⟨B, 1, none⟩ x1).setCell ⟨B, 2, none⟩ x2).setCell ⟨B, 3, none⟩ x3).setCell ⟨B, 4, none⟩ x4).setCell ⟨B, 5, none⟩ x5) :=
  ((((((Only.refl (fun b => b = B) w).setCell ⟨B, 0, none⟩ _ (fun _ => rfl)).setCell ⟨B, 1, none⟩ _ (fun _ => rfl)).setCell ⟨B, 2, none⟩ _ (fun _ => rfl)).setCell ⟨B, 3, none⟩ _ (fun _ => rfl)).setCell ⟨B, 4, none⟩ _ (fun _ => rfl)).setCell ⟨B, 5, none⟩ _ (fun _ => rfl)
theorem dfR_d {n : Int} {f : Nat} {q : List Tok} {o z : Int} {fm : Fm} {r : List Tok} {z' : Int} (h : dfR n f q o z = .ok (fm, r, z')) : fm.d = true ∧ fm.it = noT := by
  unfold dfR dfN dfQ dfA dfB dfC at h
  repeat' split at h
  all_goals first
    | (simp at h; done)
    | (simp only [Except.ok.injEq, Prod.mk.injEq] at h; obtain ⟨rfl, _, _⟩ := h; exact ⟨rfl, rfl⟩)
set_option maxRecDepth 100000 in
set_option maxHeartbeats 8000000 in
theorem form_any (R f : Nat) (q : List Tok) (n o z : Int) (w : World) (ho : 0 ≤ o) (ho1 : o ≤ 32) (hz : 0 ≤ z) (hz1 : z ≤ 1024) (hl : 3 * q.length + 3 ≤ f) (hl2 : q.length ≤ 4096) (h : RdAt w R q n o z) :
    Calls Tryd.prog 15 #[.pointer (some ⟨R, 0, none⟩)] w (fmP R f n o w (fmR n f q o z)) := by
  obtain ⟨Z, hZ⟩ : ∃ Z, Z = fmR n f q o z := ⟨_, rfl⟩
  rw [← hZ]
  have HZ : Hid (Z = fmR n f q o z) := hZ
  have HP : Hid (∀ a e w', Z = .error (a, e) → Only (fun b => b = R) w w' → fmP R f n o w Z (gup a e) w') := by
    intro a e w' h1 h2
    rw [h1]
    exact show _ ∧ _ from ⟨rfl, h2⟩
  have K0 : Hid (DfK w (w.alloc fmO) R q n o z fmO) := DfK.start h fmO
  have HB : Hid (0 ≤ o ∧ o ≤ 32 ∧ 0 ≤ z ∧ z ≤ 1024 ∧ 3 * q.length + 3 ≤ f ∧ q.length ≤ 4096) := ⟨ho, ho1, hz, hz1, hl, hl2⟩
  clear hZ h ho ho1 hz hz1 hl hl2
  cases q with
  | nil =>
    go_enter Tryd.func15, Tryd.ntmps15
    go_wp2_with fail
    refine (show Calls Tryd.prog 34 _ _ _ from is_nil R n o z _ _ K0.out.rd).mono ?_
    rintro e w1 ⟨rfl, o1⟩
    have HX : Hid (fmP R f n o w Z (gup n 9) w1) := HP.out _ _ _ HZ.out (K0.out.still o1).on
    clear HZ HP K0 o1 HB
    unfold gup at HX ⊢
    go_wp2
    exact ⟨rfl, HX.out⟩
  | cons t r =>
    have HS : Hid (∀ w1, RdAt w1 R (t :: r) n o z → Calls Tryd.prog 34 #[.pointer (some ⟨R, 0, none⟩), .string ⟨#[58]⟩] w1 fun x w' => x = .returned (.bool (isB t ⟨#[58]⟩)) ∧ Only (fun _ => False) w1 w') := fun w1 hw => is_cons R t r n o z _ w1 hw
    cases hn : isB t ⟨#[58]⟩ with
    | true =>
      rw [hn] at HS
      have HZ2 : Hid (Z = dfR n f (t :: r) o z) := by show Z = _; rw [HZ.out]; simp only [fmR]; rw [if_pos hn]
      have HD : Hid (∀ w1, RdAt w1 R (t :: r) n o z → Calls Tryd.prog 35 #[.pointer (some ⟨R, 0, none⟩)] w1 (dfP R f n o w1 (dfR n f (t :: r) o z))) := by
        intro w1 hw
        have b := HB.out
        simp only [List.length_cons] at b
        exact definition_any R f t r n o z w1 b.1 b.2.1 b.2.2.1 b.2.2.2.1 (by omega) (by omega) hw
      have HDD : Hid (∀ fm q z', dfR n f (t :: r) o z = .ok (fm, q, z') → fm.d = true ∧ fm.it = noT) := fun fm q z' h => dfR_d h
      clear HZ hn
      obtain ⟨X, hX⟩ : ∃ X, X = dfR n f (t :: r) o z := ⟨_, rfl⟩
      rw [← hX] at HZ2 HD HDD
      clear hX
      go_enter Tryd.func15, Tryd.ntmps15
      go_wp2_with fail
      refine (show Calls Tryd.prog 34 _ _ _ from HS.out _ K0.out.rd).mono ?_
      rintro e w1 ⟨rfl, o1⟩
      have K1 : Hid (DfK w w1 R (t :: r) n o z fmO) := K0.out.still o1
      clear o1 K0 HS
      go_wp2_with fail
      refine (show Calls Tryd.prog 35 _ _ _ from HD.out _ K1.out.rd).mono ?_
      intro e w2 g2
      clear HD
      cases X with
      | error p =>
        obtain ⟨a, er⟩ := p
        obtain ⟨he, o2⟩ := g2
        subst he
        have HX : Hid (fmP R f n o w Z (gup a er) w2) := HP.out _ _ _ HZ2.out (K1.out.on.trans o2 (fun _ _ g => g))
        clear HZ2 HP K1 o2 HB
        unfold gup at HX ⊢
        go_wp2
        exact ⟨rfl, HX.out⟩
      | ok p =>
        obtain ⟨⟨fd, fn, fi, fj, fb, ft⟩, q6, z'⟩ := p
        obtain ⟨ao, cap, he, g2⟩ := g2
        obtain ⟨hd1, hd2⟩ := HDD.out _ _ _ rfl
        dsimp only at hd1 hd2 he g2
        subst hd1
        subst hd2
        subst he
        have K2 : DfK w w2 R q6 n o z' fmO := K1.out.go g2.out.2.2 g2.out.2.1
        have hbig : w.heap.size < w1.heap.size := (Array.getElem?_eq_some_iff.1 K1.out.bl).1
        have HW : Hid (RwAt w2 (w.heap.size + 1) 53 f true (.slice ao fb.length cap) fb ∧ DfK w w2 R q6 n o z' fmO) := ⟨g2.out.1.lower hbig, K2⟩
        have R3 := K2.bl
        unfold fmO at R3
        obtain ⟨B, hBe⟩ : ∃ B, B = w.heap.size := ⟨_, rfl⟩
        have HE : Hid (B = w.heap.size) := hBe
        rw [← hBe] at R3 ⊢
        have c0 := blk_cells R3 0
        have c1 := blk_cells R3 1
        have c2 := blk_cells R3 2
        have c3 := blk_cells R3 3
        have c4 := blk_cells R3 4
        have c5 := blk_cells R3 5
        have z0 := blk_froz R3 0
        have z1 := blk_froz R3 1
        have z2 := blk_froz R3 2
        have z3 := blk_froz R3 3
        have z4 := blk_froz R3 4
        have z5 := blk_froz R3 5
        have HR3 : Hid (w2.heap[B]? = some (.cells #[.bool false, .string ⟨#[]⟩, .int .i64 0, .int .i64 0, .slice none 0 0, .nilIface] 55)) := R3
        simp only [List.getElem?_toArray, List.getElem?_cons_zero, List.getElem?_cons_succ] at c0 c1 c2 c3 c4 c5
        clear g2 K1 K2 hbig R3 hBe HP HDD
        obtain ⟨L, hL⟩ : ∃ L, L = fb.length := ⟨_, rfl⟩
        have HLL : Hid (L = fb.length) := hL
        rw [← hL] at HW
        rw [← hL]
        clear hL
        go_wp2
        refine bodyPost_ret (results_fm rfl _ _ B (set6 HR3.out _ _ _ _ _ _) rfl) rfl ?_
        rw [show Z = _ from HZ2.out]
        have e1 : L = fb.length := HLL.out
        have hBe : B = w.heap.size := HE.out
        have OB := @only6 w2 B (.bool true) (.string fn) (.int .i64 (fi : Int)) (.int .i64 (fj : Int)) (.slice ao L cap) .nilIface
        have hR := HW.out.2.lt
        refine show ∃ bv iv, _ ∧ Hid _ from ⟨.slice ao L cap, .nilIface, rfl, ?_⟩
        refine ⟨?_, HW.out.2.rd.other (fun b h e => by omega) OB, HW.out.2.on.trans OB (fun b h e => by omega)⟩
        obtain ⟨S, hS, hb⟩ := ((HW.out.1.only OB (fun b hb e => by omega)).lower (show w.heap.size ≤ w.heap.size + 1 by omega)).seq
        exact ⟨S, .inl ⟨rfl, rfl, hS, rfl⟩, hb⟩
    | false =>
      rw [hn] at HS
      have HZ2 : Hid (Z = match prs n f 1 (t :: r) o z with
          | .error e => .error e
          | .ok (l, q', z') => .ok (⟨false, ⟨#[]⟩, 0, 0, [], l.headD noT⟩, q', z')) := by show Z = _; rw [HZ.out]; simp only [fmR]; rw [if_neg (by rw [hn]; simp)]; try rfl
      have HD : Hid (∀ w1, RdAt w1 R (t :: r) n o z → Calls Tryd.prog 31 #[.pointer (some ⟨R, 0, none⟩)] w1 (ptP R f true n o w1 (prs n f 1 (t :: r) o z))) := by
        intro w1 hw
        have b := HB.out
        exact (parts_any R n (f + 1) f (by omega)).2.1 (t :: r) o z w1 (by omega) b.2.2.2.2.2 b.1 b.2.1 b.2.2.1 b.2.2.2.1 hw
      clear HZ hn
      obtain ⟨X, hX⟩ : ∃ X, X = prs n f 1 (t :: r) o z := ⟨_, rfl⟩
      rw [← hX] at HZ2 HD
      clear hX
      go_enter Tryd.func15, Tryd.ntmps15
      go_wp2_with fail
      refine (show Calls Tryd.prog 34 _ _ _ from HS.out _ K0.out.rd).mono ?_
      rintro e w1 ⟨rfl, o1⟩
      have K1 : Hid (DfK w w1 R (t :: r) n o z fmO) := K0.out.still o1
      clear o1 K0 HS
      go_wp2_with fail
      refine (show Calls Tryd.prog 31 _ _ _ from HD.out _ K1.out.rd).mono ?_
      intro e w2 g2
      clear HD
      cases X with
      | error p =>
        obtain ⟨a, er⟩ := p
        obtain ⟨he, o2⟩ := g2
        subst he
        have HX : Hid (fmP R f n o w Z (gup a er) w2) := HP.out _ _ _ HZ2.out (K1.out.on.trans o2 (fun _ _ g => g))
        clear HZ2 HP K1 o2 HB
        unfold gup at HX ⊢
        go_wp2
        exact ⟨rfl, HX.out⟩
      | ok p =>
        obtain ⟨l, q6, z'⟩ := p
        obtain ⟨t1, v, hl, he, g2⟩ := g2
        subst hl
        subst he
        have K2 : DfK w w2 R q6 n o z' fmO := K1.out.go g2.out.2.2 g2.out.2.1
        have hbig : w.heap.size < w1.heap.size := (Array.getElem?_eq_some_iff.1 K1.out.bl).1
        have HW : Hid (NwAt w2 (w.heap.size + 1) f true t1 v ∧ DfK w w2 R q6 n o z' fmO) := ⟨g2.out.1.lower hbig, K2⟩
        obtain ⟨T, y, hv⟩ := g2.out.1.form
        subst hv
        have R3 := K2.bl
        unfold fmO at R3
        obtain ⟨B, hBe⟩ : ∃ B, B = w.heap.size := ⟨_, rfl⟩
        have HE : Hid (B = w.heap.size) := hBe
        rw [← hBe] at R3 ⊢
        have c0 := blk_cells R3 0
        have c1 := blk_cells R3 1
        have c2 := blk_cells R3 2
        have c3 := blk_cells R3 3
        have c4 := blk_cells R3 4
        have c5 := blk_cells R3 5
        have z0 := blk_froz R3 0
        have z1 := blk_froz R3 1
        have z2 := blk_froz R3 2
        have z3 := blk_froz R3 3
        have z4 := blk_froz R3 4
        have z5 := blk_froz R3 5
        have HR3 : Hid (w2.heap[B]? = some (.cells #[.bool false, .string ⟨#[]⟩, .int .i64 0, .int .i64 0, .slice none 0 0, .nilIface] 55)) := R3
        simp only [List.getElem?_toArray, List.getElem?_cons_zero, List.getElem?_cons_succ] at c0 c1 c2 c3 c4 c5
        clear g2 K1 K2 hbig R3 hBe HP
        go_wp2
        refine bodyPost_ret (results_fm rfl _ _ B (set6 HR3.out _ _ _ _ _ _) rfl) rfl ?_
        rw [show Z = _ from HZ2.out]
        have hBe : B = w.heap.size := HE.out
        have OB := @only6 w2 B (.bool false) (.string ⟨#[]⟩) (.int .i64 0) (.int .i64 0) (.slice none 0 0) (.iface T y)
        have hR := HW.out.2.lt
        refine show ∃ bv iv, _ ∧ Hid _ from ⟨.slice none 0 0, .iface T y, rfl, ?_⟩
        refine ⟨?_, HW.out.2.rd.other (fun b h e => by omega) OB, HW.out.2.on.trans OB (fun b h e => by omega)⟩
        obtain ⟨S, hS, hb⟩ := (HW.out.1.only OB (fun b hb e => by omega)).lower (show w.heap.size ≤ w.heap.size + 1 by omega)
        exact ⟨S, .inr ⟨rfl, rfl, rfl, rfl, rfl, rfl, hS⟩, hb⟩
end Go.Proofs.YtapehdolnljnoaaDoor
namespace Go.Proofs.YtapehdolnljnoaaDoor
open Go.RowKit
set_option linter.unusedSimpArgs false
set_option linter.unusedVariables false
set_option maxRecDepth 100000 in
theorem caught_idle (x y z : Addr) (w : World) :
    CallsD Tryd.prog 33 #[.pointer (some x), .pointer (some y), .pointer (some z)] .returning w fun e u' w' => e = .returned (.tuple #[]) ∧ u' = .returning ∧ w' = w := by
  refine callsD_of_wpS Tryd.func33 rfl fun c₀ cs hu => ?_
  apply wpS_seq
  apply wpS_region
  simp [wpOpsS, go_sem, recoverD, hu, Tryd.ntmps33, Exit.thenS]
  apply wpS_seq
  apply wpS_seq
  apply wpS_region
  simp [wpOpsS, go_sem, recoverD, hu, Tryd.ntmps33, Exit.thenS]
  refine wpS_cond (t := true) (by simp [Act.eval, Array.replicate]) ?_
  simp only [if_true]
  refine wpS_of_wp (wp_ret ?_)
  cases c₀
  simp_all [Exit.thenS, bodyPostS, results, Tryd.results33]
end Go.Proofs.YtapehdolnljnoaaDoor
namespace Go.Proofs.YtapehdolnljnoaaDoor
open Go.RowKit
set_option linter.unusedSimpArgs false
set_option linter.unusedVariables false
theorem flt_as (v : Value) (W : World) : (Instr.typeAssert (.iface 85 v) 20 85 true).run Tryd.prog W = .ok (.tuple #[v, .bool true]) W := by
  simp [Instr.typeAssert, run_underlying Tryd.underlying85]
set_option maxRecDepth 100000 in
set_option maxHeartbeats 4000000 in
theorem caught_own (X Y Z : Nat) (vx vy vz : Value) (tx ty tz : TypeId) (a e : Int) (older : List PanicEntry) (w : World) (hx : w.heap[X]? = some (.cells #[vx] tx)) (hy : w.heap[Y]? = some (.cells #[vy] ty)) (hz : w.heap[Z]? = some (.cells #[vz] tz)) (hxy : X ≠ Y) (hxz : X ≠ Z) (hyz : Y ≠ Z) :
    CallsD Tryd.prog 33 #[.pointer (some ⟨X, 0, none⟩), .pointer (some ⟨Y, 0, none⟩), .pointer (some ⟨Z, 0, none⟩)] (.panicking ({ v := .iface 85 (.agg #[.int .i64 a, .int .i64 e]), recovered := false } :: older)) w fun en u' w' => en = .returned (.tuple #[]) ∧ u' = .panicking ({ v := .iface 85 (.agg #[.int .i64 a, .int .i64 e]), recovered := true } :: older) ∧ Hid (w'.cell? ⟨X, 0, none⟩ = some (.slice none 0 0) ∧ w'.cell? ⟨Y, 0, none⟩ = some (.int .i64 a) ∧ w'.cell? ⟨Z, 0, none⟩ = some (.int .i64 e) ∧ Only (fun b => b = X ∨ b = Y ∨ b = Z) w w') := by
  have al : ∀ (ob : Obj) (b : Nat) (o : Obj), w.heap[b]? = some o → (w.alloc ob).heap[b]? = some o := fun ob b o hb => (((Only.refl (fun _ => False) w).alloc ob).block b (Array.getElem?_eq_some_iff.1 hb).1 (fun h => h)).trans hb
  have cx : ∀ ob, (w.alloc ob).cell? ⟨X, 0, none⟩ = some vx := fun ob => by rw [blk_cells (al ob X _ hx)]; rfl
  have cy : ∀ ob, (w.alloc ob).cell? ⟨Y, 0, none⟩ = some vy := fun ob => by rw [blk_cells (al ob Y _ hy)]; rfl
  have cz : ∀ ob, (w.alloc ob).cell? ⟨Z, 0, none⟩ = some vz := fun ob => by rw [blk_cells (al ob Z _ hz)]; rfl
  have fx : ∀ ob, (w.alloc ob).frozen? ⟨X, 0, none⟩ = false := fun ob => blk_froz (al ob X _ hx) 0
  have fy : ∀ ob, (w.alloc ob).frozen? ⟨Y, 0, none⟩ = false := fun ob => blk_froz (al ob Y _ hy) 0
  have fz : ∀ ob, (w.alloc ob).frozen? ⟨Z, 0, none⟩ = false := fun ob => blk_froz (al ob Z _ hz) 0
  have lx : X < w.heap.size := (Array.getElem?_eq_some_iff.1 hx).1
  have ly : Y < w.heap.size := (Array.getElem?_eq_some_iff.1 hy).1
  have lz : Z < w.heap.size := (Array.getElem?_eq_some_iff.1 hz).1
  clear al hx hy hz
  refine callsD_of_wpS Tryd.func33 rfl fun c₀ cs hu => ?_
  apply wpS_seq
  apply wpS_region
  simp [wpOpsS, go_sem, recoverD, hu, Tryd.ntmps33, Exit.thenS]
  apply wpS_seq
  apply wpS_seq
  apply wpS_region
  simp [wpOpsS, go_sem, recoverD, hu, Tryd.ntmps33, Exit.thenS]
  refine wpS_cond (t := false) (by simp [Act.eval, Array.replicate]) ?_
  simp only [Bool.false_eq_true, if_false]
  refine wpS_of_wp (wp_skip ?_)
  simp only [Exit.thenS]
  refine wpS_of_wp (a := { tmps := #[.pointer (some ⟨X, 0, none⟩), .pointer (some ⟨Y, 0, none⟩), .pointer (some ⟨Z, 0, none⟩), .iface 85 (.agg #[.int .i64 a, .int .i64 e]), undef, undef, .iface 85 (.agg #[.int .i64 a, .int .i64 e]), .iface 85 (.agg #[.int .i64 a, .int .i64 e]), .bool false, undef, undef, undef, undef, undef, undef, undef, undef, undef, undef, undef, undef], defers := [] }) ?_
  have hta := flt_as
  go_wp2_with fail
  obtain ⟨W, hW⟩ : ∃ W, W = w.alloc (.cells #[.int .i64 a, .int .i64 e] 85) := ⟨_, rfl⟩
  have HW : Hid (W = w.alloc (.cells #[.int .i64 a, .int .i64 e] 85)) := hW
  obtain ⟨B, hB⟩ : ∃ B, B = w.heap.size := ⟨_, rfl⟩
  have b0 : W.cell? ⟨B, 0, none⟩ = some (.int .i64 a) := by rw [hW, hB]; simp
  have b1 : W.cell? ⟨B, 1, none⟩ = some (.int .i64 e) := by rw [hW, hB]; simp
  have dx := cx (.cells #[.int .i64 a, .int .i64 e] 85)
  have dy := cy (.cells #[.int .i64 a, .int .i64 e] 85)
  have dz := cz (.cells #[.int .i64 a, .int .i64 e] 85)
  have gx := fx (.cells #[.int .i64 a, .int .i64 e] 85)
  have gy := fy (.cells #[.int .i64 a, .int .i64 e] 85)
  have gz := fz (.cells #[.int .i64 a, .int .i64 e] 85)
  rw [← hW] at dx dy dz gx gy gz
  rw [← hW, ← hB]
  have nx : ¬ X = B := by omega
  have ny : ¬ Y = B := by omega
  have nz : ¬ Z = B := by omega
  have nx' : ¬ B = X := by omega
  have ny' : ¬ B = Y := by omega
  have nz' : ¬ B = Z := by omega
  have nyx : ¬ Y = X := fun h => hxy h.symm
  have nzx : ¬ Z = X := fun h => hxz h.symm
  have nzy : ¬ Z = Y := fun h => hyz h.symm
  clear cx cy cz fx fy fz hW hB lx ly lz
  have hx2 : ((((W.setCell ⟨X, 0, none⟩ (.slice none 0 0)).setCell ⟨Y, 0, none⟩ (.int .i64 a)).setCell ⟨Z, 0, none⟩ (.int .i64 e)).drew).cell? ⟨X, 0, none⟩ = some (.slice none 0 0) := by
    show (((W.setCell ⟨X, 0, none⟩ (.slice none 0 0)).setCell ⟨Y, 0, none⟩ (.int .i64 a)).setCell ⟨Z, 0, none⟩ (.int .i64 e)).cell? ⟨X, 0, none⟩ = _
    rw [World.cell?_setCell_other _ _ _ _ (by intro h; injection h with h; exact nzx h), World.cell?_setCell_other _ _ _ _ (by intro h; injection h with h; exact nyx h)]
    exact World.cell?_setCell_same' _ _ _ (by rw [dx]; rfl)
  have hy2 : ((((W.setCell ⟨X, 0, none⟩ (.slice none 0 0)).setCell ⟨Y, 0, none⟩ (.int .i64 a)).setCell ⟨Z, 0, none⟩ (.int .i64 e)).drew).cell? ⟨Y, 0, none⟩ = some (.int .i64 a) := by
    show (((W.setCell ⟨X, 0, none⟩ (.slice none 0 0)).setCell ⟨Y, 0, none⟩ (.int .i64 a)).setCell ⟨Z, 0, none⟩ (.int .i64 e)).cell? ⟨Y, 0, none⟩ = _
    rw [World.cell?_setCell_other _ _ _ _ (by intro h; injection h with h; exact nzy h)]
    exact World.cell?_setCell_same' _ _ _ (by rw [World.cell?_setCell_other _ _ _ _ (by intro h; injection h with h; exact hxy h), dy]; rfl)
  have hz2 : ((((W.setCell ⟨X, 0, none⟩ (.slice none 0 0)).setCell ⟨Y, 0, none⟩ (.int .i64 a)).setCell ⟨Z, 0, none⟩ (.int .i64 e)).drew).cell? ⟨Z, 0, none⟩ = some (.int .i64 e) := by
    show (((W.setCell ⟨X, 0, none⟩ (.slice none 0 0)).setCell ⟨Y, 0, none⟩ (.int .i64 a)).setCell ⟨Z, 0, none⟩ (.int .i64 e)).cell? ⟨Z, 0, none⟩ = _
    exact World.cell?_setCell_same' _ _ _ (by rw [World.cell?_setCell_other _ _ _ _ (by intro h; injection h with h; exact hyz h), World.cell?_setCell_other _ _ _ _ (by intro h; injection h with h; exact hxz h), dz]; rfl)
  have ho2 : Only (fun b => b = X ∨ b = Y ∨ b = Z) w ((((W.setCell ⟨X, 0, none⟩ (.slice none 0 0)).setCell ⟨Y, 0, none⟩ (.int .i64 a)).setCell ⟨Z, 0, none⟩ (.int .i64 e)).drew) := by
    rw [HW.out]
    exact (((((Only.refl _ w).alloc _).setCell ⟨X, 0, none⟩ _ (fun _ => .inl rfl)).setCell ⟨Y, 0, none⟩ _ (fun _ => .inr (.inl rfl))).setCell ⟨Z, 0, none⟩ _ (fun _ => .inr (.inr rfl))).drew
  have HH : Hid (((((W.setCell ⟨X, 0, none⟩ (.slice none 0 0)).setCell ⟨Y, 0, none⟩ (.int .i64 a)).setCell ⟨Z, 0, none⟩ (.int .i64 e)).drew).cell? ⟨X, 0, none⟩ = some (.slice none 0 0) ∧ ((((W.setCell ⟨X, 0, none⟩ (.slice none 0 0)).setCell ⟨Y, 0, none⟩ (.int .i64 a)).setCell ⟨Z, 0, none⟩ (.int .i64 e)).drew).cell? ⟨Y, 0, none⟩ = some (.int .i64 a) ∧ ((((W.setCell ⟨X, 0, none⟩ (.slice none 0 0)).setCell ⟨Y, 0, none⟩ (.int .i64 a)).setCell ⟨Z, 0, none⟩ (.int .i64 e)).drew).cell? ⟨Z, 0, none⟩ = some (.int .i64 e) ∧ Only (fun b => b = X ∨ b = Y ∨ b = Z) w ((((W.setCell ⟨X, 0, none⟩ (.slice none 0 0)).setCell ⟨Y, 0, none⟩ (.int .i64 a)).setCell ⟨Z, 0, none⟩ (.int .i64 e)).drew)) := ⟨hx2, hy2, hz2, ho2⟩
  clear hx2 hy2 hz2 ho2 HW
  go_region
  exact ⟨rfl, _, rfl, .tuple #[], by simp [results, Tryd.results33], rfl, rfl, HH⟩
end Go.Proofs.YtapehdolnljnoaaDoor
