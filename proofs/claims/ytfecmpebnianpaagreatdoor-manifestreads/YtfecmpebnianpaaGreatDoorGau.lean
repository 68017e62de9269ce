/- The document's reader: items up to a word. The document's reader: quotations, lists, items. -/
import Derived.Test.YtfecmpebnianpaaGreatDoorGat
import Derived.Test.YtfecmpebnianpaaGreatDoorGag
import Derived.Test.YtfecmpebnianpaaGreatDoorGak
namespace Go.Proofs.YtfecmpebnianpaaGreatDoor
open Go.RowKit
set_option linter.unusedSimpArgs false
set_option linter.unusedVariables false
/-- what literal and item answer -/
def rlP (R : Nat) (v : Value) (tl : List Tok) (n : Int) (f m : Nat) (nx : Nat) (o s : Int) (w : World) (x : Ending) (w' : World) : Prop :=
  match prs n f m (tl.drop nx) o (zIn o s) with
  | .ok (l, q', z') => ∃ t ao L cap nx' s', l = [t] ∧ x = .returned (.tuple #[rV (t.k : Int) (vn t) (vs t) (.slice ao L cap), .bool true]) ∧ Hid (q' = tl.drop nx' ∧ nx' ≤ tl.length ∧ NvAt w' w.heap.size f t (.slice ao L cap) ∧ (o ≠ 0 → s' = z') ∧ 0 ≤ s' ∧ s' ≤ 1024 ∧ RrW R v tl (nx' : Int) n o s' 0 0 w w')
  | .error (a, e) => ∃ k n' s' ao L cap b, x = .returned (.tuple #[rV k n' s' (.slice ao L cap), .bool b]) ∧ Hid (e ≠ 0 ∧ ((b = true ∧ (m = 0 → nmR tl nx = false) ∧ RrF R v tl n a e w w') ∨ (b = false ∧ a = atR tl nx n ∧ e = 9 ∧ RrAt w' R v tl (nx : Int) n o s 0 0 ∧ Only (fun _ => False) w w')))
def RpC (R : Nat) (v : Value) (tl : List Tok) (n : Int) (f m : Nat) (fn : FuncId) : Prop := ∀ (nx : Nat) (o s : Int) (w : World), nx ≤ tl.length → 3 * (tl.length - nx) + 1 + m ≤ f → 0 ≤ o → o ≤ 32 → 0 ≤ s → s ≤ 1024 → RrAt w R v tl (nx : Int) n o s 0 0 → Calls Tryz.prog fn #[.pointer (some ⟨R, 0, none⟩)] w (rlP R v tl n f m nx o s w)
/-- what items answers -/
def riQ (R : Nat) (v : Value) (tl : List Tok) (n : Int) (f : Nat) (o : Int) (w : World) (B : Nat) (Z : Except (Int × Int) (List Tre × List Tok × Int)) (x : Ending) (w' : World) : Prop :=
  match Z with
  | .ok (l, q', z') => ∃ ao cap nx', x = .returned (.slice ao l.length cap) ∧ Hid (q' = tl.drop nx' ∧ nx' ≤ tl.length ∧ VrAt w' B f (.slice ao l.length cap) l ∧ RrW R v tl (nx' : Int) n (o - 1) z' 0 0 w w')
  | .error (a, e) => ∃ ao L cap, x = .returned (.slice ao L cap) ∧ Hid (e ≠ 0 ∧ RrF R v tl n a e w w')
def RiC (R : Nat) (v : Value) (tl : List Tok) (n : Int) (f m : Nat) : Prop := ∀ (nx : Nat) (o s : Int) (w : World), nx ≤ tl.length → 3 * (tl.length - nx) + 3 ≤ f → 1 ≤ o → o ≤ 32 → 0 ≤ s → s ≤ 1024 → RrAt w R v tl (nx : Int) n o s 0 0 → Calls Tryz.prog 76 #[.pointer (some ⟨R, 0, none⟩), .string (shB (m - 2))] w (riQ R v tl n f o w w.heap.size (prs n f m (tl.drop nx) o s))
theorem isR_lt {tl : List Tok} {nx : Nat} {sh : ByteArray} (h : isR tl nx sh = true) : nx + 1 ≤ tl.length := by
  unfold isR at h
  cases g : tl[nx]? with
  | none => rw [g] at h; simp at h
  | some t => exact (List.getElem?_eq_some_iff.1 g).1
theorem drop_some {tl : List Tok} {nx : Nat} {t : Tok} (h : tl[nx]? = some t) : tl.drop nx = t :: tl.drop (nx + 1) := by
  obtain ⟨h1, h2⟩ := List.getElem?_eq_some_iff.1 h
  rw [← List.getElem_cons_drop h1, h2]
theorem drop_none {tl : List Tok} {nx : Nat} (h : tl[nx]? = none) : tl.drop nx = [] := List.drop_eq_nil_of_le (by simpa using h)
theorem up_shut {n : Int} {g m : Nat} {tl : List Tok} {nx : Nat} {o z : Int} {sh : ByteArray} {acc : List Tre} (h : isR tl nx sh = true) (hs : sh = shB m) : pre acc (prs n (g + 1) (m + 2) (tl.drop nx) o z) = .ok (acc, tl.drop (nx + 1), z) := by
  unfold isR at h
  cases ht : tl[nx]? with
  | none => rw [ht] at h; simp at h
  | some t =>
    rw [ht] at h
    dsimp only at h
    rw [drop_some ht, prs_up, ← hs, if_pos h]
    simp [pre]
theorem up_go {n : Int} {g m k : Nat} {tl : List Tok} {nx : Nat} {o z : Int} {sh : ByteArray} (h : isR tl nx sh = false) (hs : sh = shB m) (hm : min m 1 = k) (hg : 1 ≤ g) : prs n (g + 1) (m + 2) (tl.drop nx) o z = (match prs n g k (tl.drop nx) o z with
    | .error e => .error e
    | .ok (l1, r1, z1) => pre l1 (prs n g (m + 2) r1 o z1)) := by
  unfold isR at h
  cases ht : tl[nx]? with
  | none =>
    rw [drop_none ht]
    obtain ⟨g, rfl⟩ : ∃ g', g = g' + 1 := ⟨g - 1, by omega⟩
    have : k = 0 ∨ k = 1 := by omega
    rcases this with rfl | rfl <;> rfl
  | some t =>
    rw [ht] at h
    dsimp only at h
    rw [drop_some ht, prs_up, ← hs, if_neg (by simp [h]), hm]
    cases prs n g k (t :: tl.drop (nx + 1)) o z <;> rfl
/-- how far a reader has to go -/
def rrM (R L : Nat) (w : World) : Nat := match w.cell? ⟨R, 6, none⟩, w.cell? ⟨R, 1, none⟩ with
  | some (.int _ 0), some (.int _ k) => L - k.toNat + 2
  | _, _ => 1
theorem rrM_ok {w : World} {R L : Nat} {v : Value} {tl : List Tok} {nx : Nat} {n o s fa : Int} (h : RrAt w R v tl (nx : Int) n o s fa 0) : rrM R L w = L - nx + 2 := by
  obtain ⟨_, k1, _, _, _, _, k6⟩ := h.blk.cells
  unfold rrM
  rw [k1, k6]
  simp
theorem rrM_bad {w : World} {R L : Nat} {v : Value} {tl : List Tok} {nx n o s fa e : Int} (he : e ≠ 0) (h : RrAt w R v tl nx n o s fa e) : rrM R L w = 1 := by
  obtain ⟨_, k1, _, _, _, _, k6⟩ := h.blk.cells
  unfold rrM
  rw [k1, k6]
  split
  · rename_i h1 h2
    simp only [Option.some.injEq, Value.int.injEq] at h1
    exact absurd h1.2 he
  · rfl
theorem RrAt.keep {w w' : World} {R : Nat} {v : Value} {tl : List Tok} {nx n o s fa e : Int} {bs : Nat → Prop} (h : RrAt w R v tl nx n o s fa e) (hb : ∀ b, b ≤ R → ¬ bs b) (oo : Only bs w w') : RrAt w' R v tl nx n o s fa e :=
  ⟨(oo.block R (Array.getElem?_eq_some_iff.1 h.blk).1 (hb R (Nat.le_refl _))).trans h.blk, h.tks.onlyR (fun b hl => hb b (by omega)) oo⟩
theorem own_form {w : World} {B c n : Nat} {T : TypeId} {v : Value} {us : List Value} (h : w.ownsRow B T c v n us) : ∃ ao cap, v = .slice ao n cap := by
  rcases h.2 with ⟨h1, h2⟩ | ⟨g, cap, cur, h1, _⟩
  · exact ⟨_, _, by rw [h1, h2]⟩
  · exact ⟨_, _, h1⟩
set_option maxRecDepth 100000 in
set_option maxHeartbeats 40000000 in
theorem ri_of (R : Nat) (v : Value) (tl : List Tok) (n : Int) (f m : Nat) (hm : m = 1 ∨ m = 2) (htl : tl.length ≤ 4096) (HP : ∀ g, g < f → RpC R v tl n g 1 51) : RiC R v tl n f (m + 2) := by
  intro nx o s w hx hl ho ho1 hs hs1 h
  have e2 : m + 2 - 2 = m := by omega
  rw [e2]
  obtain ⟨Z, hZ⟩ : ∃ Z, Z = prs n f (m + 2) (tl.drop nx) o s := ⟨_, rfl⟩
  rw [← hZ]
  have HZ : Hid (Z = pre [] (prs n f (m + 2) (tl.drop nx) o s)) := by show Z = _; rw [pre_nil]; exact hZ
  have HM : Hid (min m 1 = 1) := by show min m 1 = 1; omega
  have H0 : Hid (RrAt w R v tl (nx : Int) n o s 0 0 ∧ nx ≤ tl.length ∧ 3 * (tl.length - nx) + 3 ≤ f ∧ 0 ≤ s ∧ s ≤ 1024) := ⟨h, hx, hl, hs, hs1⟩
  have HPP : Hid (∀ g, g < f → RpC R v tl n g 1 51) := HP
  have HR : Hid (R < w.heap.size) := h.lt
  have HTL : Hid (tl.length ≤ 4096) := htl
  obtain ⟨sh, hsh⟩ : ∃ sh, sh = shB m := ⟨_, rfl⟩
  rw [← hsh]
  have HS : Hid (sh = shB m) := hsh
  have HO : Hid (1 ≤ o ∧ o ≤ 32) := ⟨ho, ho1⟩
  obtain ⟨B, hB⟩ : ∃ B, B = w.heap.size := ⟨_, rfl⟩
  have HBW : Hid (w.heap.size ≤ B) := by show w.heap.size ≤ B; omega
  have HBE : Hid (B = w.heap.size) := hB
  rw [← hB]
  clear e2 hZ hl hs hs1 h HP hsh hm ho ho1 hx htl hB
  go_enter Tryz.func76, Tryz.ntmps76
  go_wp2
  go_loopw [5] (fun r5 wr => (∃ (g nx' : Nat) (z' : Int) (acc : List Tre) (ao : Option Addr) (cap : Nat), r5 = .slice ao acc.length cap ∧ Hid (Z = pre acc (prs n g (m + 2) (tl.drop nx') o z') ∧ 3 * (tl.length - nx') + 3 ≤ g ∧ g ≤ f ∧ nx' ≤ tl.length ∧ 0 ≤ z' ∧ (z' ≤ 1024 ∧ acc.length + (tl.length - nx') ≤ 4096) ∧ VrAt wr B f (.slice ao acc.length cap) acc ∧ RrAt wr R v tl (nx' : Int) n o z' 0 0 ∧ Only (fun b => b = R) w wr ∧ B ≤ wr.heap.size)) ∨ (∃ (ao : Option Addr) (L cap : Nat), r5 = .slice ao L cap ∧ Hid (∃ a e, Z = .error (a, e) ∧ e ≠ 0 ∧ RrF R v tl n a e w wr))) (fun _ wr => rrM R tl.length wr)
  case atStart => exact .inl ⟨f, nx, s, [], none, 0, rfl, HZ.out, H0.out.2.2.1, Nat.le_refl _, H0.out.2.1, H0.out.2.2.2.1, ⟨H0.out.2.2.2.2, by have : tl.length ≤ 4096 := HTL.out; simp; omega⟩, vr_nil _ _ _, H0.out.1, Only.refl _ _, by have : B = w.heap.size := HBE.out; omega⟩
  case round =>
    clear HZ H0
    rcases hrel with ⟨g, nx', z', acc, ao, cap, rfl, HI⟩ | ⟨ao, L, cap, rfl, HF⟩
    · obtain ⟨w1, rfl⟩ : ∃ w1, w1 = wr := ⟨_, rfl⟩
      obtain ⟨g0, rfl⟩ : ∃ g0, g = g0 + 1 := ⟨g - 1, by have := HI.out.2.1; omega⟩
      obtain ⟨La, hLa⟩ : ∃ L, L = acc.length := ⟨_, rfl⟩
      have HLa : Hid (La = acc.length) := hLa
      rw [← hLa] at HI ⊢
      clear hLa
      have KM : Hid (rrM R tl.length w1 = tl.length - nx' + 2) := rrM_ok HI.out.2.2.2.2.2.2.2.1
      cases hb : isR tl nx' sh with
      | true =>
        have HE : Hid (Z = .ok (acc, tl.drop (nx' + 1), z')) := by
          show Z = _
          rw [HI.out.1]
          exact up_shut hb HS.out
        have HC : Hid (Calls Tryz.prog 104 #[.pointer (some ⟨R, 0, none⟩), .string sh] w1 fun x w' => x = .returned (.bool false) ∧ Hid (RrW R v tl ((nx' + 1 : Nat) : Int) n (o - 1) z' 0 0 w1 w')) := rmore_shut R v tl nx' n o z' 0 sh w1 (by have := HO.out; omega) (by have := HO.out; omega) (by have := HI.out.2.2.2.1; have := HTL.out; omega) hb HI.out.2.2.2.2.2.2.2.1
        have HLT : Hid (nx' + 1 ≤ tl.length) := isR_lt hb
        have HZB : Hid (0 ≤ z' ∧ z' ≤ 1024) := ⟨HI.out.2.2.2.2.1, HI.out.2.2.2.2.2.1.1⟩
        have HK : Hid (VrAt w1 B f (.slice ao La cap) acc ∧ Only (fun b => b = R) w w1) := ⟨HI.out.2.2.2.2.2.2.1, HI.out.2.2.2.2.2.2.2.2.1⟩
        clear HI hb
        go_wp2_with fail
        refine (show Calls Tryz.prog 104 _ _ _ from HC.out).mono ?_
        rintro x w2 ⟨rfl, g2⟩
        clear HC
        go_wp2
        go_ret
        rw [show Z = _ from HE.out]
        have e1 : La = acc.length := HLa.out
        refine show ∃ ao cap nx', _ ∧ Hid _ from ⟨ao, cap, nx' + 1, by rw [← e1]; rfl, rfl, HLT.out, ?_, g2.out.later HK.out.2⟩
        rw [← e1]
        exact HK.out.1.only g2.out.2 (fun b hb e => by have : R < w.heap.size := HR.out; have : w.heap.size ≤ B := HBW.out; omega)
      | false =>
        have HE : Hid (Z = pre acc (match prs n g0 1 (tl.drop nx') o z' with
            | .error e => .error e
            | .ok (l1, r1, z1) => pre l1 (prs n g0 (m + 2) r1 o z1))) := by
          show Z = _
          rw [HI.out.1]
          exact congrArg (pre acc) (up_go hb HS.out HM.out (by have := HI.out.2.1; omega))
        have HC : Hid (Calls Tryz.prog 104 #[.pointer (some ⟨R, 0, none⟩), .string sh] w1 fun x w' => x = .returned (.bool true) ∧ Only (fun _ => False) w1 w') := rmore_go R v tl nx' n o z' 0 sh w1 hb HI.out.2.2.2.2.2.2.2.1
        have HG : Hid (g0 + 1 ≤ f ∧ 3 * (tl.length - nx') + 3 ≤ g0 + 1 ∧ nx' ≤ tl.length ∧ 0 ≤ z' ∧ z' ≤ 1024 ∧ La + (tl.length - nx') ≤ 4096) := ⟨HI.out.2.2.1, HI.out.2.1, HI.out.2.2.2.1, HI.out.2.2.2.2.1, HI.out.2.2.2.2.2.1.1, HI.out.2.2.2.2.2.1.2⟩
        have HP2 : Hid (∀ w2, Only (fun _ => False) w1 w2 → Calls Tryz.prog 51 #[.pointer (some ⟨R, 0, none⟩)] w2 (rlP R v tl n g0 1 nx' o z' w2)) := fun w2 o2 => by
          have := HG.out
          exact HPP.out g0 (by omega) nx' o z' w2 (by omega) (by omega) (by have := HO.out; omega) (by have := HO.out; omega) (by omega) (by omega) (HI.out.2.2.2.2.2.2.2.1.only o2)
        have HK0 : Hid (VrAt w1 B f (.slice ao La cap) acc ∧ RrAt w1 R v tl (nx' : Int) n o z' 0 0 ∧ Only (fun b => b = R) w w1 ∧ B ≤ w1.heap.size) := ⟨HI.out.2.2.2.2.2.2.1, HI.out.2.2.2.2.2.2.2.1, HI.out.2.2.2.2.2.2.2.2.1, HI.out.2.2.2.2.2.2.2.2.2⟩
        clear HI hb
        go_wp2_with fail
        refine (show Calls Tryz.prog 104 _ _ _ from HC.out).mono ?_
        rintro x w2 ⟨rfl, o2⟩
        have HP3 : Hid _ := HP2.out w2 o2
        have HK : Hid (VrAt w2 B f (.slice ao La cap) acc ∧ RrAt w2 R v tl (nx' : Int) n o z' 0 0 ∧ Only (fun b => b = R) w w2 ∧ B ≤ w2.heap.size) := ⟨HK0.out.1.only o2 (fun _ _ h => h), HK0.out.2.1.only o2, HK0.out.2.2.1.trans (o2.mono (bs' := fun b => b = R) (fun _ _ h => h.elim)) (fun _ _ g => g), Nat.le_trans HK0.out.2.2.2 o2.size⟩
        clear HC HP2 HK0 o2
        go_wp2_with fail
        refine (show Calls Tryz.prog 51 _ _ _ from HP3.out).mono ?_
        intro x w3 hx
        clear HP3
        have hz : zIn o z' = z' := if_neg (by have := HO.out; omega)
        unfold rlP at hx
        rw [hz] at hx
        clear hz
        have hRl : R < w.heap.size := HR.out
        have hBl : w.heap.size ≤ B := HBW.out
        cases hp : prs n g0 1 (tl.drop nx') o z' with
        | ok p =>
          obtain ⟨l1, q1, z1⟩ := p
          rw [hp] at hx HE
          dsimp only at hx
          obtain ⟨t, al, Ll, cl, nx1, s1, rfl, rfl, hx⟩ := hx
          have HPK := prs_ok n _ _ _ _ _ _ _ _ hp (by have := HG.out; omega)
          have s1e : s1 = z1 := hx.out.2.2.2.1 (by have := HO.out; omega)
          subst s1e
          have HE2 : Hid (Z = pre (acc ++ [t]) (prs n g0 (m + 2) (tl.drop nx1) o s1)) := by
            show Z = _
            rw [show Z = _ from HE.out]
            dsimp only
            rw [pre_app, hx.out.1]
          have HN1 : Hid (nx' < nx1 ∧ nx1 ≤ tl.length ∧ 0 ≤ s1 ∧ s1 ≤ 1024) := by
            have h1 := hx.out.1
            have h2 := hx.out.2.1
            have h3 := HPK.1
            rw [h1, List.length_drop, List.length_drop] at h3
            have := HG.out
            have := HPK.2.1
            have := HPK.2.2.1
            exact ⟨by omega, h2, by omega, by omega⟩
          unfold rV
          obtain ⟨x0, hx0⟩ : ∃ x0, x0 = (t.k : Int) := ⟨_, rfl⟩
          obtain ⟨x1, hx1⟩ : ∃ x1, x1 = vn t := ⟨_, rfl⟩
          obtain ⟨x2, hx2⟩ : ∃ x2, x2 = vs t := ⟨_, rfl⟩
          have HXX : Hid (x0 = (t.k : Int) ∧ x1 = vn t ∧ x2 = vs t) := ⟨hx0, hx1, hx2⟩
          rw [← hx0, ← hx1, ← hx2]
          clear hx0 hx1 hx2 HPK hp HE
          have oR : Only (fun b => b = R) w2 w3 := hx.out.2.2.2.2.2.2.2
          have oA : Only (fun _ => False) w3 ((w3.alloc (.cells #[.int .i64 x0, .int .i64 x1, .string x2, .slice al Ll cl] 100)).alloc (.cells #[.int .i64 x0, .int .i64 x1, .string x2, .slice al Ll cl] 100)) := ((Only.refl _ w3).alloc _).alloc _
          have hsz1 : B ≤ w2.heap.size := HK.out.2.2.2
          have V4 := (HK.out.1.only oR (fun b hb e => by omega)).only oA (fun _ _ h => h)
          have N4 : NvAt ((w3.alloc (.cells #[.int .i64 x0, .int .i64 x1, .string x2, .slice al Ll cl] 100)).alloc (.cells #[.int .i64 x0, .int .i64 x1, .string x2, .slice al Ll cl] 100)) w2.heap.size f t (.slice al Ll cl) := (hx.out.2.2.1.deep (by have := HG.out; omega)).only oA (fun _ _ h => h)
          have R4 : RrAt ((w3.alloc (.cells #[.int .i64 x0, .int .i64 x1, .string x2, .slice al Ll cl] 100)).alloc (.cells #[.int .i64 x0, .int .i64 x1, .string x2, .slice al Ll cl] 100)) R v tl (nx1 : Int) n o s1 0 0 := hx.out.2.2.2.2.2.2.1.only oA
          have O4 : Only (fun b => b = R) w ((w3.alloc (.cells #[.int .i64 x0, .int .i64 x1, .string x2, .slice al Ll cl] 100)).alloc (.cells #[.int .i64 x0, .int .i64 x1, .string x2, .slice al Ll cl] 100)) := (HK.out.2.2.1.trans oR (fun _ _ g => g)).trans (oA.mono (bs' := fun b => b = R) (fun _ _ h => h.elim)) (fun _ _ g => g)
          have hlt : ∀ k, (Value.slice ao La cap).ownBlock = some k → k < w2.heap.size := fun k hk => by
            obtain ⟨us, S', hr, _⟩ := HK.out.1
            exact (hr.lt k hk).2
          obtain ⟨us, SS, hown, htr, hSS⟩ := V4
          rw [← show La = _ from HLa.out] at hown
          have HOW : Hid (((w3.alloc (.cells #[.int .i64 x0, .int .i64 x1, .string x2, .slice al Ll cl] 100)).alloc (.cells #[.int .i64 x0, .int .i64 x1, .string x2, .slice al Ll cl] 100)).ownsRow B 100 4 (.slice ao La cap) La us) := hown
          have HAL : Hid (_ ∧ _ ∧ NvAt ((w3.alloc (.cells #[.int .i64 x0, .int .i64 x1, .string x2, .slice al Ll cl] 100)).alloc (.cells #[.int .i64 x0, .int .i64 x1, .string x2, .slice al Ll cl] 100)) w2.heap.size f t (.slice al Ll cl) ∧ RrAt ((w3.alloc (.cells #[.int .i64 x0, .int .i64 x1, .string x2, .slice al Ll cl] 100)).alloc (.cells #[.int .i64 x0, .int .i64 x1, .string x2, .slice al Ll cl] 100)) R v tl (nx1 : Int) n o s1 0 0 ∧ Only (fun b => b = R) w ((w3.alloc (.cells #[.int .i64 x0, .int .i64 x1, .string x2, .slice al Ll cl] 100)).alloc (.cells #[.int .i64 x0, .int .i64 x1, .string x2, .slice al Ll cl] 100)) ∧ B ≤ w2.heap.size ∧ (∀ k, (Value.slice ao La cap).ownBlock = some k → k < w2.heap.size)) := ⟨htr, hSS, N4, R4, O4, hsz1, hlt⟩
          have HLB : Hid (La < 4096) := by have := HG.out; have := HN1.out; show La < 4096; omega
          have HSZ : Hid (B ≤ w3.heap.size) := Nat.le_trans hsz1 oR.size
          clear N4 R4 O4 hown htr hSS hlt hx oR hsz1 HK hRl hBl oA
          obtain ⟨i0', z0, hi', hz0, hz1, hz2, hz3⟩ := v_info
          go_wp2_with (at_builtin; refine wpList_append_own_at _ rfl _ _ 69 rfl B 100 i0' z0 4 56 Tryz.underlying69 hi' hz0 hz1 hz2 hz3 (by decide) _ La us rfl HOW.out ⟨w3.heap.size + 1, 0, none⟩ 1 1 [.int .i64 x0, .int .i64 x1, .string x2, .slice al Ll cl] rfl rfl ?c1 ?c2 ?c3 ?c4 ?c5 ?_)
          case c1 =>
            intro j u hj
            rcases j with _ | _ | _ | _ | j <;> simp at hj <;> subst hj <;> simp [Addr.add]
          case c2 =>
            intro u hu
            simp only [List.mem_cons, List.not_mem_nil, or_false] at hu
            rcases hu with rfl | rfl | rfl | rfl <;> rfl
          case c3 => have := HLB.out; unfold maxLen; omega
          case c4 => have := HLB.out; omega
          case c5 => have := HSZ.out; simp; omega
          intro v' w6 hown' hgrow _ hat
          clear hi' hz0 hz1 hz2 hz3
          obtain ⟨a1, a2, a3, a4, a5, a6, a7⟩ := HAL.out
          obtain ⟨e0, e1, e2⟩ := HXX.out
          have W5 : VrAt w6 B f v' (acc ++ [t]) := VrAt.snoc hgrow (by rw [← show La = _ from HLa.out]; exact HOW.out) a1 a2 a3 a6 a7 (by rw [← show La = _ from HLa.out, ← e0, ← e1, ← e2]; exact hown') (by simpa using hat)
          have og : Only (fun k => (Value.slice ao La cap).ownBlock = some k) _ w6 := (Only.refl _ _).grown hgrow (fun k e _ => e)
          have hB : w.heap.size ≤ B := HBW.out
          have hRl : R < w.heap.size := HR.out
          have R5 : RrAt w6 R v tl (nx1 : Int) n o s1 0 0 := a4.keep (fun b hb e => by have := (HOW.out.lt b e).1; omega) og
          have O5 : Only (fun b => b = R) w w6 := a5.trans og (fun k hk e => by have := (HOW.out.lt k e).1; omega)
          obtain ⟨ao', cap', hv'⟩ := W5.form
          subst hv'
          have HK5 : Hid (Z = pre (acc ++ [t]) (prs n g0 (m + 2) (tl.drop nx1) o s1) ∧ 3 * (tl.length - nx1) + 3 ≤ g0 ∧ g0 ≤ f ∧ nx1 ≤ tl.length ∧ 0 ≤ s1 ∧ (s1 ≤ 1024 ∧ (acc ++ [t]).length + (tl.length - nx1) ≤ 4096) ∧ VrAt w6 B f (.slice ao' (acc ++ [t]).length cap') (acc ++ [t]) ∧ RrAt w6 R v tl (nx1 : Int) n o s1 0 0 ∧ Only (fun b => b = R) w w6 ∧ B ≤ w6.heap.size) := by
            have b1 := HN1.out
            have b2 := HG.out
            have b3 : La = acc.length := HLa.out
            exact ⟨HE2.out, by omega, by omega, by omega, by omega, ⟨by omega, by simp only [List.length_append, List.length_cons, List.length_nil]; omega⟩, W5, R5, O5, by have h1 := og.size; have h2 := HSZ.out; simp at h1; omega⟩
          clear W5 O5 R5 og HAL HOW hown' hgrow hat a1 a2 a3 a4 a5 a6 a7 e0 e1 e2 HXX hB hRl
          obtain ⟨Lb, hLb⟩ : ∃ L, L = (acc ++ [t]).length := ⟨_, rfl⟩
          rw [← hLb]
          go_wp2
          go_roundw
          case rel => exact .inl ⟨g0, nx1, s1, acc ++ [t], ao', cap', by rw [hLb], HK5⟩
          case measure =>
            rw [rrM_ok HK5.out.2.2.2.2.2.2.2.1, show rrM _ _ _ = _ from KM.out]
            have := HN1.out
            omega
        | error p =>
          obtain ⟨a, er⟩ := p
          rw [hp] at hx HE
          dsimp only at hx
          obtain ⟨x0, x1, x2, al, Ll, cl, b, rfl, hx⟩ := hx
          have HE2 : Hid (Z = .error (a, er)) := by
            show Z = _
            rw [show Z = _ from HE.out]
            rfl
          have HLB : Hid (La ≤ 4096) := by have := HG.out; show La ≤ 4096; omega
          unfold rV
          clear hp HE
          cases b with
          | true =>
            have hf : RrF R v tl n a er w2 w3 := by
              rcases hx.out.2 with ⟨_, _, h⟩ | ⟨h, _⟩
              · exact h
              · simp at h
            obtain ⟨nf, of, sf, hf1, oR⟩ := hf
            have oA : Only (fun _ => False) w3 ((w3.alloc (.cells #[.int .i64 x0, .int .i64 x1, .string x2, .slice al Ll cl] 100)).alloc (.cells #[.int .i64 x0, .int .i64 x1, .string x2, .slice al Ll cl] 100)) := ((Only.refl _ w3).alloc _).alloc _
            have V4 := (HK.out.1.only oR (fun b hb e => by have := HK.out.2.2.2; omega)).only oA (fun _ _ h => h)
            have HRF : Hid (∃ a e, Z = .error (a, e) ∧ e ≠ 0 ∧ RrF R v tl n a e w ((w3.alloc (.cells #[.int .i64 x0, .int .i64 x1, .string x2, .slice al Ll cl] 100)).alloc (.cells #[.int .i64 x0, .int .i64 x1, .string x2, .slice al Ll cl] 100))) := ⟨a, er, HE2.out, hx.out.1, nf, of, sf, hf1.only oA, (HK.out.2.2.1.trans oR (fun _ _ g => g)).trans (oA.mono (bs' := fun b => b = R) (fun _ _ h => h.elim)) (fun _ _ g => g)⟩
            obtain ⟨us, SS, hown, htr, hSS⟩ := V4
            rw [← show La = _ from HLa.out] at hown
            have HOW : Hid (((w3.alloc (.cells #[.int .i64 x0, .int .i64 x1, .string x2, .slice al Ll cl] 100)).alloc (.cells #[.int .i64 x0, .int .i64 x1, .string x2, .slice al Ll cl] 100)).ownsRow B 100 4 (.slice ao La cap) La us) := hown
            have HSZ : Hid (B ≤ w3.heap.size) := Nat.le_trans HK.out.2.2.2 oR.size
            clear hown htr hSS hx oR HK hRl hBl oA hf1
            obtain ⟨i0', z0, hi', hz0, hz1, hz2, hz3⟩ := v_info
            go_wp2_with (at_builtin; refine wpList_append_own_at _ rfl _ _ 69 rfl B 100 i0' z0 4 56 Tryz.underlying69 hi' hz0 hz1 hz2 hz3 (by decide) _ La us rfl HOW.out ⟨w3.heap.size + 1, 0, none⟩ 1 1 [.int .i64 x0, .int .i64 x1, .string x2, .slice al Ll cl] rfl rfl ?c1 ?c2 ?c3 ?c4 ?c5 ?_)
            case c1 =>
              intro j u hj
              rcases j with _ | _ | _ | _ | j <;> simp at hj <;> subst hj <;> simp [Addr.add]
            case c2 =>
              intro u hu
              simp only [List.mem_cons, List.not_mem_nil, or_false] at hu
              rcases hu with rfl | rfl | rfl | rfl <;> rfl
            case c3 => have := HLB.out; unfold maxLen; omega
            case c4 => have := HLB.out; omega
            case c5 => have := HSZ.out; simp; omega
            intro v' w6 hown' hgrow _ hat
            clear hi' hz0 hz1 hz2 hz3
            obtain ⟨ao', cap', hv'⟩ := own_form hown'
            subst hv'
            have HF6 : Hid (∃ a e, Z = .error (a, e) ∧ e ≠ 0 ∧ RrF R v tl n a e w w6) := by
              obtain ⟨a, e, h1, h2, nf, of, sf, h3, h4⟩ := HRF.out
              have og : Only (fun k => (Value.slice ao La cap).ownBlock = some k) _ w6 := (Only.refl _ _).grown hgrow (fun k e _ => e)
              have hB : w.heap.size ≤ B := HBW.out
              have hR : R < w.heap.size := HR.out
              exact ⟨a, e, h1, h2, nf, of, sf, h3.keep (fun b hb e => by have := (HOW.out.lt b e).1; omega) og, h4.trans og (fun k hk e => by have := (HOW.out.lt k e).1; omega)⟩
            clear hown' hgrow hat HRF HOW
            go_wp2
            go_roundw
            case rel => exact .inr ⟨ao', La + 1, cap', rfl, HF6⟩
            case measure =>
              obtain ⟨a, e, h1, h2, nf, of, sf, h3, h4⟩ := HF6.out
              rw [rrM_bad h2 h3, show rrM _ _ _ = _ from KM.out]
              omega
          | false =>
            have hf : a = atR tl nx' n ∧ er = 9 ∧ RrAt w3 R v tl (nx' : Int) n o z' 0 0 ∧ Only (fun _ => False) w2 w3 := by
              rcases hx.out.2 with ⟨h, _⟩ | ⟨_, h⟩
              · simp at h
              · exact h
            obtain ⟨ha, he9, hf1, oF⟩ := hf
            have oA : Only (fun _ => False) w3 (w3.alloc (.cells #[.int .i64 x0, .int .i64 x1, .string x2, .slice al Ll cl] 100)) := (Only.refl _ w3).alloc _
            have A4 := hf1.only oA
            have HT : Hid (Calls Tryz.prog 53 #[.pointer (some ⟨R, 0, none⟩)] (w3.alloc (.cells #[.int .i64 x0, .int .i64 x1, .string x2, .slice al Ll cl] 100)) fun x w' => x = .returned (.int .i64 a) ∧ Only (fun _ => False) (w3.alloc (.cells #[.int .i64 x0, .int .i64 x1, .string x2, .slice al Ll cl] 100)) w') := by
              rw [ha]
              exact rat_any R v tl nx' n o z' 0 0 _ A4
            have HFL : Hid (∀ w4, Only (fun _ => False) (w3.alloc (.cells #[.int .i64 x0, .int .i64 x1, .string x2, .slice al Ll cl] 100)) w4 → Calls Tryz.prog 52 #[.pointer (some ⟨R, 0, none⟩), .int .i64 a, .int .i64 9] w4 fun x w' => x = .returned (.tuple #[]) ∧ Hid (RrAt w' R v tl (nx' : Int) n o z' a 9 ∧ Only (fun b => b = R) (w3.alloc (.cells #[.int .i64 x0, .int .i64 x1, .string x2, .slice al Ll cl] 100)) w')) := fun w4 o4 => (rfail_ok R v tl nx' n o z' 0 a 9 w4 (A4.only o4)).mono fun x w' g => ⟨g.1, g.2.out.1, (o4.mono (bs' := fun b => b = R) (fun _ _ h => h.elim)).trans g.2.out.2 (fun _ _ g => g)⟩
            have HV3 : Hid ((w3.alloc (.cells #[.int .i64 x0, .int .i64 x1, .string x2, .slice al Ll cl] 100)).heap[w3.heap.size]? = some (.cells #[.int .i64 x0, .int .i64 x1, .string x2, .slice al Ll cl] 100)) := alloc_at _ _ _ rfl
            have HZ2 : Hid (R < w3.heap.size ∧ Only (fun _ => False) w2 (w3.alloc (.cells #[.int .i64 x0, .int .i64 x1, .string x2, .slice al Ll cl] 100)) ∧ er = 9) := ⟨Nat.lt_of_lt_of_le hRl (Nat.le_trans hBl (Nat.le_trans HK.out.2.2.2 oF.size)), oF.trans oA (fun _ _ g => g), he9⟩
            clear ha he9 A4 hf1 hx
            go_wp2_with fail
            refine (show Calls Tryz.prog 53 _ _ _ from HT.out).mono ?_
            rintro x w4 ⟨rfl, o4⟩
            have HFM : Hid _ := HFL.out w4 o4
            clear HT HFL o4
            go_wp2_with fail
            refine (show Calls Tryz.prog 52 _ _ _ from HFM.out).mono ?_
            rintro x w5 ⟨rfl, g5⟩
            have hV5 := (g5.out.2.block w3.heap.size (Array.getElem?_eq_some_iff.1 HV3.out).1 (by have := HZ2.out.1; omega)).trans HV3.out
            have d0 := blk_cells hV5 0
            have d1 := blk_cells hV5 1
            have d2 := blk_cells hV5 2
            have d3 := blk_cells hV5 3
            simp only [List.getElem?_toArray, List.getElem?_cons_zero, List.getElem?_cons_succ] at d0 d1 d2 d3
            have oB : Only (fun _ => False) w5 (w5.alloc (.cells #[.int .i64 x0, .int .i64 x1, .string x2, .slice al Ll cl] 100)) := (Only.refl _ w5).alloc _
            have V4 := ((HK.out.1.only HZ2.out.2.1 (fun _ _ h => h)).only g5.out.2 (fun b hb e => by omega)).only oB (fun _ _ h => h)
            have oW : Only (fun b => b = R) w (w5.alloc (.cells #[.int .i64 x0, .int .i64 x1, .string x2, .slice al Ll cl] 100)) := ((HK.out.2.2.1.trans (HZ2.out.2.1.mono (bs' := fun b => b = R) (fun _ _ h => h.elim)) (fun _ _ g => g)).trans g5.out.2 (fun _ _ g => g)).trans (oB.mono (bs' := fun b => b = R) (fun _ _ h => h.elim)) (fun _ _ g => g)
            have HRF : Hid (∃ a e, Z = .error (a, e) ∧ e ≠ 0 ∧ RrF R v tl n a e w (w5.alloc (.cells #[.int .i64 x0, .int .i64 x1, .string x2, .slice al Ll cl] 100))) := ⟨a, er, HE2.out, by rw [HZ2.out.2.2]; decide, nx', o, z', by rw [HZ2.out.2.2]; exact g5.out.1.only oB, oW⟩
            obtain ⟨us, SS, hown, htr, hSS⟩ := V4
            rw [← show La = _ from HLa.out] at hown
            have HOW : Hid ((w5.alloc (.cells #[.int .i64 x0, .int .i64 x1, .string x2, .slice al Ll cl] 100)).ownsRow B 100 4 (.slice ao La cap) La us) := hown
            have HSZ : Hid (B ≤ w5.heap.size) := Nat.le_trans HK.out.2.2.2 (Nat.le_trans HZ2.out.2.1.size g5.out.2.size)
            clear hown htr hSS HK hRl hBl oA hV5 oB oW HFM HV3 HZ2 g5 oF
            obtain ⟨i0', z0, hi', hz0, hz1, hz2, hz3⟩ := v_info
            go_wp2_with (at_builtin; refine wpList_append_own_at _ rfl _ _ 69 rfl B 100 i0' z0 4 56 Tryz.underlying69 hi' hz0 hz1 hz2 hz3 (by decide) _ La us rfl HOW.out ⟨w5.heap.size, 0, none⟩ 1 1 [.int .i64 x0, .int .i64 x1, .string x2, .slice al Ll cl] rfl rfl ?c1 ?c2 ?c3 ?c4 ?c5 ?_)
            case c1 =>
              intro j u hj
              rcases j with _ | _ | _ | _ | j <;> simp at hj <;> subst hj <;> simp [Addr.add]
            case c2 =>
              intro u hu
              simp only [List.mem_cons, List.not_mem_nil, or_false] at hu
              rcases hu with rfl | rfl | rfl | rfl <;> rfl
            case c3 => have := HLB.out; unfold maxLen; omega
            case c4 => have := HLB.out; omega
            case c5 => have := HSZ.out; simp; omega
            intro v' w6 hown' hgrow _ hat
            clear hi' hz0 hz1 hz2 hz3
            obtain ⟨ao', cap', hv'⟩ := own_form hown'
            subst hv'
            have HF6 : Hid (∃ a e, Z = .error (a, e) ∧ e ≠ 0 ∧ RrF R v tl n a e w w6) := by
              obtain ⟨a, e, h1, h2, nf, of, sf, h3, h4⟩ := HRF.out
              have og : Only (fun k => (Value.slice ao La cap).ownBlock = some k) _ w6 := (Only.refl _ _).grown hgrow (fun k e _ => e)
              have hB : w.heap.size ≤ B := HBW.out
              have hR : R < w.heap.size := HR.out
              exact ⟨a, e, h1, h2, nf, of, sf, h3.keep (fun b hb e => by have := (HOW.out.lt b e).1; omega) og, h4.trans og (fun k hk e => by have := (HOW.out.lt k e).1; omega)⟩
            clear hown' hgrow hat HRF HOW
            go_wp2
            go_roundw
            case rel => exact .inr ⟨ao', La + 1, cap', rfl, HF6⟩
            case measure =>
              obtain ⟨a, e, h1, h2, nf, of, sf, h3, h4⟩ := HF6.out
              rw [rrM_bad h2 h3, show rrM _ _ _ = _ from KM.out]
              omega
    · obtain ⟨w1, rfl⟩ : ∃ w1, w1 = wr := ⟨_, rfl⟩
      have HC : Hid (Calls Tryz.prog 104 #[.pointer (some ⟨R, 0, none⟩), .string sh] w1 fun x w' => x = .returned (.bool false) ∧ w' = w1) := by
        obtain ⟨a, e, h1, h2, nf, of, sf, h3, h4⟩ := HF.out
        exact rmore_no R v tl nf n of sf a e sh w1 h2 h3
      go_wp2_with fail
      refine (show Calls Tryz.prog 104 _ _ _ from HC.out).mono ?_
      rintro x w2 ⟨rfl, rfl⟩
      clear HC
      go_wp2
      go_ret
      obtain ⟨a, e, h1, h2, h3⟩ := HF.out
      rw [h1]
      exact show ∃ ao L cap, _ ∧ Hid _ from ⟨ao, L, cap, rfl, h2, h3⟩
end Go.Proofs.YtfecmpebnianpaaGreatDoor
namespace Go.Proofs.YtfecmpebnianpaaGreatDoor
open Go.RowKit
set_option linter.unusedSimpArgs false
set_option linter.unusedVariables false
/-- what enter comes to -/
def EnP (R : Nat) (v : Value) (tl : List Tok) (nx : Nat) (n o s : Int) (w w' : World) : Prop :=
  (¬ (o = 32 ∨ zIn o s = 1024) ∧ RrW R v tl ((nx + 1 : Nat) : Int) n (o + 1) (zIn o s + 1) 0 0 w w') ∨ ((o = 32 ∨ zIn o s = 1024) ∧ RrF R v tl n (atR tl nx n) 11 w w')
theorem EnP.on {R : Nat} {v : Value} {tl : List Tok} {nx : Nat} {n o s : Int} {w w' : World} (h : EnP R v tl nx n o s w w') : Only (fun b => b = R) w w' := by
  rcases h with ⟨_, h⟩ | ⟨_, _, _, _, _, h⟩
  · exact h.2
  · exact h
theorem zIn_le {o s : Int} (hs : 0 ≤ s) (hs1 : s ≤ 1024) : 0 ≤ zIn o s ∧ zIn o s ≤ 1024 := by
  unfold zIn
  split <;> omega
theorem rent_any (R : Nat) (v : Value) (tl : List Tok) (nx : Nat) (n o s : Int) (w : World) (ho : 0 ≤ o) (ho1 : o ≤ 32) (hs : 0 ≤ s) (hs1 : s ≤ 1024) (hx : nx ≤ 1000000) (h : RrAt w R v tl (nx : Int) n o s 0 0) :
    Calls Tryz.prog 73 #[.pointer (some ⟨R, 0, none⟩)] w fun x w' => x = .returned (.tuple #[]) ∧ Hid (EnP R v tl nx n o s w w') := by
  have hz := zIn_le (o := o) hs hs1
  by_cases h0 : o = 32
  · subst h0
    exact (renter_deep R v tl nx n s 0 w hs (by omega) hx h).mono fun x w' g => ⟨g.1, .inr ⟨.inl rfl, g.2.out⟩⟩
  · by_cases h1 : zIn o s = 1024
    · have h2 : o ≠ 0 := fun e => by rw [e] at h1; simp [zIn] at h1
      have h3 : s = 1024 := by unfold zIn at h1; rwa [if_neg h2] at h1
      subst h3
      exact (renter_full R v tl nx n o 0 w (by omega) (by omega) hx h).mono fun x w' g => ⟨g.1, .inr ⟨.inr h1, g.2.out⟩⟩
    · exact (renter_ok R v tl nx n o s 0 w ho (by omega) hs (by omega) hx h).mono fun x w' g => ⟨g.1, .inl ⟨fun e => by rcases e with e | e <;> contradiction, g.2.out⟩⟩
set_option maxRecDepth 100000 in
/-- items behind a fault -/
theorem ri_no (R : Nat) (v : Value) (tl : List Tok) (nx n o s a e : Int) (sh : ByteArray) (w : World) (he : e ≠ 0) (h : RrAt w R v tl nx n o s a e) :
    Calls Tryz.prog 76 #[.pointer (some ⟨R, 0, none⟩), .string sh] w fun x w' => x = .returned (.slice none 0 0) ∧ w' = w := by
  have HC : Hid (Calls Tryz.prog 104 #[.pointer (some ⟨R, 0, none⟩), .string sh] w fun x w' => x = .returned (.bool false) ∧ w' = w) := rmore_no R v tl nx n o s a e sh w he h
  clear h he
  go_enter Tryz.func76, Tryz.ntmps76
  go_wp2
  go_loopw [5] (fun r5 wr => r5 = .slice none 0 0 ∧ wr = w) (fun _ _ => 1)
  case atStart => exact ⟨rfl, rfl⟩
  case round =>
    obtain ⟨rfl, rfl⟩ := hrel
    go_wp2_with fail
    refine (show Calls Tryz.prog 104 _ _ _ from HC.out).mono ?_
    rintro x w2 ⟨rfl, rfl⟩
    clear HC
    go_wp2
    go_ret
    exact ⟨rfl, rfl⟩
/-- a bracket's parts, or why there are none -/
def brZ (n : Int) (f m : Nat) (tl : List Tok) (nx : Nat) (o s : Int) : Except (Int × Int) (List Tre × List Tok × Int) :=
  if o = 32 ∨ zIn o s = 1024 then .error (atR tl nx n, 11) else prs n f m (tl.drop (nx + 1)) (o + 1) (zIn o s + 1)
theorem prs_quot {n : Int} {f : Nat} {tl : List Tok} {nx : Nat} {o s : Int} {tk tn ta : Int} (i2 : (tk == 2) = false) (i3 : (tk == 3) = false) (ht : tl[nx]? = some ⟨tk, ⟨#[91]⟩, tn, ta⟩) : prs n (f + 1) 0 (tl.drop nx) o (zIn o s) = (match brZ n f 3 tl nx o s with
    | .error e => .error e
    | .ok (l, r', z') => .ok ([⟨5, 0, ⟨#[]⟩, l⟩], r', z')) := by
  have k2 : ¬ tk = 2 := by simpa using i2
  have k3 : ¬ tk = 3 := by simpa using i3
  have e : (⟨#[91]⟩ : ByteArray).toList = [91] := by kernel_rfl
  rw [drop_some ht]
  unfold brZ
  conv =>
    lhs
    unfold prs
  dsimp only
  rw [if_neg k2, if_neg k3, e, if_neg (by decide), if_neg (by decide), if_pos rfl]
  have ha : atR tl nx n = ta := by unfold atR; rw [ht]
  rw [ha]
  split <;> rfl
theorem prs_list {n : Int} {f : Nat} {tl : List Tok} {nx : Nat} {o s : Int} {tk tn ta : Int} (i2 : (tk == 2) = false) (i3 : (tk == 3) = false) (ht : tl[nx]? = some ⟨tk, ⟨#[123]⟩, tn, ta⟩) : prs n (f + 1) 0 (tl.drop nx) o (zIn o s) = (match brZ n f 2 tl nx o s with
    | .error e => .error e
    | .ok (l, r', z') => .ok ([⟨4, 0, ⟨#[]⟩, l⟩], r', z')) := by
  have k2 : ¬ tk = 2 := by simpa using i2
  have k3 : ¬ tk = 3 := by simpa using i3
  have e : (⟨#[123]⟩ : ByteArray).toList = [123] := by kernel_rfl
  rw [drop_some ht]
  unfold brZ
  conv =>
    lhs
    unfold prs
  dsimp only
  rw [if_neg k2, if_neg k3, e, if_neg (by decide), if_neg (by decide), if_neg (by decide), if_pos rfl]
  have ha : atR tl nx n = ta := by unfold atR; rw [ht]
  rw [ha]
  split <;> rfl
theorem nm_br {tl : List Tok} {nx : Nat} {tk tn ta : Int} {c : UInt8} (hc : c = 91 ∨ c = 123 ∨ c = 116 ∨ c = 102) (ht : tl[nx]? = some ⟨tk, ⟨#[c]⟩, tn, ta⟩) : nmR tl nx = false := by
  unfold nmR
  rw [ht]
  have e : ∀ c : UInt8, (⟨#[c]⟩ : ByteArray).toList = [c] := fun c => by rw [ByteArray.toList_eq]
  rcases hc with rfl | rfl | rfl | rfl <;> simp [nmB, resB, e]
set_option maxRecDepth 100000 in
set_option maxHeartbeats 8000000 in
theorem rl_quot (f : Nat) (R : Nat) (v : Value) (tl : List Tok) (nx : Nat) (n o s : Int) (tk : Int) (tn ta : Int) (w : World) (htl : tl.length ≤ 4096) (ho : 0 ≤ o) (ho1 : o ≤ 32) (hs : 0 ≤ s) (hs1 : s ≤ 1024) (hf : 3 * (tl.length - nx) + 1 ≤ f + 1) (HI : RiC R v tl n f 3) (i2 : (tk == 2) = false) (i3 : (tk == 3) = false) (ht : tl[nx]? = some ⟨tk, ⟨#[91]⟩, tn, ta⟩) (h : RrAt w R v tl (nx : Int) n o s 0 0) :
    Calls Tryz.prog 77 #[.pointer (some ⟨R, 0, none⟩)] w (rlP R v tl n (f + 1) 0 nx o s w) := by
  have hnx : nx < tl.length := (List.getElem?_eq_some_iff.1 ht).1
  have HQ : Hid (prs n (f + 1) 0 (tl.drop nx) o (zIn o s) = (match brZ n f 3 tl nx o s with
    | .error e => .error e
    | .ok (l, r', z') => .ok ([⟨5, 0, ⟨#[]⟩, l⟩], r', z'))) := prs_quot i2 i3 ht
  have HNM : Hid (nmR tl nx = false) := nm_br (.inl rfl) ht
  have HE : Hid (∀ w1, RrAt w1 R v tl (nx : Int) n o s 0 0 → Calls Tryz.prog 73 #[.pointer (some ⟨R, 0, none⟩)] w1 fun x w' => x = .returned (.tuple #[]) ∧ Hid (EnP R v tl nx n o s w1 w')) := fun w1 h1 => rent_any R v tl nx n o s w1 ho ho1 hs hs1 (by omega) h1
  have HJ : Hid (∀ w1 w2, EnP R v tl nx n o s w1 w2 → Calls Tryz.prog 76 #[.pointer (some ⟨R, 0, none⟩), .string ⟨#[93]⟩] w2 (riQ R v tl n f (o + 1) w2 w2.heap.size (brZ n f 3 tl nx o s))) := fun w1 w2 he => by
    have hz := zIn_le (o := o) hs hs1
    rcases he with ⟨hc, hr⟩ | ⟨hc, nf, of, sf, hr, _⟩
    · unfold brZ
      rw [if_neg hc]
      exact HI (nx + 1) (o + 1) (zIn o s + 1) w2 (by omega) (by omega) (by omega) (by omega) (by omega) (by omega) hr.1
    · unfold brZ
      rw [if_pos hc]
      refine (ri_no R v tl nf n of sf _ 11 _ w2 (by decide) hr).mono fun x w' g => ?_
      rw [g.1, g.2]
      exact ⟨none, 0, 0, rfl, by decide, nf, of, sf, hr, Only.refl _ _⟩
  have HZI : Hid (¬ (o = 32 ∨ zIn o s = 1024) → zIn o s + 1 ≤ 1024 ∧ 0 ≤ zIn o s) := fun hc => by have := zIn_le (o := o) hs hs1; omega
  clear htl ho ho1 hs hs1 hf HI hnx
  have hvv : ∃ v0, v0 = v := ⟨_, rfl⟩
  obtain ⟨v0, hv0⟩ := hvv
  have HV0 : Hid (v0 = v) := hv0
  rw [← hv0] at HE HJ ⊢
  clear hv0
  have hn : nx < tl.length := (List.getElem?_eq_some_iff.1 ht).1
  have hlt := h.lt
  obtain ⟨ao, cap, rfl, hcap, hq0⟩ := h.tks
  obtain ⟨g, k, rfl, _⟩ := hq0 nx _ ht
  clear hcap hq0
  obtain ⟨L, hL⟩ : ∃ L, L = tl.length := ⟨_, rfl⟩
  rw [← hL] at h
  have HL : Hid (L = tl.length) := hL
  have H0 : Hid (RrAt w R (.slice (some ⟨g, k, none⟩) L cap) tl (nx : Int) n o s 0 0) := h
  have HT0 : Hid (tl[nx]? = some ⟨tk, ⟨#[91]⟩, tn, ta⟩) := ht
  obtain ⟨k0, k1, _, _, _, _, k6⟩ := (h.only ((Only.refl (fun _ => False) w).alloc (.cells #[.int .i64 0, .int .i64 0, .string ⟨#[]⟩, .slice none 0 0] 100))).blk.cells
  have i1 : (nx : Int) < (L : Int) := by omega
  have i0 : (0 : Int) ≤ (nx : Int) := by omega
  have i6 : decide (L ≤ nx) = false := by simp; omega
  obtain ⟨N, hN⟩ : ∃ N, N = w.heap.size := ⟨_, rfl⟩
  have HRN : Hid (R < N ∧ w.heap.size ≤ N) := ⟨by omega, by omega⟩
  clear hL ht h hn hlt
  go_enter Tryz.func77, Tryz.ntmps77
  go_wp2
  go_quiet (fail)
  rw [← hN]
  obtain ⟨W1, hW1⟩ : ∃ W1, W1 = (w.alloc (.cells #[.int .i64 0, .int .i64 0, .string ⟨#[]⟩, .slice none 0 0] 100)).drewN nq := ⟨_, rfl⟩
  have O1 : Only (fun _ => False) w W1 := by rw [hW1]; exact ((Only.refl _ w).alloc _).drewN _
  have V1 : W1.heap[N]? = some (.cells #[.int .i64 0, .int .i64 0, .string ⟨#[]⟩, .slice none 0 0] 100) := by rw [hW1]; exact alloc_at _ _ _ hN
  rw [← hW1]
  clear k0 k1 k6 hW1
  have A1 := H0.out.only O1
  obtain ⟨k0, k1, _, _, _, _, k6⟩ := A1.blk.cells
  obtain ⟨_, _, hv, _, hq⟩ := A1.tks
  injection hv with hv1 hv2 hv3
  subst hv1 hv3
  obtain ⟨g', k', hgk, _, c0, c1, c2, c3⟩ := hq nx _ HT0.out
  injection hgk with hgk
  injection hgk with hg hk
  subst hg hk
  dsimp only at c0 c1 c2 c3
  have HO1 : Hid (Only (fun _ => False) w W1 ∧ RrAt W1 R (.slice (some ⟨g, k, none⟩) L cap) tl (nx : Int) n o s 0 0 ∧ W1.heap[N]? = some (.cells #[.int .i64 0, .int .i64 0, .string ⟨#[]⟩, .slice none 0 0] 100)) := ⟨O1, A1, V1⟩
  have K0 := fun x => alloc_cell W1 _ x _ k0
  have K1 := fun x => alloc_cell W1 _ x _ k1
  have C0 := fun x => alloc_cell W1 _ x _ c0
  have C1 := fun x => alloc_cell W1 _ x _ c1
  have C2 := fun x => alloc_cell W1 _ x _ c2
  have C3 := fun x => alloc_cell W1 _ x _ c3
  clear O1 A1 V1 hq H0 hv2 hN
  go_wp2
  go_region
  obtain ⟨T, hT⟩ : ∃ T, T = W1.heap.size := ⟨_, rfl⟩
  obtain ⟨W2, hW2⟩ : ∃ W2, W2 = (W1.alloc (.cells #[.int .i64 tk, .string ⟨#[91]⟩, .int .i64 tn, .int .i64 ta] 152)).drew := ⟨_, rfl⟩
  have O2 : Only (fun _ => False) W1 W2 := by rw [hW2]; exact ((Only.refl _ W1).alloc _).drew
  have T2 : W2.heap[T]? = some (.cells #[.int .i64 tk, .string ⟨#[91]⟩, .int .i64 tn, .int .i64 ta] 152) := by rw [hW2]; exact alloc_at _ _ _ hT
  have V2 : W2.heap[N]? = some (.cells #[.int .i64 0, .int .i64 0, .string ⟨#[]⟩, .slice none 0 0] 100) := (O2.block N (Array.getElem?_eq_some_iff.1 HO1.out.2.2).1 (fun g => g)).trans HO1.out.2.2
  have A2 := HO1.out.2.1.only O2
  have NT : N < T := by rw [hT]; exact (Array.getElem?_eq_some_iff.1 HO1.out.2.2).1
  have H2 : Hid (Only (fun b => b = R) w W2 ∧ RrAt W2 R (.slice (some ⟨g, k, none⟩) L cap) tl (nx : Int) n o s 0 0 ∧ W2.heap[T]? = some (.cells #[.int .i64 tk, .string ⟨#[91]⟩, .int .i64 tn, .int .i64 ta] 152) ∧ W2.heap[N]? = some (.cells #[.int .i64 0, .int .i64 0, .string ⟨#[]⟩, .slice none 0 0] 100) ∧ N < T ∧ Only (fun _ => False) w W2) := ⟨(HO1.out.1.trans O2 (fun _ _ g => g)).mono (fun _ _ h => h.elim), A2, T2, V2, NT, HO1.out.1.trans O2 (fun _ _ g => g)⟩
  have t0 := blk_cells T2 0
  have t1 := blk_cells T2 1
  have t2 := blk_cells T2 2
  simp only [List.getElem?_toArray, List.getElem?_cons_zero, List.getElem?_cons_succ] at t0 t1 t2
  rw [← hW2, ← hT]
  clear k0 k1 k6 c0 c1 c2 c3 K0 K1 C0 C1 C2 C3 O2 T2 V2 A2 NT hT hW2 HO1
  have hv0 : v0 = .slice (some ⟨g, k, none⟩) L cap := HV0.out.trans (by rw [show L = _ from HL.out])
  have HE2 : Hid _ := HE.out W2 (by rw [hv0]; exact H2.out.2.1)
  clear HE hv0 HV0
  go_wp2_with fail
  refine (show Calls Tryz.prog 73 _ _ _ from HE2.out).mono ?_
  rintro x w3 ⟨rfl, g3⟩
  have HJ2 : Hid _ := HJ.out W2 w3 g3.out
  clear HE2 HJ t0 t1 t2
  go_wp2_with fail
  refine (show Calls Tryz.prog 76 _ _ _ from HJ2.out).mono ?_
  intro x w4 hx
  clear HJ2
  have hV3 := (g3.out.on.block N (Array.getElem?_eq_some_iff.1 H2.out.2.2.2.1).1 (by have := HRN.out.1; omega)).trans H2.out.2.2.2.1
  have hN3 : N < w3.heap.size := (Array.getElem?_eq_some_iff.1 hV3).1
  have oW3 : Only (fun b => b = R) w w3 := H2.out.1.trans g3.out.on (fun _ _ g => g)
  unfold riQ at hx
  cases hz : brZ n f 3 tl nx o s with
  | ok p =>
    obtain ⟨l, q1, zq⟩ := p
    rw [hz] at hx HQ
    dsimp only at hx HQ
    obtain ⟨al, cl, nx1, rfl, hx⟩ := hx
    have HZ1 : Hid (0 ≤ zq ∧ zq ≤ 1024 ∧ o + 1 - 1 = o) := by
      unfold brZ at hz
      split at hz
      · simp at hz
      · have hzi : zIn o s + 1 ≤ 1024 ∧ 0 ≤ zIn o s := HZI.out (by assumption)
        have := prs_ok n _ _ _ _ _ _ _ _ hz hzi.1
        exact ⟨by omega, by omega, by omega⟩
    obtain ⟨Ll, hLl⟩ : ∃ L, L = l.length := ⟨_, rfl⟩
    rw [← hLl] at hx ⊢
    clear hLl
    have hV2 := (hx.out.2.2.2.2.block N hN3 (by have := HRN.out.1; omega)).trans hV3
    have HV : Hid (w4.heap[N]? = some _) := hV2
    have e0 := blk_cells hV2 0
    have e1 := blk_cells hV2 1
    have e2 := blk_cells hV2 2
    have e3 := blk_cells hV2 3
    have z0 := blk_froz hV2 0
    have z1 := blk_froz hV2 1
    have z2 := blk_froz hV2 2
    have z3 := blk_froz hV2 3
    simp only [List.getElem?_toArray, List.getElem?_cons_zero, List.getElem?_cons_succ] at e0 e1 e2 e3
    have HF : Hid (NvAt w4 w3.heap.size (f + 1) ⟨5, 0, ⟨#[]⟩, l⟩ (.slice al Ll cl) ∧ RrW R v0 tl (nx1 : Int) n o zq 0 0 w3 w4 ∧ q1 = tl.drop nx1 ∧ nx1 ≤ tl.length ∧ Only (fun b => b = R) w w3 ∧ N < w3.heap.size) := ⟨hx.out.2.2.1.tree rfl, by have := hx.out.2.2.2; rw [HZ1.out.2.2] at this; exact this, hx.out.1, hx.out.2.1, oW3, hN3⟩
    clear hV2 hV3 hx oW3 hN3 hz
    go_wp2
    obtain ⟨q0, q1', q2, q3⟩ := set4 HV.out rfl (.int .i64 5) (.int .i64 0) (.string ⟨#[]⟩) (.slice al Ll cl)
    refine bodyPost_ret (results_vb rfl _ _ N q0 q1' q2 q3 rfl) rfl ?_
    unfold rlP
    rw [HQ.out]
    dsimp only
    refine ⟨_, al, Ll, cl, nx1, zq, rfl, rfl, HF.out.2.2.1, HF.out.2.2.2.1, ?_, fun _ => rfl, HZ1.out.1, HZ1.out.2.1, HF.out.2.1.fin HF.out.2.2.2.2.1 (on4 w4 N _ _ _ _) HRN.out.2 HRN.out.1⟩
    exact ((HF.out.1.only (on4 w4 N _ _ _ _) (fun b hb e => by have := HF.out.2.2.2.2.2; omega)).lower HF.out.2.2.2.2.1.size)
  | error p =>
    obtain ⟨a, er⟩ := p
    rw [hz] at hx HQ
    dsimp only at hx HQ
    obtain ⟨al, Ll, cl, rfl, hx⟩ := hx
    obtain ⟨hne, nf, of, sf, hr, oR⟩ := hx.out
    have hV2 := (oR.block N hN3 (by have := HRN.out.1; omega)).trans hV3
    have HV : Hid (w4.heap[N]? = some _) := hV2
    have HF : Hid (er ≠ 0 ∧ RrF R v0 tl n a er w3 w4 ∧ Only (fun b => b = R) w w3) := ⟨hne, ⟨nf, of, sf, hr, oR⟩, oW3⟩
    have e0 := blk_cells hV2 0
    have e1 := blk_cells hV2 1
    have e2 := blk_cells hV2 2
    have e3 := blk_cells hV2 3
    have z0 := blk_froz hV2 0
    have z1 := blk_froz hV2 1
    have z2 := blk_froz hV2 2
    have z3 := blk_froz hV2 3
    simp only [List.getElem?_toArray, List.getElem?_cons_zero, List.getElem?_cons_succ] at e0 e1 e2 e3
    clear hV2 hV3 hx oW3 hN3 hz hr oR hne
    go_wp2
    obtain ⟨q0, q1', q2, q3⟩ := set4 HV.out rfl (.int .i64 5) (.int .i64 0) (.string ⟨#[]⟩) (.slice al Ll cl)
    refine bodyPost_ret (results_vb rfl _ _ N q0 q1' q2 q3 rfl) rfl ?_
    unfold rlP
    rw [HQ.out]
    dsimp only
    exact ⟨5, 0, ⟨#[]⟩, al, Ll, cl, true, rfl, HF.out.1, .inl ⟨rfl, fun _ => HNM.out, HF.out.2.1.fin HF.out.2.2 (on4 w4 N _ _ _ _) HRN.out.2 HRN.out.1⟩⟩
end Go.Proofs.YtfecmpebnianpaaGreatDoor
