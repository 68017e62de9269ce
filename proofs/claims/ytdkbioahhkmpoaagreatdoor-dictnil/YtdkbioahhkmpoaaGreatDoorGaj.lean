/- Rows of dictionaries one behind the other: slices.Concat. A book of dictionaries, one of which is not sound, or with too many of them, is not opened. The numbers by which contracts of the library stand over this program. Whether a name stands twice among none: slices.Values, Collect, Sorted, Compact of no text. A vocabulary more in the empty dictionary. A nil book is refused; the law's awake. DictNil: the walk. -/
import Derived.Test.YtdkbioahhkmpoaaGreatDoorGai
import Derived.Shelf.Slices.In.SortNone
import Derived.Test.YtdkbioahhkmpoaaGreatDoorProg
import Derived.Deep.RegionLaw
import Derived.Deep.DrawnRows
namespace Go.Proofs.YtdkbioahhkmpoaaGreatDoor
open Go.RowKit Go.Lib
set_option linter.unusedSimpArgs false
set_option linter.unusedVariables false
set_option maxRecDepth 100000 in
theorem dc_info : ∃ i z, Tryz.prog.info? 33 = some i ∧ i.zero = some z ∧ i.size = 2 ∧ i.bytes = 48 ∧ z.cells.size = 2 := ⟨_, _, rfl, rfl, rfl, rfl, rfl⟩
/-- a row of dictionaries that can be read: its cells us -/
def DrAt (w : World) (a : Option Addr) (n : Nat) (us : List Value) : Prop := us.length = n * 2 ∧ (∀ u ∈ us, u.oneCell' = true) ∧ ((n = 0 ∧ a = none) ∨ ∃ g, a = some ⟨g, 0, none⟩ ∧ ∀ k u, us[k]? = some u → w.cell? ⟨g, k, none⟩ = some u)
theorem DrAt.only {w w' : World} {a : Option Addr} {n : Nat} {us : List Value} (h : DrAt w a n us) (o : Only (fun _ => False) w w') : DrAt w' a n us := by
  obtain ⟨h1, h2, h3⟩ := h
  refine ⟨h1, h2, ?_⟩
  rcases h3 with h | ⟨g, e, hc⟩
  · exact .inl h
  · exact .inr ⟨g, e, fun k u hk => o.cell (hc k u hk) (fun g => g)⟩
theorem app_dicts {W : World} {B m n c : Nat} {v : Value} {xs us : List Value} {a : Option Addr} (ho : W.ownsRow B 33 2 v m xs) (hm : m ≤ 1000) (hn : n ≤ 1000) (hs : DrAt W a n us) (hc : a = none → c = 0) (hB : B ≤ W.heap.size) :
    ∃ v' w', (∀ ty, (Builtin.append_ #[34, 34] ty #[v, .slice a n c]).run Tryz.prog W = .ok v' w') ∧ w'.ownsRow B 33 2 v' (m + n) (xs ++ us) ∧ Only (fun k => v.ownBlock = some k) W w' := by
  obtain ⟨i0, z0, hi, hz0, hz1, hz2, hz3⟩ := dc_info
  obtain ⟨h1, h2, h3⟩ := hs
  rcases h3 with ⟨rfl, rfl⟩ | ⟨g, rfl, hg⟩
  · obtain rfl := hc rfl
    have : us = [] := List.eq_nil_of_length_eq_zero (by omega)
    subst this
    exact ⟨v, W, fun ty => run_append_owned_none _ B 34 ty 33 i0 2 Tryz.underlying34 hi _ m xs ho, by simpa using ho, Only.refl _ _⟩
  · have key := fun ty => run_append_own_at (P := Tryz.prog) W B 34 ty 33 i0 z0 2 48 Tryz.underlying34 hi hz0 hz1 hz2 hz3 (by omega) v m xs ho ⟨g, 0, none⟩ n c us h1 (by
      intro k u hk
      rw [addr_ad]
      exact hg k u hk) h2 (by unfold maxLen; omega) (by omega) hB
    obtain ⟨v', w', hr, own', hg, _, hat⟩ := key 0
    exact ⟨v', w', fun ty => by rw [← hr]; rfl, own', (Only.refl (fun k => v.ownBlock = some k) W).grown hg (fun k e _ => e)⟩
/-- what Concat answers -/
def DcC (n : Nat) (us : List Value) (w : World) (e : Ending) (w' : World) : Prop := ∃ g cap, e = .returned (.slice (some ⟨g, 0, none⟩) n cap) ∧ Hid ((∀ k u, us[k]? = some u → w'.cell? ⟨g, k, none⟩ = some u) ∧ Only (fun _ => False) w w')
set_option maxRecDepth 100000 in
set_option maxHeartbeats 4000000 in
theorem concat_dicts (n1 n2 n3 : Nat) (us1 us2 us3 : List Value) (a1 a2 a3 : Option Addr) (c1 c2 c3 R : Nat) (w : World) (hn1 : 0 < n1 ∧ n1 ≤ 100) (hn2 : n2 ≤ 100) (hn3 : n3 ≤ 100) (h1 : DrAt w a1 n1 us1) (h2 : DrAt w a2 n2 us2) (h3 : DrAt w a3 n3 us3) (hc1 : a1 = none → c1 = 0) (hc2 : a2 = none → c2 = 0) (hc3 : a3 = none → c3 = 0)
    (hR0 : w.cell? ⟨R, 0, none⟩ = some (.slice a1 n1 c1)) (hR1 : w.cell? ⟨R, 1, none⟩ = some (.slice a2 n2 c2)) (hR2 : w.cell? ⟨R, 2, none⟩ = some (.slice a3 n3 c3)) : Calls Tryz.prog 13 #[.slice (some ⟨R, 0, none⟩) 3 3] w (DcC (n1 + n2 + n3) (us1 ++ us2 ++ us3) w) := by
  obtain ⟨i0, z0, hi0, hz0, hz1, hz2, hz3⟩ := dc_info
  obtain ⟨n, hn⟩ : ∃ n, n = n1 + n2 + n3 := ⟨_, rfl⟩
  have hgr := Any8.slices_Grow_grow Tryz.growD i0 z0 hi0 hz0 (by omega) none 0 0 n [] w (by omega) (by omega) (by rw [hz2]; omega) (by omega) (by simp) (fun _ => rfl) (fun a ha => by cases ha)
  have hcap : n ≤ grownCap w (0 + n) 0 (Tryz.growD_ren.t 25) := by have := grownCap_ge w (0 + n) 0 (Tryz.growD_ren.t 25); omega
  have hmax := grownCap_le_maxLen w (0 + n) 0 (Tryz.growD_ren.t 25) (by unfold maxLen; omega)
  obtain ⟨cap, hcp⟩ : ∃ cap, cap = grownCap w (0 + n) 0 (Tryz.growD_ren.t 25) := ⟨_, rfl⟩
  obtain ⟨cur, hcur⟩ : ∃ cur : Array Value, cur = ([] : List Value).toArray ++ Builtin.zeroCells z0.cells (0 + n - 0) ++ Builtin.zeroCells z0.cells (grownCap w (0 + n) 0 (Tryz.growD_ren.t 25) - (0 + n)) := ⟨_, rfl⟩
  have hcs : cur.size = cap * 2 := by
    rw [hcur, hcp]
    simp only [Array.size_append, size_zeroCells, hz3, List.size_toArray, List.length_nil]
    omega
  rw [← hcur] at hgr
  rw [← hcp] at hgr hcap hmax
  obtain ⟨W0, hW0⟩ : ∃ W0, W0 = w.drew.alloc (.cells cur 33) := ⟨_, rfl⟩
  have hb0 : W0.heap[w.heap.size]? = some (.cells cur 33) := by rw [hW0]; exact heap_alloc_new w.drew _
  have o0 : Only (fun _ => False) w W0 := by rw [hW0]; exact (Only.refl _ w).drew.alloc _
  have own0 : W0.ownsRow w.heap.size 33 2 (.slice (some ⟨w.heap.size, 0, none⟩) 0 cap) 0 [] := ⟨rfl, .inr ⟨w.heap.size, cap, cur, rfl, Nat.le_refl _, hb0, Nat.zero_le _, hmax, hcs, by simp⟩⟩
  obtain ⟨V1, W1, r1, own1, o1⟩ := app_dicts (n := n1) (c := c1) own0 (by omega) (by omega) (h1.only o0) hc1 (by have := o0.size; omega)
  have oo1 : Only (fun _ => False) w W1 := o0.trans o1 (fun k hk e => by have := (own0.lt k e).1; omega)
  obtain ⟨V2, W2, r2, own2, o2⟩ := app_dicts (n := n2) (c := c2) own1 (by omega) (by omega) (h2.only oo1) hc2 (by have := oo1.size; omega)
  have oo2 : Only (fun _ => False) w W2 := oo1.trans o2 (fun k hk e => by have := (own1.lt k e).1; omega)
  obtain ⟨V3, W3, r3, own3, o3⟩ := app_dicts (n := n3) (c := c3) own2 (by omega) (by omega) (h3.only oo2) hc3 (by have := oo2.size; omega)
  have oo3 : Only (fun _ => False) w W3 := oo2.trans o3 (fun k hk e => by have := (own2.lt k e).1; omega)
  have hP : DcC (n1 + n2 + n3) (us1 ++ us2 ++ us3) w (.returned V3) W3 := by
    rcases own3.2 with ⟨_, h0⟩ | ⟨g, cp, cu, hv, hB, rest⟩
    · omega
    · have e : 0 + n1 + n2 + n3 = n1 + n2 + n3 := by omega
      refine ⟨g, cp, by rw [hv, e], fun k u hk => ?_, oo3⟩
      have := own3.cells (g := g) (by rw [hv]; rfl) k u (by simpa using hk)
      rwa [addr_ad] at this
  obtain ⟨U, hU⟩ : ∃ U, U = us1 ++ us2 ++ us3 := ⟨_, rfl⟩
  rw [← hU] at hP ⊢
  clear hU
  have HG : Hid (Calls Tryz.prog 20 #[.slice none 0 0, .int .i64 ((n1 : Int) + (n2 : Int) + (n3 : Int))] w fun e w' => e = .returned (.slice (some ⟨w.heap.size, 0, none⟩) 0 cap) ∧ w' = W0) := by
    rw [show ((n1 : Int) + (n2 : Int) + (n3 : Int)) = ((n : Nat) : Int) by omega, hW0]
    exact hgr
  have HQ0 : Hid _ := r1
  have HQ1 : Hid _ := r2
  have HQ2 : Hid _ := r3
  have HP : Hid _ := hP
  have s2 : ¬ ((n1 : Int) < 0) := by omega
  have s3 : ¬ ((n1 : Int) + (n2 : Int) < 0) := by omega
  have s4 : ¬ ((n1 : Int) + (n2 : Int) + (n3 : Int) < 0) := by omega
  have p00 := o0.cell hR0 (fun g => g)
  have p11 := oo1.cell hR1 (fun g => g)
  have p22 := oo2.cell hR2 (fun g => g)
  clear h1 h2 h3 hc1 hc2 hc3 r1 r2 r3 hP own0 own1 own2 own3 o0 o1 o2 o3 oo1 oo2 oo3 hgr hcur hcs hcap hmax hcp hW0 hb0 hi0 hz0 hz1 hz2 hz3
  have hn1' : n1 ≤ 100 := hn1.2
  clear hn1 hn
  go_enter Tryz.func13, Tryz.ntmps13
  go_wp2
  go_loopw [11, 3] (fun r x wr => wr = w ∧ ((r = .int .i64 0 ∧ x = .int .i64 0) ∨ (r = .int .i64 1 ∧ x = .int .i64 (n1 : Int)) ∨ (r = .int .i64 2 ∧ x = .int .i64 ((n1 : Int) + (n2 : Int))) ∨ (r = .int .i64 3 ∧ x = .int .i64 ((n1 : Int) + (n2 : Int) + (n3 : Int))))) (fun r _ _ => 3 - vuOf r)
  case atStart => exact ⟨rfl, .inl ⟨rfl, rfl⟩⟩
  case round =>
    obtain ⟨rfl, hr⟩ := hrel
    rcases hr with ⟨rfl, rfl⟩ | ⟨rfl, rfl⟩ | ⟨rfl, rfl⟩ | ⟨rfl, rfl⟩
    · go_wp2
      go_roundw
      case rel => exact ⟨trivial, .inr (.inl ⟨rfl, by go_num⟩)⟩
      case measure => decide
    · go_wp2
      go_roundw
      case rel => exact ⟨trivial, .inr (.inr (.inl ⟨rfl, by first | rfl | go_num⟩))⟩
      case measure => decide
    · go_wp2
      go_roundw
      case rel => exact ⟨trivial, .inr (.inr (.inr ⟨rfl, by first | rfl | go_num⟩))⟩
      case measure => decide
    · go_wp2_with fail
      refine (show Calls Tryz.prog 20 _ _ _ from HG.out).mono ?_
      rintro e w2 ⟨rfl, hw2⟩
      obtain rfl := hw2.symm
      clear HG
      obtain ⟨b, hb⟩ : ∃ b, b = wr.heap.size := ⟨_, rfl⟩
      rw [← hb] at HQ0 ⊢
      clear hb
      go_wp2
      go_loopw [27, 6] (fun r x wr => (r = .int .i64 0 ∧ x = .slice (some ⟨b, 0, none⟩) 0 cap ∧ wr = W0) ∨ (r = .int .i64 1 ∧ x = V1 ∧ wr = W1) ∨ (r = .int .i64 2 ∧ x = V2 ∧ wr = W2) ∨ (r = .int .i64 3 ∧ x = V3 ∧ wr = W3)) (fun r _ _ => 3 - vuOf r)
      case atStart => exact .inl ⟨rfl, rfl, rfl⟩
      case round =>
        rcases hrel with ⟨rfl, rfl, hw⟩ | ⟨rfl, rfl, hw⟩ | ⟨rfl, rfl, hw⟩ | ⟨rfl, rfl, hw⟩
        · obtain rfl := hw.symm
          go_wp2_with (at_builtin; refine vwpList_append_run rfl _ _ 34 rfl _ _ _ rfl rfl HQ0.out ?_)
          go_roundw
          case rel => exact .inr (.inl (by first | exact ⟨rfl, rfl, trivial⟩ | exact ⟨rfl, rfl, rfl⟩))
          case measure => decide
        · obtain rfl := hw.symm
          go_wp2_with (at_builtin; refine vwpList_append_run rfl _ _ 34 rfl _ _ _ rfl rfl HQ1.out ?_)
          go_roundw
          case rel => exact .inr (.inr (.inl (by first | exact ⟨rfl, rfl, trivial⟩ | exact ⟨rfl, rfl, rfl⟩)))
          case measure => decide
        · obtain rfl := hw.symm
          go_wp2_with (at_builtin; refine vwpList_append_run rfl _ _ 34 rfl _ _ _ rfl rfl HQ2.out ?_)
          go_roundw
          case rel => exact .inr (.inr (.inr (by first | exact ⟨rfl, rfl, trivial⟩ | exact ⟨rfl, rfl, rfl⟩)))
          case measure => decide
        · obtain rfl := hw.symm
          go_wp2
          go_ret
          exact HP.out
end Go.Proofs.YtdkbioahhkmpoaaGreatDoor
namespace Go.Proofs.YtdkbioahhkmpoaaGreatDoor
open Go.RowKit Go.Lib
set_option linter.unusedSimpArgs false
set_option linter.unusedVariables false
/-- the words of a dictionary: none, or one -/
def bdV (g : Nat) (b : Bool) : Value := if b then .slice none 0 0 else .slice (some ⟨g, 0, none⟩) 1 1
/-- the cells of dictionaries -/
def dcs (g : Nat) : List Bool → List Value
  | [] => []
  | b :: l => .slice none 0 0 :: bdV g b :: dcs g l
theorem dcs_at (g : Nat) : ∀ (l : List Bool) (j : Nat) (b : Bool), l[j]? = some b → (dcs g l)[j * 2]? = some (.slice none 0 0) ∧ (dcs g l)[j * 2 + 1]? = some (bdV g b)
  | [], j, b, h => by simp at h
  | x :: l, 0, b, h => by
    simp at h
    subst h
    exact ⟨rfl, rfl⟩
  | x :: l, j + 1, b, h => by
    have := dcs_at g l j b (by simpa using h)
    rw [show (j + 1) * 2 = j * 2 + 1 + 1 by omega]
    simpa [dcs] using this
theorem dcs_len (g : Nat) : ∀ l : List Bool, (dcs g l).length = l.length * 2
  | [] => rfl
  | b :: l => by
    have := dcs_len g l
    simp only [dcs, List.length_cons, this]
    omega
theorem dcs_app (g : Nat) : ∀ l l' : List Bool, dcs g (l ++ l') = dcs g l ++ dcs g l'
  | [], l' => rfl
  | b :: l, l' => by simp [dcs, dcs_app g l l']
theorem dcs_one (g : Nat) : ∀ l : List Bool, ∀ u ∈ dcs g l, u.oneCell' = true
  | [], u, h => by simp [dcs] at h
  | b :: l, u, h => by
    simp only [dcs, List.mem_cons] at h
    rcases h with rfl | rfl | h
    · rfl
    · cases b <;> rfl
    · exact dcs_one g l u h
theorem bdV_shape (g : Nat) (b : Bool) : ∃ a n c, bdV g b = .slice a n c := by cases b <;> exact ⟨_, _, _, rfl⟩
/-- a word's block without a body -/
def WdB (w : World) (g : Nat) : Prop := ∃ vn dn i j, w.heap[g]? = some (.cells #[.string vn, .string dn, .int .i64 i, .int .i64 j, .slice none 0 0] 29)
theorem dcheck_any (g : Nat) (b : Bool) (w : World) (hT : Tb w) (hg : WdB w g) : Calls Tryz.prog 14 #[.agg #[.slice none 0 0, bdV g b]] w fun e w' => e = .returned (.int .i64 (if b then 0 else 1)) ∧ Hid (Only (fun _ => False) w w') := by
  cases b with
  | true => exact dcheck_none w
  | false =>
    obtain ⟨vn, dn, i, j, h⟩ := hg
    exact dcheck_one w hT vn dn i j g h
set_option maxRecDepth 100000 in
set_option maxHeartbeats 4000000 in
theorem dopen_any (g : Nat) (b : Bool) (l : List Bool) (a : Option Addr) (c : Nat) (k : Nat) (z : Int) (w : World) (hT : Tb w) (hg : WdB w g) (hl : l.length ≤ 100) (hk : k ≤ 32) (hd : DrAt w a l.length (dcs g l)) (hc : a = none → c = 0) (hz : ((b :: l).all (fun x => x) = false ∧ z = 1) ∨ ((b :: l).all (fun x => x) = true ∧ k < l.length ∧ z = 2)) :
    Calls Tryz.prog 5 #[.agg #[.slice none 0 0, bdV g b], .slice a l.length c, .slice none 0 0, .int .i64 (k : Int)] w fun e w' => e = .returned (.tuple #[.pointer none, .int .i64 z]) ∧ Hid (Only (fun _ => False) w w') := by
  obtain ⟨B, hB⟩ : ∃ B, B = w.heap.size := ⟨_, rfl⟩
  obtain ⟨L, hL⟩ : ∃ L, L = l.length := ⟨_, rfl⟩
  obtain ⟨W, hW⟩ : ∃ W, W = ((w.alloc (.cells #[.slice none 0 0, bdV g b] 33)).alloc (.cells #[.slice none 0 0, bdV g b] 33)).alloc (.cells #[.slice (some ⟨B + 1, 0, none⟩) 1 1, .slice a L c, .slice none 0 0] 34) := ⟨_, rfl⟩
  have oW : Only (fun _ => False) w W := by rw [hW]; exact (((Only.refl _ _).alloc _).alloc _).alloc _
  have b0 : W.heap[B]? = some (.cells #[.slice none 0 0, bdV g b] 33) := by rw [hW]; exact valloc_old (valloc_old (valloc_at _ _ _ hB))
  have b1 : W.heap[B + 1]? = some (.cells #[.slice none 0 0, bdV g b] 33) := by rw [hW]; exact valloc_old (valloc_at _ _ _ (by simp [hB]))
  have b2 : W.heap[B + 1 + 1]? = some (.cells #[.slice (some ⟨B + 1, 0, none⟩) 1 1, .slice a L c, .slice none 0 0] 34) := by rw [hW]; exact valloc_at _ _ _ (by simp [hB])
  have HK : Hid (∀ d w1, Only (fun _ => False) w w1 → Calls Tryz.prog 14 #[.agg #[.slice none 0 0, bdV g d]] w1 fun e w' => e = .returned (.int .i64 (if d then 0 else 1)) ∧ Hid (Only (fun _ => False) w1 w')) := fun d w1 o1 => by
    obtain ⟨vn, dn, i, j, h⟩ := hg
    exact dcheck_any g d w1 (hT.frame o1) ⟨vn, dn, i, j, o1.kat h⟩
  have HC : Hid (Calls Tryz.prog 13 #[.slice (some ⟨B + 1 + 1, 0, none⟩) 3 3] W fun e w' => ∃ gc cap, e = .returned (.slice (some ⟨gc, 0, none⟩) (1 + L) cap) ∧ Hid ((∀ j x, (b :: l)[j]? = some x → w'.cell? ⟨gc, j * 2, none⟩ = some (.slice none 0 0) ∧ w'.cell? ⟨gc, j * 2 + 1, none⟩ = some (bdV g x)) ∧ Only (fun _ => False) w w')) := by
    have h1 : DrAt W (some ⟨B + 1, 0, none⟩) 1 (dcs g [b]) := ⟨rfl, dcs_one g [b], .inr ⟨B + 1, rfl, fun k u hk => by rw [vblk_cells b1]; simpa [dcs] using hk⟩⟩
    have h3 : DrAt W none 0 [] := ⟨rfl, fun u h => by simp at h, .inl ⟨rfl, rfl⟩⟩
    have := concat_dicts 1 L 0 (dcs g [b]) (dcs g l) [] (some ⟨B + 1, 0, none⟩) a none 1 c 0 (B + 1 + 1) W (by omega) (by omega) (by omega) h1 (by rw [hL]; exact hd.only oW) h3 (fun h => by cases h) hc (fun _ => rfl) ((vblk_cells b2 0).trans rfl) ((vblk_cells b2 1).trans rfl) ((vblk_cells b2 2).trans rfl)
    refine this.mono fun e w' q => ?_
    obtain ⟨gc, cap, he, q⟩ := q
    refine ⟨gc, cap, he, fun j x hj => ?_, oW.trans q.out.2 (fun _ _ g => g)⟩
    have e1 := dcs_at g (b :: l) j x hj
    have e2 : dcs g [b] ++ dcs g l ++ [] = dcs g (b :: l) := by simp [dcs]
    rw [e2] at q
    exact ⟨q.out.1 _ _ e1.1, q.out.1 _ _ e1.2⟩
  have HD : Hid (∀ w1 w2 (gc : Nat), (∀ j x, (b :: l)[j]? = some x → w1.cell? ⟨gc, j * 2, none⟩ = some (.slice none 0 0) ∧ w1.cell? ⟨gc, j * 2 + 1, none⟩ = some (bdV g x)) → Only (fun _ => False) w1 w2 → (∀ j x, (b :: l)[j]? = some x → w2.cell? ⟨gc, j * 2, none⟩ = some (.slice none 0 0) ∧ w2.cell? ⟨gc, j * 2 + 1, none⟩ = some (bdV g x))) := fun w1 w2 gc h o j x hj => ⟨o.cell (h j x hj).1 (fun g => g), o.cell (h j x hj).2 (fun g => g)⟩
  have HZ : Hid (L ≤ 100 ∧ k ≤ 32 ∧ (b :: l).length = 1 + L ∧ (((b :: l).all (fun x => x) = false ∧ z = 1) ∨ ((b :: l).all (fun x => x) = true ∧ k < L ∧ z = 2))) := ⟨by omega, hk, by simp [hL]; omega, by rw [hL]; exact hz⟩
  have e0 := vblk_cells b0 0
  have e1 := vblk_cells b0 1
  simp only [List.getElem?_toArray, List.getElem?_cons_zero, List.getElem?_cons_succ] at e0 e1
  have OW : Hid (Only (fun _ => False) w W) := oW
  have k0 : ¬ ((k : Int) < 0) := by omega
  have k1 : ¬ ((k : Int) > 32) := by omega
  obtain ⟨a0, n0, c0, hb⟩ := bdV_shape g b
  rw [← hL]
  rw [hb] at hW e1 ⊢
  clear hT hg hd hc hz hl hk hL oW b0 b1 b2 hb
  go_enter Tryz.func5, Tryz.ntmps5
  go_wp2_with fail
  rw [← hB]
  rw [← hW]
  clear hW hB
  refine (show Calls Tryz.prog 13 _ _ _ from HC.out).mono ?_
  rintro e w1 ⟨gc, cap, rfl, G1⟩
  obtain ⟨q1, q2⟩ := G1.out
  have HE : Hid (∀ w2, Only (fun _ => False) w1 w2 → ∀ j x, (b :: l)[j]? = some x → w2.cell? ⟨gc, j * 2, none⟩ = some (.slice none 0 0) ∧ w2.cell? ⟨gc, j * 2 + 1, none⟩ = some (bdV g x)) := fun w2 o2 => HD.out w1 w2 gc q1 o2
  have HO : Hid (Only (fun _ => False) w w1) := q2
  clear q1 q2 G1 HD HC OW e0 e1
  obtain ⟨M, hM⟩ : ∃ M, M = 1 + L := ⟨_, rfl⟩
  have HM : Hid (M = 1 + L) := hM
  rw [← hM]
  clear hM
  go_wp2
  go_loopw [22] (fun r wr => ∃ j : Nat, r = .int .i64 (j : Int) ∧ j ≤ M ∧ Hid ((∀ i x, i < j → (b :: l)[i]? = some x → x = true) ∧ Only (fun _ => False) w1 wr)) (fun r _ => M - vuOf r)
  case atStart => exact ⟨0, rfl, Nat.zero_le _, fun i x h => by omega, Only.refl _ _⟩
  case round =>
    obtain ⟨j, rfl, hj, HJ⟩ := hrel
    obtain ⟨v1, hv1⟩ : ∃ v1, v1 = wr := ⟨_, rfl⟩
    rw [← hv1] at HJ ⊢
    clear hv1
    by_cases hjM : j < M
    · obtain ⟨x, hx⟩ : ∃ x, (b :: l)[j]? = some x := ⟨(b :: l)[j]'(by have := HZ.out.2.2.1; have := HM.out; omega), List.getElem?_eq_getElem _⟩
      obtain ⟨f0, f1⟩ := HE.out v1 HJ.out.2 j x hx
      have i1 : (j : Int) < (M : Int) := by omega
      have i0 : (0 : Int) ≤ (j : Int) := by omega
      have i4 : j ≤ 101 := by have := HZ.out.1; have := HM.out; omega
      obtain ⟨V, hV⟩ : ∃ V, V = v1.alloc (.cells #[.slice none 0 0, bdV g x] 33) := ⟨_, rfl⟩
      have oV : Only (fun _ => False) v1 V := by rw [hV]; exact (Only.refl _ _).alloc _
      have HC : Hid _ := HK.out x V ((HO.out.trans HJ.out.2 (fun _ _ g => g)).trans oV (fun _ _ g => g))
      have HB : Hid (j < M ∧ (b :: l)[j]? = some x ∧ Only (fun _ => False) v1 V) := ⟨hjM, hx, oV⟩
      obtain ⟨a1, n1, c1, hb1⟩ := bdV_shape g x
      rw [hb1] at hV f1 HC
      clear hj hjM hx oV hb1
      cases x with
      | false =>
        have hz : z = 1 := by
          rcases HZ.out.2.2.2 with ⟨_, h⟩ | ⟨h, _⟩
          · exact h
          · rw [List.all_eq_true] at h
            exact absurd (h _ (List.mem_of_getElem? HB.out.2.1)) (by decide)
        subst hz
        have HR : Hid (∀ w2, Hid (Only (fun _ => False) V w2) → Only (fun _ => False) w w2) := fun w2 o2 => ((HO.out.trans HJ.out.2 (fun _ _ g => g)).trans HB.out.2.2 (fun _ _ g => g)).trans o2.out (fun _ _ g => g)
        clear HZ HE HO HJ HB HK HM
        go_wp2_with fail
        rw [← hV]
        clear hV
        refine (show Calls Tryz.prog 14 _ _ _ from HC.out).mono ?_
        rintro e w2 ⟨rfl, o2⟩
        have O2 : Hid (Only (fun _ => False) w w2) := HR.out w2 o2
        clear HC HR o2
        go_wp2
        go_ret2
        exact ⟨rfl, O2⟩
      | true =>
        go_wp2_with fail
        rw [← hV]
        clear hV
        refine (show Calls Tryz.prog 14 _ _ _ from HC.out).mono ?_
        rintro e w2 ⟨rfl, o2⟩
        have HJ2 : Hid ((∀ i x, i < j + 1 → (b :: l)[i]? = some x → x = true) ∧ Only (fun _ => False) w1 w2) := ⟨fun i x hi hx => by
          by_cases e : i < j
          · exact HJ.out.1 i x e hx
          · obtain rfl : i = j := by omega
            have := HB.out.2.1
            rw [this] at hx
            injection hx with hx
            exact hx.symm, (HJ.out.2.trans HB.out.2.2 (fun _ _ g => g)).trans o2.out (fun _ _ g => g)⟩
        have HB2 : Hid (j < M) := HB.out.1
        clear HC o2 HJ HB HE HK HO HZ HM
        go_wp2
        go_roundw
        case rel => exact ⟨j + 1, by go_num, by have := HB2.out; omega, HJ2⟩
        case measure => simp only [vuOf]; have := HB2.out; omega
    · obtain rfl : j = M := by omega
      have i1 : ¬ (j : Int) < (j : Int) := by omega
      have hall : (b :: l).all (fun x => x) = true := by
        rw [List.all_eq_true]
        intro x hx
        obtain ⟨i, hi, rfl⟩ := List.mem_iff_getElem.1 hx
        exact HJ.out.1 i _ (by have := HZ.out.2.2.1; have := HM.out; omega) (List.getElem?_eq_getElem hi)
      have hz : k < L ∧ z = 2 := by
        rcases HZ.out.2.2.2 with ⟨h, _⟩ | ⟨_, h⟩
        · rw [hall] at h; cases h
        · exact h
      obtain ⟨hkL, rfl⟩ := hz
      have i2 : (L : Int) > (k : Int) := by omega
      have O2 : Hid (Only (fun _ => False) w v1) := HO.out.trans HJ.out.2 (fun _ _ g => g)
      clear HZ HE HO HJ HK HM hj hjM hall hkL
      go_wp2
      go_ret2
      exact ⟨rfl, O2⟩
end Go.Proofs.YtdkbioahhkmpoaaGreatDoor
namespace Go.Proofs
open Go.Shelf
def Tryz.laysSort_ren : Go.Shelf.Ren := ⟨fun | 190 => 63 | 125 => 90 | 258 => 89 | 128 => 113 | 129 => 114 | 302 => 104 | 303 => 105 | 304 => 106 | 305 => 107 | 306 => 108 | 307 => 109 | 308 => 110 | 309 => 111 | 310 => 112 | 333 => 125 | 329 => 126 | 330 => 127 | 334 => 128 | 335 => 129 | 336 => 130 | 344 => 135 | n => n, fun | 31 => 60 | 9 => 9 | 3 => 3 | 46 => 117 | 0 => 0 | 51 => 192 | 53 => 120 | 4 => 4 | 183 => 186 | 182 => 185 | 131 => 69 | 5 => 5 | 218 => 207 | 222 => 211 | 228 => 230 | 229 => 231 | n => n, fun | n => n⟩
theorem Tryz.laysSort : Go.Proofs.Lays.n190 Tryz.prog Tryz.laysSort_ren := {
  mixed := by kernel_rfl
  f125 := Tryz.func90.trans (congrArg some (by kernel_rfl))
  f128 := Tryz.func113.trans (congrArg some (by kernel_rfl))
  f129 := Tryz.func114.trans (congrArg some (by kernel_rfl))
  f190 := Tryz.func63.trans (congrArg some (by kernel_rfl))
  f258 := Tryz.func89.trans (congrArg some (by kernel_rfl))
  f302 := Tryz.func104.trans (congrArg some (by kernel_rfl))
  f303 := Tryz.func105.trans (congrArg some (by kernel_rfl))
  f304 := Tryz.func106.trans (congrArg some (by kernel_rfl))
  f305 := Tryz.func107.trans (congrArg some (by kernel_rfl))
  f306 := Tryz.func108.trans (congrArg some (by kernel_rfl))
  f307 := Tryz.func109.trans (congrArg some (by kernel_rfl))
  f308 := Tryz.func110.trans (congrArg some (by kernel_rfl))
  f309 := Tryz.func111.trans (congrArg some (by kernel_rfl))
  f310 := Tryz.func112.trans (congrArg some (by kernel_rfl))
  f329 := Tryz.func126.trans (congrArg some (by kernel_rfl))
  f330 := Tryz.func127.trans (congrArg some (by kernel_rfl))
  f333 := Tryz.func125.trans (congrArg some (by kernel_rfl))
  f334 := Tryz.func128.trans (congrArg some (by kernel_rfl))
  f335 := Tryz.func129.trans (congrArg some (by kernel_rfl))
  f336 := Tryz.func130.trans (congrArg some (by kernel_rfl))
  f344 := Tryz.func135.trans (congrArg some (by kernel_rfl))
  t0 := Tryz.underlying0
  a0 := Tryz.isAgg0
  z0 := Tryz.sizeOf0
  v0 := Tryz.zeroValue0
  t3 := Tryz.underlying3
  a3 := Tryz.isAgg3
  z3 := Tryz.sizeOf3
  v3 := Tryz.zeroValue3
  t4 := Tryz.underlying4
  a4 := Tryz.isAgg4
  z4 := Tryz.sizeOf4
  v4 := Tryz.zeroValue4
  t5 := Tryz.underlying5
  a5 := Tryz.isAgg5
  z5 := Tryz.sizeOf5
  v5 := Tryz.zeroValue5
  t9 := Tryz.underlying9
  a9 := Tryz.isAgg9
  z9 := Tryz.sizeOf9
  v9 := Tryz.zeroValue9
  t31 := Tryz.underlying60
  a31 := Tryz.isAgg60
  z31 := Tryz.sizeOf60
  v31 := Tryz.zeroValue60
  t46 := Tryz.underlying117
  a46 := Tryz.isAgg117
  z46 := Tryz.sizeOf117
  v46 := Tryz.zeroValue117
  t51 := Tryz.underlying192
  a51 := Tryz.isAgg192
  z51 := Tryz.sizeOf192
  v51 := Tryz.zeroValue192
  t53 := Tryz.underlying120
  a53 := Tryz.isAgg120
  z53 := Tryz.sizeOf120
  v53 := Tryz.zeroValue120
  t131 := Tryz.underlying69
  a131 := Tryz.isAgg69
  z131 := Tryz.sizeOf69
  v131 := Tryz.zeroValue69
  t182 := Tryz.underlying185
  a182 := Tryz.isAgg185
  z182 := Tryz.sizeOf185
  v182 := Tryz.zeroValue185
  t183 := Tryz.underlying186
  a183 := Tryz.isAgg186
  z183 := Tryz.sizeOf186
  v183 := Tryz.zeroValue186
  t218 := Tryz.underlying207
  a218 := Tryz.isAgg207
  z218 := Tryz.sizeOf207
  v218 := Tryz.zeroValue207
  t222 := Tryz.underlying211
  a222 := Tryz.isAgg211
  z222 := Tryz.sizeOf211
  v222 := Tryz.zeroValue211
  t228 := Tryz.underlying230
  a228 := Tryz.isAgg230
  z228 := Tryz.sizeOf230
  v228 := Tryz.zeroValue230
  t229 := Tryz.underlying231
  a229 := Tryz.isAgg231
  z229 := Tryz.sizeOf231
  v229 := Tryz.zeroValue231 }
end Go.Proofs
namespace Go.Proofs.YtdkbioahhkmpoaaGreatDoor
open Go.RowKit Go.Lib
set_option linter.unusedSimpArgs false
set_option linter.unusedVariables false

attribute [local go_sem] Oper.semAt_some

set_option maxRecDepth 100000 in
set_option maxHeartbeats 1000000 in
theorem tvalues_none (m l Bs : Nat) (J : World → Prop) (W : World) (hBs : W.cell? ⟨Bs, 0, none⟩ = some (.slice none 0 0)) (h0 : J W) :
    CallsIn Fence.wide m Tryz.prog 64 #[.func (.yield l) #[] #[], .pointer (some ⟨Bs, 0, none⟩)] W fun e W' => (∃ v, e = .returned v) ∧ J W' := by
  refine callsIn_of_wp Tryz.func64 rfl trivial ?_ rfl
  simp only [Tryz.ntmps64, List.size_toArray, List.length_cons, List.length_nil, Nat.reduceAdd, Nat.reduceSub, Array.replicate_succ, Array.replicate_zero, List.push_toArray, List.append_toArray, List.nil_append, List.cons_append]
  gi_wp2
  gi_loopw [7] (fun i wr => i = .int .i64 0 ∧ J wr) (fun _ _ => 0)
  case atStart => exact ⟨rfl, h0⟩
  case round =>
    obtain ⟨rfl, hJ⟩ := hrel
    gi_wp2
    go_end0
    exact ⟨⟨_, rfl⟩, hJ⟩
set_option maxRecDepth 100000 in
theorem tvalues_of (w : World) : Calls Tryz.prog 44 #[.slice none 0 0] w fun e w' => e = .returned (.func (.func 64) #[] #[.pointer (some ⟨w.heap.size, 0, none⟩)]) ∧ w' = w.alloc (.cells #[.slice none 0 0] 60) := by
  go_enter Tryz.func44, Tryz.ntmps44
  go_wp2
  go_ret
  exact ⟨rfl, rfl⟩
theorem tvalues_stops (m Bs : Nat) (w : World) (hBs : w.cell? ⟨Bs, 0, none⟩ = some (.slice none 0 0)) :
    SeqStopsK Fence.wide m Tryz.prog 64 #[.pointer (some ⟨Bs, 0, none⟩)] intEnc (fun _ _ => True) (fun ys => ys = []) (fun _ => True) 0 w := fun lo J Jx W hW _ _ hY h0 => by
  have hBl := World.block_lt_of_cell? w _ hBs
  have hBs' : W.cell? ⟨Bs, 0, none⟩ = some (.slice none 0 0) := (hW.cell (p := ⟨Bs, 0, none⟩) hBl).trans hBs
  exact (tvalues_none m lo Bs (J []) W hBs' h0).mono fun e W' ⟨he, hj⟩ => ⟨he, .inl ⟨_, rfl, hj⟩⟩
theorem tfunc_not_nil (b : Nat) (w : World) : (binOp .eql 97 (.func (.func 64) #[] #[.pointer (some ⟨b, 0, none⟩)]) .nilFunc).run Tryz.prog w = .ok (.bool false) w := by kernel_rfl
set_option maxRecDepth 100000 in
set_option maxHeartbeats 2000000 in
theorem tappend_core (Bs : Nat) (w : World) (hb : w.cell? ⟨Bs, 0, none⟩ = some (.slice none 0 0)) :
    CallsIn Fence.wide 6 Tryz.prog 88 #[.slice none 0 0, .func (.func 64) #[] #[.pointer (some ⟨Bs, 0, none⟩)]] w fun e w' => e = .returned (.slice none 0 0) ∧ Only (fun _ => False) w w' := by
  refine callsIn_of_wp_marks Tryz.func88 rfl trivial ?_ rfl
  simp only [Tryz.ntmps88, List.size_toArray, List.length_cons, List.length_nil, Nat.reduceAdd, Nat.reduceSub, Array.replicate_succ, Array.replicate_zero, List.push_toArray, List.append_toArray, List.nil_append, List.cons_append]
  have hnn := tfunc_not_nil Bs
  gi_wp2
  clear hnn
  obtain ⟨W0, hW0⟩ : ∃ W, W = w.alloc (.cells #[.slice none 0 0] 60) := ⟨_, rfl⟩
  have oW : Only (fun _ => False) w W0 := by rw [hW0]; exact (Only.refl _ _).alloc _
  have h31 : W0.heap[w.heap.size]? = some (.cells #[.slice none 0 0] 60 (0, 0)) := by rw [hW0]; exact valloc_at _ _ _ rfl
  have hb' := oW.cell hb (fun g => g)
  have hs3 : W0.heap.size = w.heap.size + 1 := by rw [hW0]; simp
  rw [← hW0]
  clear hW0
  refine wpIn_rangeFunc_ownG rfl (by omega) (gf := 64) (lb := #[.pointer (some ⟨Bs, 0, none⟩)]) rfl trivial (enters_of Tryz.func64 (by kernel_rfl) rfl)
    (tvalues_stops 5 Bs W0 hb') (fun _ _ => trivial) (fun _ _ _ _ _ _ _ _ => trivial) (Below.refl _ _) (fun _ => rfl)
    (fun pre W => Below W0.heap.size W0 W)
    (fun _ _ _ => False)
    (ownFrom_below (by omega) (by omega))
    (fun _ _ _ _ _ hs _ _ => hs)
    (Below.refl _ _)
    (fun x => { tmps := #[.slice none 0 0, .func (.func 64) #[] #[.pointer (some ⟨Bs, 0, none⟩)], .pointer (some ⟨w.heap.size, 0, none⟩), undef, .slice none 0 0, .int .i64 x, .func (.func 64) #[] #[.pointer (some ⟨Bs, 0, none⟩)], .int .i64 x, undef, undef, undef, undef, undef], defers := [] }) ?assign ?body ?done ?stop
  case assign =>
    intro l0 x W K hK
    simp only [intEnc, List.zip_toArray, List.zip_cons_cons, List.zip_nil_right, List.foldl_toArray, List.foldl_cons, List.foldl_nil, List.setIfInBounds_toArray, List.set_cons_zero, List.set_cons_succ]
    gi_wp2
    exact hK
  case body =>
    intro l0 pre x W hB hlt
    exact absurd hlt (by omega)
  case done =>
    rintro D ys W hD _ hB hK
    have b1 : Boxed W w.heap.size 60 (.slice none 0 0) := (hB.block _ (by omega)).trans h31
    have oo : Only (fun _ => False) w W := oW.trans (Below.only hB) (fun k hk e => by omega)
    have c1 := b1.cell
    gi_wp2
    refine ⟨by simp, .inl ⟨_, _, rfl, run_takeDeferred hK, ?_⟩⟩
    exact ⟨_, results_tmp rfl _ _ _, by simp, oo.trans ((Only.refl (fun k => k = D) W).grown (grownBy_putObj' W D _) (fun k e _ => by injection e with e; exact e.symm)) (fun k hk e => by omega)⟩
  case stop =>
    rintro D c pre W _ _ h _
    exact h.elim
set_option maxRecDepth 100000 in
theorem tcollect (Bs : Nat) (w : World) (hb : w.cell? ⟨Bs, 0, none⟩ = some (.slice none 0 0)) :
    Calls Tryz.prog 62 #[.func (.func 64) #[] #[.pointer (some ⟨Bs, 0, none⟩)]] w fun e w' => e = .returned (.slice none 0 0) ∧ Only (fun _ => False) w w' := by
  have H : Hid _ := (callsIn_wide (n := 6)).1 (tappend_core Bs w hb)
  clear hb
  go_enter Tryz.func62, Tryz.ntmps62
  go_wp2_with fail
  refine (show Calls Tryz.prog 88 _ _ _ from H.out).mono ?_
  rintro e w1 ⟨rfl, o1⟩
  have O1 : Hid (Only (fun _ => False) w w1) := o1
  clear H o1
  go_wp2
  go_ret
  exact ⟨rfl, O1.out⟩
set_option maxRecDepth 100000 in
theorem tsorted (Bs : Nat) (w : World) (hb : w.cell? ⟨Bs, 0, none⟩ = some (.slice none 0 0)) :
    Calls Tryz.prog 43 #[.func (.func 64) #[] #[.pointer (some ⟨Bs, 0, none⟩)]] w fun e w' => e = .returned (.slice none 0 0) ∧ Only (fun _ => False) w w' := by
  have H : Hid _ := tcollect Bs w hb
  have HS : Hid (∀ w1, Calls Tryz.prog 63 #[.slice none 0 0] w1 fun e w' => e = .returned (.tuple #[]) ∧ w' = w1) := fun w1 => Any.slices_Sort_string_none Tryz.laysSort none 0 w1
  clear hb
  go_enter Tryz.func43, Tryz.ntmps43
  go_wp2_with fail
  refine (show Calls Tryz.prog 62 _ _ _ from H.out).mono ?_
  rintro e w1 ⟨rfl, o1⟩
  have O1 : Hid (Only (fun _ => False) w w1) := o1
  clear H o1
  go_wp2_with fail
  refine (show Calls Tryz.prog 63 _ _ _ from HS.out _).mono ?_
  rintro e w2 ⟨rfl, rfl⟩
  clear HS
  go_wp2
  go_ret
  exact ⟨rfl, O1.out⟩
set_option maxRecDepth 100000 in
theorem tcompact (w : World) : Calls Tryz.prog 45 #[.slice none 0 0] w fun e w' => e = .returned (.slice none 0 0) ∧ w' = w := by
  go_enter Tryz.func45, Tryz.ntmps45
  go_wp2
  go_ret
  exact ⟨rfl, rfl⟩
set_option maxRecDepth 100000 in
theorem dtwice_none (w : World) : Calls Tryz.prog 28 #[.slice none 0 0] w fun e w' => e = .returned (.bool false) ∧ Only (fun _ => False) w w' := by
  have HV : Hid _ := tvalues_of w
  have HS : Hid _ := tsorted w.heap.size (w.alloc (.cells #[.slice none 0 0] 60)) ((vblk_cells (valloc_at _ _ _ rfl) 0).trans rfl)
  have HC : Hid (∀ w1, Calls Tryz.prog 45 #[.slice none 0 0] w1 fun e w' => e = .returned (.slice none 0 0) ∧ w' = w1) := tcompact
  go_enter Tryz.func28, Tryz.ntmps28
  go_wp2_with fail
  refine (show Calls Tryz.prog 44 _ _ _ from HV.out).mono ?_
  rintro e w1 ⟨rfl, rfl⟩
  clear HV
  go_wp2_with fail
  refine (show Calls Tryz.prog 43 _ _ _ from HS.out).mono ?_
  rintro e w2 ⟨rfl, o2⟩
  have O2 : Hid (Only (fun _ => False) w w2) := ((Only.refl _ w).alloc _).trans o2 (fun _ _ g => g)
  clear HS o2
  go_wp2_with fail
  refine (show Calls Tryz.prog 45 _ _ _ from HC.out _).mono ?_
  rintro e w3 ⟨rfl, rfl⟩
  clear HC
  go_wp2
  go_ret
  exact ⟨rfl, O2.out⟩
end Go.Proofs.YtdkbioahhkmpoaaGreatDoor
namespace Go.Proofs.YtdkbioahhkmpoaaGreatDoor
open Go.RowKit Go.Lib
set_option linter.unusedSimpArgs false
set_option linter.unusedVariables false
set_option maxRecDepth 100000 in
theorem vo_info : ∃ i z, Tryz.prog.info? 62 = some i ∧ i.zero = some z ∧ i.size = 2 ∧ i.bytes = 40 ∧ z.cells.size = 2 := ⟨_, _, rfl, rfl, rfl, rfl, rfl⟩
/-- what Insert answers -/
def InP (w : World) (e : Ending) (w' : World) : Prop := ∃ g cap, e = .returned (.slice (some ⟨g, 0, none⟩) 1 cap) ∧ Hid (Only (fun _ => False) w w')
set_option maxRecDepth 100000 in
theorem dinsert_one (b : Nat) (x : ByteArray) (a : Option Addr) (n c : Nat) (w : World) (hb : w.heap[b]? = some (.cells #[.string x, .slice a n c] 62)) : Calls Tryz.prog 30 #[.slice none 0 0, .int .i64 0, .slice (some ⟨b, 0, none⟩) 1 1] w (InP w) := by
  obtain ⟨i0, z0, hi, hz0, hz1, hz2, hz3⟩ := vo_info
  have key := fun ty => run_append_own_at (P := Tryz.prog) w w.heap.size 31 ty 62 i0 z0 2 40 Tryz.underlying31 hi hz0 hz1 hz2 hz3 (by omega) (.slice none 0 0) 0 [] (World.ownsRow_nil _ _ _ _) ⟨b, 0, none⟩ 1 1 [.string x, .slice a n c] rfl (by
      intro k u hk
      rw [addr_ad, vblk_cells hb]
      simpa using hk) (fun u hu => by
      simp only [List.mem_cons, List.not_mem_nil, or_false] at hu
      rcases hu with rfl | rfl <;> rfl) (by unfold maxLen; omega) (by omega) (Nat.le_refl _)
  obtain ⟨v', w', hr, own', hg, _, hat⟩ := key 0
  rcases own'.2 with ⟨_, h0⟩ | ⟨g, cap, cur, rfl, hB, rest⟩
  · omega
  · have HR : Hid (∀ ty, (Builtin.append_ #[31, 31] ty #[.slice none 0 0, .slice (some ⟨b, 0, none⟩) 1 1]).run Tryz.prog w = .ok (.slice (some ⟨g, 0, none⟩) 1 cap) w') := fun ty => by rw [← hr]; rfl
    have HO : Hid (Only (fun _ => False) w w') := (Only.refl (fun _ => False) w).grown hg (fun k e _ => by cases e)
    clear hi hz0 hz1 hz2 hz3 key hr own' hg hat rest hB hb
    go_enter Tryz.func30, Tryz.ntmps30
    go_wp2_with (at_builtin; refine vwpList_append_run rfl _ _ 31 rfl _ _ _ rfl rfl HR.out ?_)
    go_ret
    exact ⟨g, cap, rfl, HO⟩
set_option maxRecDepth 100000 in
theorem tclone_none (w : World) : Calls Tryz.prog 21 #[.slice none 0 0] w fun e w' => e = .returned (.slice none 0 0) ∧ w' = w := by
  have heq : (binOp .eql 60 (.slice none 0 0) (.slice none 0 0)).run Tryz.prog w = .ok (.bool true) w := Go.Lib.run_eql_slice_nil w _ _ none 0 0 0 0 Tryz.underlying60
  go_enter Tryz.func21, Tryz.ntmps21
  go_wp2
  go_ret
  exact ⟨rfl, rfl⟩
theorem results_dict1 {fn : Func} {u : Tmp} (h : fn.results = #[.cell u 33]) (tmps : Array Value) (w : World) (B : Nat) {x y : Value} (h0 : w.cell? ⟨B, 0, none⟩ = some x) (h1 : w.cell? ⟨B, 1, none⟩ = some y) (ha : tmps.getD u undef = .pointer (some ⟨B, 0, none⟩)) :
    (results fn tmps).run Tryz.prog w = .ok (.agg #[x, y]) w := by
  have ha' : tmps[u]?.getD undef = .pointer (some ⟨B, 0, none⟩) := by simpa using ha
  simp [results, h, ha', asAddr, go_sem, loadVar, isAgg, Tryz.underlying33, h0, h1]
set_option maxRecDepth 100000 in
theorem dnew_any (w : World) : Calls Tryz.prog 6 #[] w fun e w' => e = .returned (.agg #[.slice none 0 0, .slice none 0 0]) ∧ Only (fun _ => False) w w' := by
  obtain ⟨W, hW⟩ : ∃ W, W = w.alloc (.cells #[.slice none 0 0, .slice none 0 0] 33) := ⟨_, rfl⟩
  have oW : Only (fun _ => False) w W := by rw [hW]; exact (Only.refl _ _).alloc _
  have b1 : W.heap[w.heap.size]? = some (.cells #[.slice none 0 0, .slice none 0 0] 33) := by rw [hW]; exact valloc_at _ _ _ rfl
  go_enter Tryz.func6, Tryz.ntmps6
  go_wp2
  rw [← hW]
  exact bodyPost_ret (results_dict1 rfl _ _ w.heap.size (vblk_cells b1 0) (vblk_cells b1 1) rfl) rfl ⟨rfl, oW⟩
/-- what Vocab answers -/
def VoP (w : World) (e : Ending) (w' : World) : Prop := ∃ g cap, e = .returned (.tuple #[.agg #[.slice (some ⟨g, 0, none⟩) 1 cap, .slice none 0 0], .int .i64 0]) ∧ Hid (Only (fun _ => False) w w')
set_option maxRecDepth 100000 in
set_option maxHeartbeats 4000000 in
theorem dvocab_one (x : ByteArray) (hx : nameB x = true) (w : World) (hN : Nog w) : Calls Tryz.prog 19 #[.agg #[.slice none 0 0, .slice none 0 0], .string x, .slice none 0 0] w (VoP w) := by
  have HC : Hid (∀ w1, Calls Tryz.prog 16 #[.agg #[.slice none 0 0, .slice none 0 0]] w1 (EdP w1)) := dcopyOf_none
  have HP : Hid (∀ w1, Calls Tryz.prog 26 #[.agg #[.slice none 0 0, .slice none 0 0], .string x] w1 fun e w' => e = .returned (.tuple #[.int .i64 0, .bool false]) ∧ Only (fun _ => False) w1 w') := fun w1 => dplace_none x none 0 0 w1
  have HN : Hid (∀ w1, Only (fun _ => False) w w1 → Calls Tryz.prog 27 #[.string x] w1 fun e w' => e = .returned (.bool true) ∧ Only (fun _ => False) w1 w') := fun w1 o1 => by
    have := name_any x w1 (hN.frame o1)
    rw [hx] at this
    exact this
  have HT : Hid (∀ w1, Calls Tryz.prog 28 #[.slice none 0 0] w1 fun e w' => e = .returned (.bool false) ∧ Only (fun _ => False) w1 w') := dtwice_none
  have HA : Hid (∀ w1, Calls Tryz.prog 29 #[.agg #[.slice none 0 0, .slice none 0 0], .slice none 0 0] w1 fun e w' => e = .returned (.bool true) ∧ Only (fun _ => False) w1 w') := fun w1 => dall_none none 0 0 none 0 0 w1
  have HCL : Hid (∀ w1, Calls Tryz.prog 21 #[.slice none 0 0] w1 fun e w' => e = .returned (.slice none 0 0) ∧ w' = w1) := tclone_none
  have HIN : Hid (∀ b w1, w1.heap[b]? = some (.cells #[.string x, .slice none 0 0] 62) → Calls Tryz.prog 30 #[.slice none 0 0, .int .i64 0, .slice (some ⟨b, 0, none⟩) 1 1] w1 (InP w1)) := fun b w1 h => dinsert_one b x none 0 0 w1 h
  obtain ⟨B, hB⟩ : ∃ B, B = w.heap.size := ⟨_, rfl⟩
  obtain ⟨W, hW⟩ : ∃ W, W = (w.alloc (.cells #[.slice none 0 0, .slice none 0 0] 33)).alloc (.cells #[.slice none 0 0, .slice none 0 0] 33) := ⟨_, rfl⟩
  have oW : Only (fun _ => False) w W := by rw [hW]; exact ((Only.refl _ _).alloc _).alloc _
  have b0 : W.heap[B]? = some (.cells #[.slice none 0 0, .slice none 0 0] 33) := by rw [hW]; exact valloc_old (valloc_at _ _ _ hB)
  have b1 : W.heap[B + 1]? = some (.cells #[.slice none 0 0, .slice none 0 0] 33) := by rw [hW]; exact valloc_at _ _ _ (by simp [hB])
  have e0 := vblk_cells b0 0
  have e1 := vblk_cells b0 1
  simp only [List.getElem?_toArray, List.getElem?_cons_zero, List.getElem?_cons_succ] at e0 e1
  have OW : Hid (Only (fun _ => False) w W ∧ W.heap[B + 1]? = some (.cells #[.slice none 0 0, .slice none 0 0] 33) ∧ B + 2 = W.heap.size ∧ w.heap.size = B) := ⟨oW, b1, by rw [hW, hB]; simp, hB.symm⟩
  clear oW b0 b1 hx hN
  go_enter Tryz.func19, Tryz.ntmps19
  go_wp2_with fail
  rw [← hW, ← hB]
  clear hW hB
  refine (show Calls Tryz.prog 16 _ _ _ from HC.out _).mono ?_
  rintro e w1 ⟨rfl, o1'⟩
  have o1 := o1'.out
  obtain ⟨oW, b1, hBs, hwB⟩ := OW.out
  obtain ⟨C, hC⟩ : ∃ C, C = w1.heap.size := ⟨_, rfl⟩
  obtain ⟨V, hV⟩ : ∃ V, V = w1.alloc (.cells #[.slice none 0 0, .slice none 0 0] 33) := ⟨_, rfl⟩
  have oV : Only (fun _ => False) w1 V := by rw [hV]; exact (Only.refl _ _).alloc _
  have v0 : V.heap[C]? = some (.cells #[.slice none 0 0, .slice none 0 0] 33) := by rw [hV]; exact valloc_at _ _ _ hC
  have v1 := oV.kat (o1.kat b1)
  have HS : Hid (∀ w2, Only (fun _ => False) V w2 → Only (fun _ => False) w w2 ∧ w2.heap[C]? = some (.cells #[.slice none 0 0, .slice none 0 0] 33) ∧ w2.heap[B + 1]? = some (.cells #[.slice none 0 0, .slice none 0 0] 33) ∧ w.heap.size = B ∧ B + 1 < C) := fun w2 o2 => ⟨((oW.trans o1 (fun _ _ g => g)).trans oV (fun _ _ g => g)).trans o2 (fun _ _ g => g), o2.kat v0, o2.kat v1, hwB, by have := o1.size; omega⟩
  have x0 := vblk_cells v0 0
  have x1 := vblk_cells v0 1
  simp only [List.getElem?_toArray, List.getElem?_cons_zero, List.getElem?_cons_succ] at x0 x1
  have HE : Hid (∀ w2, Only (fun _ => False) V w2 → w2.cell? ⟨C, 0, none⟩ = some (.slice none 0 0) ∧ w2.cell? ⟨C, 1, none⟩ = some (.slice none 0 0)) := fun w2 o2 => ⟨o2.cell x0 (fun g => g), o2.cell x1 (fun g => g)⟩
  clear o1 o1' oW b1 hBs hwB oV v0 v1 OW HC e0 e1
  go_wp2_with fail
  rw [← hV, ← hC]
  clear hV hC
  refine (show Calls Tryz.prog 26 _ _ _ from HP.out _).mono ?_
  rintro e w2 ⟨rfl, o2⟩
  have O2 : Hid (Only (fun _ => False) V w2) := o2
  clear o2 x0 x1 HP
  go_wp2_with fail
  refine (show Calls Tryz.prog 27 _ _ _ from HN.out _ (HS.out _ O2.out).1).mono ?_
  rintro e w3 ⟨rfl, o3⟩
  have O3 : Hid (Only (fun _ => False) V w3) := O2.out.trans o3 (fun _ _ g => g)
  clear o3 O2 HN
  go_wp2_with fail
  refine (show Calls Tryz.prog 28 _ _ _ from HT.out _).mono ?_
  rintro e w4 ⟨rfl, o4⟩
  have O4 : Hid (Only (fun _ => False) V w4) := O3.out.trans o4 (fun _ _ g => g)
  obtain ⟨y0, y1⟩ := HE.out _ O4.out
  clear o4 O3 HT
  go_wp2_with fail
  refine (show Calls Tryz.prog 29 _ _ _ from HA.out _).mono ?_
  rintro e w5 ⟨rfl, o5⟩
  have O5 : Hid (Only (fun _ => False) V w5) := O4.out.trans o5 (fun _ _ g => g)
  obtain ⟨z0, z1⟩ := HE.out _ O5.out
  clear o5 O4 HA y0 y1
  have z0d : w5.drew.cell? ⟨C, 0, none⟩ = some (.slice none 0 0) := z0
  have HI : Hid _ := HIN.out w5.heap.size (w5.alloc (.cells #[.string x, .slice none 0 0] 62)).drew (valloc_at w5 _ _ rfl)
  have oA : Only (fun _ => False) w5 (w5.alloc (.cells #[.string x, .slice none 0 0] 62)).drew := ((Only.refl _ w5).alloc _).drew
  have zA : (w5.alloc (.cells #[.string x, .slice none 0 0] 62)).drew.cell? ⟨C, 0, none⟩ = some (.slice none 0 0) := oA.cell z0 (fun g => g)
  have HEN : Hid (∀ w6, Hid (Only (fun _ => False) (w5.alloc (.cells #[.string x, .slice none 0 0] 62)).drew w6) → Only (fun _ => False) V w6) := fun w6 o6 => (O5.out.trans oA (fun _ _ g => g)).trans o6.out (fun _ _ g => g)
  clear oA HIN O5 z1
  go_wp2
  go_region_law (first | (go_simp; go_at_call 21; refine (HCL.out _).mono ?_; rintro e w6 ⟨rfl, rfl⟩; dsimp only) | (go_simp; go_at_call 30; refine (show Calls Tryz.prog 30 _ _ _ from HI.out).mono ?_; rintro e w7 ⟨g, cap, rfl, o7⟩; have O7 := HEN.out w7 o7; have y9 := (HE.out w7 O7).1; have x9 := (Liv.of (HS.out w7 O7).2.1).froz 0; dsimp only))
  all_goals
    obtain ⟨oo, hC, hB1, hwB, hBC⟩ := HS.out w7 O7
    obtain ⟨X, hX⟩ : ∃ X, X = w7.setCell ⟨C, 0, none⟩ (.slice (some ⟨g, 0, none⟩) 1 cap) := ⟨_, rfl⟩
    have oX : Only (fun b => b = C) w7 X := by rw [hX]; exact (Only.refl (fun b => b = C) _).setCell ⟨C, 0, none⟩ _ (fun _ => rfl)
    have hXC : X.heap[C]? = some (.cells #[.slice (some ⟨g, 0, none⟩) 1 cap, .slice none 0 0] 33) := by rw [hX]; exact heap_setCell_same _ _ 0 _ _ _ hC
    have hXB : X.heap[B + 1]? = some (.cells #[.slice none 0 0, .slice none 0 0] 33) := (oX.block _ (Array.getElem?_eq_some_iff.1 hB1).1 (by omega)).trans hB1
    have k0 := vblk_cells hXC 0
    have k1 := vblk_cells hXC 1
    have c10 := vblk_cells hXB 0
    have c11' := vblk_cells (heap_setCell_same _ _ 0 _ _ (.slice (some ⟨g, 0, none⟩) 1 cap) hXB) 1
    simp only [List.getElem?_toArray, List.getElem?_cons_zero, List.getElem?_cons_succ] at k0 k1 c10
    replace c11' : (X.setCell ⟨B + 1, 0, none⟩ (.slice (some ⟨g, 0, none⟩) 1 cap)).cell? ⟨B + 1, 1, none⟩ = some (.slice none 0 0) := c11'
    have f0 := (Liv.of hXB).froz 0
    have f1' : (X.setCell ⟨B + 1, 0, none⟩ (.slice (some ⟨g, 0, none⟩) 1 cap)).frozen? ⟨B + 1, 1, none⟩ = false := (Liv.of (heap_setCell_same _ _ 0 _ _ (.slice (some ⟨g, 0, none⟩) 1 cap) hXB)).froz 1
    have h2 := lset2 hXB (.slice (some ⟨g, 0, none⟩) 1 cap) (.slice none 0 0)
    obtain ⟨WF, hWF⟩ : ∃ WF, WF = (X.setCell ⟨B + 1, 0, none⟩ (.slice (some ⟨g, 0, none⟩) 1 cap)).setCell ⟨B + 1, 1, none⟩ (.slice none 0 0) := ⟨_, rfl⟩
    rw [← hWF] at h2
    have oF : Only (fun b => b = B + 1) X WF := by rw [hWF]; exact lonly2 _ _
    have HR : Hid (Only (fun _ => False) w WF ∧ WF.heap[B + 1]? = some (.cells #[.slice (some ⟨g, 0, none⟩) 1 cap, .slice none 0 0] 33)) := ⟨(oo.trans oX (fun k hk e => by omega)).trans oF (fun k hk e => by omega), h2⟩
    clear oo hC hB1 hwB hBC oX hXC hXB h2 oF y9 x9 o7 O7 HS HE HEN HI HCL z0 z0d zA
    rw [← hX]
    clear hX
    go_wp2
    rw [← hWF]
    exact bodyPost_ret (results_dict rfl _ _ (B + 1) (vblk_cells HR.out.2 0) (vblk_cells HR.out.2 1) rfl) rfl ⟨g, cap, rfl, HR.out.1⟩
end Go.Proofs.YtdkbioahhkmpoaaGreatDoor
namespace Go.Proofs.YtdkbioahhkmpoaaGreatDoor
open Go.RowKit Go.Lib
set_option linter.unusedSimpArgs false
set_option linter.unusedVariables false
set_option maxRecDepth 100000 in
theorem blists_nil (w : World) : Calls Tryz.prog 4 #[.pointer none] w fun e w' => e = .returned (.tuple #[.slice none 0 0, .slice none 0 0]) ∧ w' = w := by
  go_enter Tryz.func4, Tryz.ntmps4
  go_wp2
  go_ret2
  exact ⟨rfl, rfl⟩
set_option maxRecDepth 100000 in
theorem bundo_nil (w : World) : Calls Tryz.prog 8 #[.pointer none] w fun e w' => e = .returned (.int .i64 2) ∧ w' = w := by
  go_enter Tryz.func8, Tryz.ntmps8
  go_wp2
  go_ret
  exact ⟨rfl, rfl⟩
set_option maxRecDepth 100000 in
theorem bredo_nil (w : World) : Calls Tryz.prog 9 #[.pointer none] w fun e w' => e = .returned (.int .i64 2) ∧ w' = w := by
  go_enter Tryz.func9, Tryz.ntmps9
  go_wp2
  go_ret
  exact ⟨rfl, rfl⟩
set_option maxRecDepth 100000 in
theorem bset_nil (w : World) : Calls Tryz.prog 7 #[.pointer none, .agg #[.slice none 0 0, .slice none 0 0]] w fun e w' => e = .returned (.int .i64 2) ∧ Only (fun _ => False) w w' := by
  have O : Hid (Only (fun _ => False) w w) := Only.refl _ _
  go_enter Tryz.func7, Tryz.ntmps7
  go_wp2
  go_ret
  exact ⟨rfl, by repeat' first | exact O.out | apply Only.alloc⟩
set_option maxRecDepth 100000 in
theorem bdict_nil (w : World) : Calls Tryz.prog 11 #[.pointer none] w fun e w' => e = .returned (.agg #[.slice none 0 0, .slice none 0 0]) ∧ Only (fun _ => False) w w' := by
  obtain ⟨W, hW⟩ : ∃ W, W = w.alloc (.cells #[.slice none 0 0, .slice none 0 0] 33) := ⟨_, rfl⟩
  have oW : Only (fun _ => False) w W := by rw [hW]; exact (Only.refl _ _).alloc _
  have b1 : W.heap[w.heap.size]? = some (.cells #[.slice none 0 0, .slice none 0 0] 33) := by rw [hW]; exact valloc_at _ _ _ rfl
  go_enter Tryz.func11, Tryz.ntmps11
  go_wp2
  rw [← hW]
  exact bodyPost_ret (results_dict1 rfl _ _ w.heap.size (vblk_cells b1 0) (vblk_cells b1 1) rfl) rfl ⟨rfl, oW⟩
set_option maxRecDepth 100000 in
theorem dawake_any (w : World) (hN : Nog w) : Calls Tryz.prog 10 #[] w fun e w' => e = .returned (.bool true) ∧ Only (fun _ => False) w w' := by
  have H1 : Hid (Calls Tryz.prog 6 #[] w fun e w' => e = .returned (.agg #[.slice none 0 0, .slice none 0 0]) ∧ Only (fun _ => False) w w') := dnew_any w
  have H2 : Hid (∀ w1, Only (fun _ => False) w w1 → Calls Tryz.prog 19 #[.agg #[.slice none 0 0, .slice none 0 0], .string ⟨#[97]⟩, .slice none 0 0] w1 (VoP w1)) := fun w1 o1 => dvocab_one ⟨#[97]⟩ (by kernel_rfl) w1 (hN.frame o1)
  clear hN
  go_enter Tryz.func10, Tryz.ntmps10
  go_wp2_with fail
  refine (show Calls Tryz.prog 6 _ _ _ from H1.out).mono ?_
  rintro e w1 ⟨rfl, o1⟩
  have O1 : Hid (Only (fun _ => False) w w1) := o1
  clear o1 H1
  go_wp2_with fail
  refine (show Calls Tryz.prog 19 _ _ _ from H2.out _ O1.out).mono ?_
  rintro e w2 ⟨g, cap, rfl, o2⟩
  have O2 : Hid (Only (fun _ => False) w w2) := O1.out.trans o2.out (fun _ _ g => g)
  clear o2 H2 O1
  go_wp2
  go_ret
  exact ⟨rfl, by repeat' first | exact O2.out | apply Only.alloc⟩
end Go.Proofs.YtdkbioahhkmpoaaGreatDoor
namespace Go.Proofs.YtdkbioahhkmpoaaGreatDoor
open Go.RowKit Go.Lib
set_option linter.unusedSimpArgs false
set_option linter.unusedVariables false
/-- what Open answers where it is refused -/
def OpP (z : Int) (w : World) (e : Ending) (w' : World) : Prop := e = .returned (.tuple #[.pointer none, .int .i64 z]) ∧ Hid (Only (fun _ => False) w w')
set_option maxRecDepth 100000 in
set_option maxHeartbeats 4000000 in
theorem dnil_walk (w : World) (hT : Tb w) : Calls Tryz.prog 3 #[] w fun e w' => e = .returned (.bool true) ∧ Only (fun _ => False) w w' := by
  obtain ⟨G, hG⟩ : ∃ G, G = w.heap.size := ⟨_, rfl⟩
  obtain ⟨W, hW⟩ : ∃ W, W = (w.alloc (.cells #[.string ⟨#[110, 111, 110, 101]⟩, .string ⟨#[]⟩, .int .i64 0, .int .i64 0, .slice none 0 0] 29)).alloc (.cells #[.slice none 0 0, .slice (some ⟨G, 0, none⟩) 1 1] 33) := ⟨_, rfl⟩
  have oW : Only (fun _ => False) w W := by rw [hW]; exact ((Only.refl _ _).alloc _).alloc _
  have b0 : W.heap[G]? = some (.cells #[.string ⟨#[110, 111, 110, 101]⟩, .string ⟨#[]⟩, .int .i64 0, .int .i64 0, .slice none 0 0] 29) := by rw [hW]; exact valloc_old (valloc_at _ _ _ hG)
  have b1 : W.heap[G + 1]? = some (.cells #[.slice none 0 0, .slice (some ⟨G, 0, none⟩) 1 1] 33) := by rw [hW]; exact valloc_at _ _ _ (by simp [hG])
  have HA : Hid (∀ w1, Only (fun _ => False) W w1 → Calls Tryz.prog 10 #[] w1 fun e w' => e = .returned (.bool true) ∧ Only (fun _ => False) w1 w') := fun w1 o1 => dawake_any w1 (hT.frame (oW.trans o1 (fun _ _ g => g))).1
  have HNW : Hid (∀ w1, Calls Tryz.prog 6 #[] w1 fun e w' => e = .returned (.agg #[.slice none 0 0, .slice none 0 0]) ∧ Only (fun _ => False) w1 w') := dnew_any
  have hWd : ∀ w1, Only (fun _ => False) W w1 → WdB w1 G := fun w1 o1 => ⟨_, _, _, _, o1.kat b0⟩
  have hTb : ∀ w1, Only (fun _ => False) W w1 → Tb w1 := fun w1 o1 => hT.frame (oW.trans o1 (fun _ _ g => g))
  have HO1 : Hid (∀ w1, Only (fun _ => False) W w1 → Calls Tryz.prog 5 #[.agg #[.slice none 0 0, .slice (some ⟨G, 0, none⟩) 1 1], .slice none 0 0, .slice none 0 0, .int .i64 3] w1 (OpP 1 w1)) := fun w1 o1 =>
    dopen_any G false [] none 0 3 1 w1 (hTb w1 o1) (hWd w1 o1) (by decide) (by decide) ⟨rfl, dcs_one G [], .inl ⟨rfl, rfl⟩⟩ (fun _ => rfl) (.inl ⟨rfl, rfl⟩)
  have HO2 : Hid (∀ b w1, Only (fun _ => False) W w1 → w1.heap[b]? = some (.cells #[.slice none 0 0, .slice (some ⟨G, 0, none⟩) 1 1] 33) → Calls Tryz.prog 5 #[.agg #[.slice none 0 0, .slice none 0 0], .slice (some ⟨b, 0, none⟩) 1 1, .slice none 0 0, .int .i64 3] w1 (OpP 1 w1)) := fun b w1 o1 hb =>
    dopen_any G true [false] (some ⟨b, 0, none⟩) 1 3 1 w1 (hTb w1 o1) (hWd w1 o1) (by decide) (by decide) ⟨rfl, dcs_one G _, .inr ⟨b, rfl, fun k u hk => by rw [vblk_cells hb]; simpa [dcs, bdV] using hk⟩⟩ (fun h => by cases h) (.inl ⟨rfl, rfl⟩)
  have HO3 : Hid (∀ b w1, Only (fun _ => False) W w1 → w1.heap[b]? = some (.cells #[.slice none 0 0, .slice none 0 0, .slice none 0 0, .slice none 0 0] 33) → Calls Tryz.prog 5 #[.agg #[.slice none 0 0, .slice none 0 0], .slice (some ⟨b, 0, none⟩) 2 2, .slice none 0 0, .int .i64 1] w1 (OpP 2 w1)) := fun b w1 o1 hb =>
    dopen_any G true [true, true] (some ⟨b, 0, none⟩) 2 1 2 w1 (hTb w1 o1) (hWd w1 o1) (by decide) (by decide) ⟨rfl, dcs_one G _, .inr ⟨b, rfl, fun k u hk => by rw [vblk_cells hb]; simpa [dcs, bdV] using hk⟩⟩ (fun h => by cases h) (.inr ⟨rfl, by decide, rfl⟩)
  have HL : Hid (∀ w1, Calls Tryz.prog 4 #[.pointer none] w1 fun e w' => e = .returned (.tuple #[.slice none 0 0, .slice none 0 0]) ∧ w' = w1) := blists_nil
  have HS : Hid (∀ w1, Calls Tryz.prog 7 #[.pointer none, .agg #[.slice none 0 0, .slice none 0 0]] w1 fun e w' => e = .returned (.int .i64 2) ∧ Only (fun _ => False) w1 w') := bset_nil
  have HU : Hid (∀ w1, Calls Tryz.prog 8 #[.pointer none] w1 fun e w' => e = .returned (.int .i64 2) ∧ w' = w1) := bundo_nil
  have HR : Hid (∀ w1, Calls Tryz.prog 9 #[.pointer none] w1 fun e w' => e = .returned (.int .i64 2) ∧ w' = w1) := bredo_nil
  have HDI : Hid (∀ w1, Calls Tryz.prog 11 #[.pointer none] w1 fun e w' => e = .returned (.agg #[.slice none 0 0, .slice none 0 0]) ∧ Only (fun _ => False) w1 w') := bdict_nil
  have HC : Hid (∀ w1, Only (fun _ => False) W w1 → w1.cell? ⟨G + 1, 0, none⟩ = some (.slice none 0 0) ∧ w1.cell? ⟨G + 1, 1, none⟩ = some (.slice (some ⟨G, 0, none⟩) 1 1)) := fun w1 o1 => ⟨o1.cell ((vblk_cells b1 0).trans rfl) (fun g => g), o1.cell ((vblk_cells b1 1).trans rfl) (fun g => g)⟩
  have OW : Hid (Only (fun _ => False) w W) := oW
  obtain ⟨c0, c1⟩ := HC.out W (Only.refl _ _)
  clear oW b0 b1 hT hWd hTb
  go_enter Tryz.func3, Tryz.ntmps3
  go_wp2_with fail
  rw [← hG, ← hW]
  clear hG hW
  refine (show Calls Tryz.prog 4 _ _ _ from HL.out _).mono ?_
  rintro e w1 ⟨rfl, hw1⟩
  rw [hw1]
  clear HL hw1 w1
  go_wp2_with fail
  refine (show Calls Tryz.prog 5 _ _ _ from HO1.out _ (Only.refl _ _)).mono ?_
  rintro e w1 ⟨rfl, o1'⟩
  have O1 : Hid (Only (fun _ => False) W w1) := o1'.out
  obtain ⟨d0, d1⟩ := HC.out w1 O1.out
  clear o1' HO1 c0 c1
  go_wp2
  go_region_law (first | (go_simp; go_at_call 6; refine (show Calls Tryz.prog 6 _ _ _ from HNW.out _).mono ?_; rintro e w2 ⟨rfl, o2⟩; have o2' : Only (fun _ => False) w1 w2 := Only.trans (by repeat' first | exact (Only.refl _ w1) | apply Only.drew | apply Only.alloc) o2 (fun _ _ g => g); have e0 := (HC.out w2 (O1.out.trans o2' (fun _ _ g => g))).1; have e1 := (HC.out w2 (O1.out.trans o2' (fun _ _ g => g))).2; dsimp only) | (go_simp; go_at_call 5; refine (show Calls Tryz.prog 5 _ _ _ from HO2.out _ _ (by refine O1.out.trans ?_ (fun _ _ g => g); repeat' first | exact o2' | apply Only.drew | apply Only.alloc) (by first | exact o2.kat (valloc_at w1 _ _ rfl) | exact valloc_at w2 _ _ rfl)).mono ?_; rintro e w3 ⟨rfl, o3⟩; have O3 : Hid (Only (fun _ => False) W w3) := Only.trans (by refine O1.out.trans ?_ (fun _ _ g => g); repeat' first | exact o2' | apply Only.drew | apply Only.alloc) o3.out (fun _ _ g => g); dsimp only))
  all_goals
    clear o2 o2' o3 O1 d0 d1 HO2 HC
    try clear e0 e1
    go_wp2_with fail
    refine (show Calls Tryz.prog 6 _ _ _ from HNW.out _).mono ?_
    rintro e w4 ⟨rfl, o4⟩
    have O4 : Hid (Only (fun _ => False) W w4) := O3.out.trans o4 (fun _ _ g => g)
    clear o4 O3
    go_wp2_with fail
    refine (show Calls Tryz.prog 6 _ _ _ from HNW.out _).mono ?_
    rintro e w5 ⟨rfl, o5⟩
    have O5 : Hid (Only (fun _ => False) W w5) := O4.out.trans o5 (fun _ _ g => g)
    clear o5 O4
    go_wp2_with fail
    refine (show Calls Tryz.prog 6 _ _ _ from HNW.out _).mono ?_
    rintro e w6 ⟨rfl, o6⟩
    have O6 : Hid (Only (fun _ => False) W w6) := O5.out.trans o6 (fun _ _ g => g)
    clear o6 O5
    have HC3 : Hid _ := HO3.out w6.heap.size (w6.alloc (.cells #[.slice none 0 0, .slice none 0 0, .slice none 0 0, .slice none 0 0] 33)) (O6.out.alloc _) (valloc_at _ _ _ rfl)
    clear HO3
    go_wp2_with fail
    refine (show Calls Tryz.prog 5 _ _ _ from HC3.out).mono ?_
    rintro e w7 ⟨rfl, o7⟩
    have O7 : Hid (Only (fun _ => False) W w7) := (O6.out.alloc _).trans o7.out (fun _ _ g => g)
    clear o7 O6 HC3
    go_wp2_with fail
    refine (show Calls Tryz.prog 6 _ _ _ from HNW.out _).mono ?_
    rintro e w8 ⟨rfl, o8⟩
    have O8 : Hid (Only (fun _ => False) W w8) := O7.out.trans o8 (fun _ _ g => g)
    clear o8 O7 HNW
    go_wp2_with fail
    refine (show Calls Tryz.prog 7 _ _ _ from HS.out _).mono ?_
    rintro e w9 ⟨rfl, o9⟩
    have O9 : Hid (Only (fun _ => False) W w9) := O8.out.trans o9 (fun _ _ g => g)
    clear o9 O8 HS
    go_wp2_with fail
    refine (show Calls Tryz.prog 8 _ _ _ from HU.out _).mono ?_
    rintro e wa ⟨rfl, ha⟩
    rw [ha]
    clear HU ha wa
    go_wp2_with fail
    refine (show Calls Tryz.prog 9 _ _ _ from HR.out _).mono ?_
    rintro e wa ⟨rfl, ha⟩
    rw [ha]
    clear HR ha wa
    go_wp2_with fail
    refine (show Calls Tryz.prog 10 _ _ _ from HA.out _ O9.out).mono ?_
    rintro e wa ⟨rfl, oa⟩
    have Oa : Hid (Only (fun _ => False) W wa) := O9.out.trans oa (fun _ _ g => g)
    clear oa O9 HA
    go_wp2_with fail
    refine (show Calls Tryz.prog 11 _ _ _ from HDI.out _).mono ?_
    rintro e wb ⟨rfl, ob⟩
    have Ob : Hid (Only (fun _ => False) w wb) := OW.out.trans (Oa.out.trans ob (fun _ _ g => g)) (fun _ _ g => g)
    clear ob Oa HDI OW
    have hfd : (Instr.field 33 (.agg #[.slice none 0 0, .slice none 0 0]) 0).run Tryz.prog wb = .ok (.slice none 0 0) wb := by kernel_rfl
    go_wp2
    go_ret
    exact ⟨rfl, Ob.out⟩
end Go.Proofs.YtdkbioahhkmpoaaGreatDoor
