/- law09.known: words of package api. One effect behind another: the law's walk. EffectKeeps: the walk. Known words that come in, read with the weights of the first form. -/
import Derived.Test.YtodbkihobgdpdaaGreatDoorGao
import Derived.Test.YtodbkihobgdpdaaGreatDoorEf5
import Derived.Test.YtodbkihobgdpdaaGreatDoorGag
import Derived.Test.YtodbkihobgdpdaaGreatDoorGai
import Derived.Deep.RegionHeld3
import Derived.Test.YtodbkihobgdpdaaGreatDoorGaa
namespace Go.Proofs.YtodbkihobgdpdaaGreatDoor
open Go.RowKit Go.Lib
set_option linter.unusedSimpArgs false
set_option linter.unusedVariables false
set_option maxRecDepth 100000 in
theorem kn_info : ∃ i z, Tryz.prog.info? 48 = some i ∧ i.zero = some z ∧ i.size = 3 ∧ i.bytes = 32 ∧ z.cells.size = 3 := ⟨_, _, rfl, rfl, rfl, rfl, rfl⟩
/-- a row of known words of one's own -/
def KrAt (w : World) (B : Nat) (v : Value) (kl : List (ByteArray × Int × Int)) : Prop := w.ownsRow B 48 3 v kl.length (kl.flatMap fun x => [.string x.1, .int .i64 x.2.1, .int .i64 x.2.2])
theorem kr_len (kl : List (ByteArray × Int × Int)) : (kl.flatMap fun x => ([.string x.1, .int .i64 x.2.1, .int .i64 x.2.2] : List Value)).length = kl.length * 3 := by
  induction kl with
  | nil => rfl
  | cons x r ih => simp only [List.flatMap_cons, List.length_append, ih, List.length_cons, List.length_nil]; omega
theorem kr_get : ∀ (kl : List (ByteArray × Int × Int)) (j : Nat) (x : ByteArray × Int × Int), kl[j]? = some x → (kl.flatMap fun x => ([.string x.1, .int .i64 x.2.1, .int .i64 x.2.2] : List Value))[j * 3]? = some (.string x.1) ∧ (kl.flatMap fun x => ([.string x.1, .int .i64 x.2.1, .int .i64 x.2.2] : List Value))[j * 3 + 1]? = some (.int .i64 x.2.1) ∧ (kl.flatMap fun x => ([.string x.1, .int .i64 x.2.1, .int .i64 x.2.2] : List Value))[j * 3 + 1 + 1]? = some (.int .i64 x.2.2)
  | [], j, x, h => by simp at h
  | y :: r, 0, x, h => by
    simp at h
    subst h
    exact ⟨rfl, rfl, rfl⟩
  | y :: r, j + 1, x, h => by
    have ih := kr_get r j x (by simpa using h)
    have e : ∀ k, ((y :: r).flatMap fun x => ([.string x.1, .int .i64 x.2.1, .int .i64 x.2.2] : List Value))[k + 3]? = (r.flatMap fun x => ([.string x.1, .int .i64 x.2.1, .int .i64 x.2.2] : List Value))[k]? := fun k => by
      simp only [List.flatMap_cons]
      rw [List.getElem?_append_right (by simp)]
      simp
    rw [show (j + 1) * 3 = j * 3 + 3 by omega, show j * 3 + 3 + 1 = (j * 3 + 1) + 3 by omega, show j * 3 + 1 + 3 + 1 = (j * 3 + 1 + 1) + 3 by omega, e, e, e]
    exact ih
theorem KrAt.kn {w : World} {B : Nat} {a : Option Addr} {n c : Nat} {kl : List (ByteArray × Int × Int)} (h : KrAt w B (.slice a n c) kl) : KnAt w (fun b => B ≤ b ∧ b < w.heap.size) kl a ∧ n = kl.length := by
  have hn : n = kl.length := by
    obtain ⟨a', c', e⟩ := ownsRow_slice h
    injection e
  refine ⟨fun j x hx => ?_, hn⟩
  rcases h.2 with ⟨h1, h2⟩ | ⟨g, cap, cur, hv, hgs, hgc, hr⟩
  · have := (List.getElem?_eq_some_iff.1 hx).1
    omega
  · injection hv with hv
    have hc := fun j u hu => h.cells (g := g) (by rw [hv]; rfl) j u hu
    obtain ⟨e0, e1, e2⟩ := kr_get kl j x hx
    have q0 := hc _ _ e0
    have q1 := hc _ _ e1
    have q2 := hc _ _ e2
    rw [addr_ad] at q0 q1 q2
    refine ⟨g, 0, hv, ⟨hgs, (Array.getElem?_eq_some_iff.1 hgc).1⟩, ?_, ?_, ?_⟩
    · rw [Nat.zero_add]; exact q0
    · rw [Nat.zero_add]; exact q1
    · rw [Nat.zero_add]; exact q2
set_option maxRecDepth 100000 in
set_option maxHeartbeats 4000000 in
theorem known_any {w : World} {K : Nat → Prop} {kl : List (ByteArray × Int × Int)} {ka : Option Addr} {kc : Nat} (h : KnAt w K kl ka) (hn : kl.length * 32 ≤ 140737488355328) : Calls Tryz.prog 13 #[.slice ka kl.length kc] w fun e w' => ∃ a c, e = .returned (.slice a kl.length c) ∧ Hid (KrAt w' w.heap.size (.slice a kl.length c) kl ∧ Only (fun _ => False) w w') := by
  obtain ⟨L, hL⟩ : ∃ L, L = kl.length := ⟨_, rfl⟩
  rw [← hL]
  have HH : Hid (KnAt w K kl ka ∧ L = kl.length ∧ L * 32 ≤ 140737488355328) := ⟨h, hL, by omega⟩
  clear h hn hL
  go_enter Tryz.func13, Tryz.ntmps13
  go_wp2
  go_loopw [3, 4] (fun r3 r4 wr => ∃ (j : Nat) (a' : Option Addr) (c' : Nat), r4 = .int .i64 (j : Int) ∧ j ≤ L ∧ r3 = .slice a' j c' ∧ Hid (KrAt wr w.heap.size (.slice a' j c') (kl.take j) ∧ Only (fun _ => False) w wr)) (fun _ r4 _ => L - vuOf r4)
  case atStart => exact ⟨0, none, 0, rfl, Nat.zero_le _, rfl, World.ownsRow_nil _ _ _ _, Only.refl _ _⟩
  case round =>
    obtain ⟨j, a', c', rfl, hj, rfl, HI⟩ := hrel
    obtain ⟨w1, hw1⟩ : ∃ w1, w1 = wr := ⟨_, rfl⟩
    rw [← hw1] at HI ⊢
    clear hw1
    obtain ⟨hk, hLl, hLb⟩ := HH.out
    by_cases hjL : j < L
    · obtain ⟨x, hx⟩ : ∃ x, kl[j]? = some x := ⟨kl[j]'(by omega), List.getElem?_eq_getElem (by omega)⟩
      obtain ⟨g, q, rfl, hg, c0, c1, c2⟩ := (hk.only HI.out.2 (fun _ _ e => e)) j x hx
      have HX : Hid (kl[j]? = some x ∧ j < L) := ⟨hx, hjL⟩
      obtain ⟨nm, a, b⟩ := x
      simp only at c0 c1 c2
      have i1 : (j : Int) < (L : Int) := by omega
      have i0 : (0 : Int) ≤ (j : Int) := by omega
      have i4 : j ≤ 4398046511104 := by omega
      obtain ⟨W2, hW2⟩ : ∃ X, X = (w1.alloc (.cells #[.string nm, .int .i64 a, .int .i64 b] 48)).drew := ⟨_, rfl⟩
      have o2 : Only (fun _ => False) w1 W2 := by rw [hW2]; exact ((Only.refl _ _).alloc _).drew
      have b2 : W2.heap[w1.heap.size]? = some (.cells #[.string nm, .int .i64 a, .int .i64 b] 48) := by rw [hW2]; exact ealloc_at w1 _ _ rfl
      obtain ⟨ii, zz, hi, hz0, hz1, hz2, hz3⟩ := kn_info
      have hown : W2.ownsRow w.heap.size 48 3 (.slice a' j c') j ((kl.take j).flatMap fun x => [.string x.1, .int .i64 x.2.1, .int .i64 x.2.2]) := by
        have := o2.owns HI.out.1 (fun _ _ e => e)
        rwa [show (kl.take j).length = j by simp; omega] at this
      have hsz := HI.out.2.size
      have hsz2 := o2.size
      have key := fun ty => run_append_own_at (P := Tryz.prog) W2 w.heap.size 45 ty 48 ii zz 3 32 Tryz.underlying45 hi hz0 hz1 hz2 hz3 (by omega) (.slice a' j c') j _ hown ⟨w1.heap.size, 0, none⟩ 1 1 [.string nm, .int .i64 a, .int .i64 b] rfl (by
          intro k u hk2
          rw [addr_ad, vblk_cells b2]
          simpa using hk2) (by
          intro u hu
          simp only [List.mem_cons, List.not_mem_nil, or_false] at hu
          rcases hu with rfl | rfl | rfl
          · rfl
          · rfl
          · rfl) (by unfold maxLen; omega) (by omega) (by omega)
      obtain ⟨v', w3, hr, own3, hg3, _, hat⟩ := key 0
      obtain ⟨a3, c3, hv3⟩ := ownsRow_slice own3
      subst hv3
      have HR : Hid (∀ ty, (Builtin.append_ #[45, 45] ty #[.slice a' j c', .slice (some ⟨w1.heap.size, 0, none⟩) 1 1]).run Tryz.prog ((w1.alloc (.cells #[.string nm, .int .i64 a, .int .i64 b] 48)).drew) = .ok (.slice a3 (j + 1) c3) w3) := fun ty => by rw [← hW2, ← hr]; rfl
      have HF : Hid (KrAt w3 w.heap.size (.slice a3 (j + 1) c3) (kl.take (j + 1)) ∧ Only (fun _ => False) w w3) := by
        refine ⟨?_, (HI.out.2.trans o2 (fun _ _ e => e)).trans ((Only.refl (fun k => (Value.slice a' j c').ownBlock = some k) W2).grown hg3 (fun k e _ => e)) (fun k hk e => by have := (hown.lt k e).1; omega)⟩
        unfold KrAt
        rw [show (kl.take (j + 1)).length = j + 1 by have := (List.getElem?_eq_some_iff.1 HX.out.1).1; simp; omega, List.take_add_one, HX.out.1]
        simpa using own3
      have d0 : ∀ ob, (w1.alloc ob).cell? ⟨g, q + j * 3, none⟩ = some (.string nm) := fun ob => ((Only.refl (fun _ => False) w1).alloc ob).cell c0 (fun e => e)
      have d1 : ∀ ob, (w1.alloc ob).cell? ⟨g, q + j * 3 + 1, none⟩ = some (.int .i64 a) := fun ob => ((Only.refl (fun _ => False) w1).alloc ob).cell c1 (fun e => e)
      have d2 : ∀ ob, (w1.alloc ob).cell? ⟨g, q + j * 3 + 1 + 1, none⟩ = some (.int .i64 b) := fun ob => ((Only.refl (fun _ => False) w1).alloc ob).cell c2 (fun e => e)
      have c2' : w1.cell? ⟨g, q + j * 3 + 2, none⟩ = some (.int .i64 b) := c2
      have d2' : ∀ ob, (w1.alloc ob).cell? ⟨g, q + j * 3 + 2, none⟩ = some (.int .i64 b) := d2
      clear hx hk hLl hLb hjL hj hg o2 b2 hown hsz hsz2 hr own3 hg3 hat hW2 hi hz0 hz1 hz2 hz3 HI key
      go_wp2_with fail
      go_region_law (refine vstep_append_run (by rfl) _ _ 45 (by rfl) _ _ (.slice a3 (j + 1) c3) (by rfl) (by rfl) HR.out ?_)
      all_goals
        go_wp2
        go_roundw
        case rel => exact ⟨j + 1, a3, c3, by go_num, by have := HX.out.2; omega, rfl, HF⟩
        case measure => simp only [vuOf]; have := HX.out.2; omega
    · obtain rfl : j = L := by omega
      have i1 : ¬ (j : Int) < (j : Int) := by omega
      have F9 : Hid (KrAt w1 w.heap.size (.slice a' j c') kl ∧ Only (fun _ => False) w w1) := by
        have := HI.out
        rwa [show kl.take j = kl from by rw [hLl]; exact List.take_length] at this
      clear HI hk hLl hLb hjL hj HH
      go_wp2
      go_ret
      exact ⟨a', c', rfl, F9.out⟩
end Go.Proofs.YtodbkihobgdpdaaGreatDoor
namespace Go.Proofs.YtodbkihobgdpdaaGreatDoor
open Go.RowKit
set_option linter.unusedSimpArgs false
set_option linter.unusedVariables false
set_option maxRecDepth 100000 in
theorem awake_any (w : World) : Calls Tryz.prog 6 #[] w fun e w' => e = .returned (.bool true) ∧ Only (fun _ => False) w w' := by
  have HP : Hid (∀ w1, Calls Tryz.prog 16 #[.string ⟨#[100, 117, 112]⟩] w1 fun e w' => e = .returned (.tuple #[.agg #[.int .i64 1, .int .i64 2], .bool true]) ∧ Only (fun _ => False) w1 w') := fun w1 => by
    have := prim_any ⟨#[100, 117, 112]⟩ w1
    rwa [show pmR ⟨#[100, 117, 112]⟩ = (1, 2, true) from by kernel_rfl] at this
  go_enter Tryz.func6, Tryz.ntmps6
  go_wp2_with fail
  refine (show Calls Tryz.prog 16 _ _ _ from HP.out _).mono ?_
  rintro e w1 ⟨rfl, o1⟩
  have O1 : Hid (Only (fun _ => False) w w1) := o1
  clear HP o1
  go_wp2
  all_goals
    go_ret
    refine ⟨rfl, ?_⟩
    exact O1.out.alloc _
theorem thR_cases (a b c d : Int) : ∃ i o k, thR a b c d = (i, o, k) ∧ ((k = 0 ∧ (0 ≤ a ∧ a ≤ 16 ∧ 0 ≤ b ∧ b ≤ 16) ∧ (0 ≤ c ∧ c ≤ 16 ∧ 0 ≤ d ∧ d ≤ 16) ∧ (0 ≤ i ∧ i ≤ 16 ∧ 0 ≤ o ∧ o ≤ 16) ∧ i = a + max 0 (c - b) ∧ o = d + max 0 (b - c)) ∨ k = 2 ∨ k = 11) := by
  unfold thR
  cases h1 : bdB a b with
  | false => exact ⟨_, _, _, rfl, .inr (.inl rfl)⟩
  | true =>
    cases h2 : bdB c d with
    | false => exact ⟨_, _, _, rfl, .inr (.inl rfl)⟩
    | true =>
      cases h3 : bdB (a + max 0 (c - b)) (d + max 0 (b - c)) with
      | false => exact ⟨0, 0, 11, by simp, .inr (.inr rfl)⟩
      | true => exact ⟨_, _, _, by simp, .inl ⟨rfl, of_decide_eq_true h1, of_decide_eq_true h2, of_decide_eq_true h3, rfl, rfl⟩⟩
def Th (a b c d i o k : Int) : Prop := thR a b c d = (i, o, k) ∧ ((k = 0 ∧ (0 ≤ a ∧ a ≤ 16 ∧ 0 ≤ b ∧ b ≤ 16) ∧ (0 ≤ c ∧ c ≤ 16 ∧ 0 ≤ d ∧ d ≤ 16) ∧ (0 ≤ i ∧ i ≤ 16 ∧ 0 ≤ o ∧ o ≤ 16) ∧ i = a + max 0 (c - b) ∧ o = d + max 0 (b - c)) ∨ k = 2 ∨ k = 11)
theorem thR_nil {a b : Int} (h : 0 ≤ a ∧ a ≤ 16 ∧ 0 ≤ b ∧ b ≤ 16) : thR a b 0 0 = (a, b, 0) := by
  have e1 : bdB a b = true := decide_eq_true h
  have e2 : bdB 0 0 = true := rfl
  unfold thR
  rw [e1, e2, show a + max 0 (0 - b) = a by omega, show (0 : Int) + max 0 (b - 0) = b by omega, e1]
  rfl
/-- effects in blocks -/
def Bx (w : World) (l : List (Nat × Int × Int)) : Prop := ∀ x ∈ l, TwC w x.1 x.2.1 x.2.2
theorem Bx.on {w w1 : World} {l : List (Nat × Int × Int)} (h : Bx w l) (o : Only (fun _ => False) w w1) : Bx w1 l := fun x hx => o.at (h x hx)
theorem Bx.new {w : World} {l : List (Nat × Int × Int)} (h : Bx w l) (x y : Int) : Bx (w.alloc (.cells #[.int .i64 x, .int .i64 y] 30)) (l ++ [(w.heap.size, x, y)]) := fun z hz => by
  rw [List.mem_append] at hz
  rcases hz with hz | hz
  · exact alloc_old (h z hz)
  · simp only [List.mem_singleton] at hz
    subst hz
    exact ealloc_at _ _ _ rfl
theorem Bx.nil (w : World) : Bx w [] := fun x hx => by simp at hx
end Go.Proofs.YtodbkihobgdpdaaGreatDoor
namespace Go.Proofs.YtodbkihobgdpdaaGreatDoor
open Go.RowKit Go.Lib
set_option linter.unusedSimpArgs false
set_option linter.unusedVariables false
theorem RiAt.qs {w : World} {B d n cap : Nat} {T : TypeId} {ao : Option Addr} {l : List Vt} (h : RiAt w B T d true (.slice ao n cap) l) : n = l.length ∧ l.length ≤ cap ∧ ∃ S, QsAt w S d l ao ∧ ∀ b, S b → B ≤ b ∧ b < w.heap.size := by
  obtain ⟨us, S, ho, ht, hS⟩ := h
  rcases ho.2 with ⟨h1, h2⟩ | ⟨g, c, cur, hv, hB, hg, hn, hcm, hcs, htk⟩
  · injection h1 with h3 h4 h5
    have hl : l = [] := by simpa using h2
    subst hl
    exact ⟨h4, Nat.zero_le _, fun _ => False, fun j x hx => by simp at hx, fun b hb => hb.elim⟩
  · have hv2 := hv
    injection hv2 with h3 h4 h5
    refine ⟨h4, by omega, fun b => S b ∨ b = g, fun j x hx => ?_, fun b hb => ?_⟩
    · obtain ⟨u, e1, e2⟩ := ht j x hx
      have hc := ho.cells (g := g) (by rw [hv]; rfl) j u e1
      rw [addr_ad] at hc
      exact ⟨g, 0, u, h3, .inr rfl, by rw [Nat.zero_add]; exact hc, e2.step (fun _ q => .inl q) (fun _ _ _ q => q) (Nat.le_refl _)⟩
    · rcases hb with hb | rfl
      · exact ⟨(hS b hb).1, (hS b hb).2.1⟩
      · exact ⟨hB, (Array.getElem?_eq_some_iff.1 hg).1⟩
theorem QsAt.qi {w : World} {S : Nat → Prop} {d cap : Nat} {l : List Vt} {ao : Option Addr} (h : QsAt w S d l ao) (hc : l.length ≤ cap) : QiAt w S d true (.slice ao l.length cap) l := ⟨ao, cap, rfl, hc, h⟩
theorem esmL_self (f : Vt → Vt → Bool) : ∀ (l : List Vt), (∀ x ∈ l, f x x = true) → smL f l l = true
  | [], _ => rfl
  | t :: l, h => by
    have h1 := h t (List.mem_cons_self ..)
    have h2 := esmL_self f l (fun x hx => h x (List.mem_cons_of_mem _ hx))
    simp only [smL, h1, h2, Bool.and_true]
theorem esaV_self : ∀ (d : Nat) (t : Vt), LfT d t → saV d t t = true
  | 0, _, h => h.elim
  | d + 1, t, h => by
    have h1 : smL (saV d) t.l t.l = true := esmL_self _ _ (fun x hx => esaV_self d x (h.2 x hx))
    have h2 : saL t.k t.n t.n t.s t.s = true := by
      unfold saL
      split
      · simp
      split
      · simp
      split
      · simp
      · rfl
    simp only [saV, h1, h2, decide_true, Bool.and_true]
theorem UrAt.evs {w : World} {B d : Nat} {v : Value} {l : List Vt} (h : UrAt w B d v l) : ∃ S, VsAt w S (d + 1) l v := by
  obtain ⟨S, h1, _⟩ := h.tree (t := ⟨0, 0, ⟨#[]⟩, l⟩) rfl
  exact ⟨S, h1⟩
/-- what law07.ItemsOf makes of trees -/
def ItP (D : Nat) (l : List Vt) (w : World) (e : Ending) (w' : World) : Prop := ∃ ao cap, e = .returned (.slice ao l.length cap) ∧ Hid (l.length ≤ cap ∧ (∃ S, QsAt w' S (2 * D + 2) (l.map (nm D true)) ao ∧ ∀ b, S b → w.heap.size ≤ b ∧ b < w'.heap.size) ∧ Only (fun _ => False) w w')
theorem itemsOf_any {D : Nat} {l : List Vt} {lv : Value} {w : World} {S : Nat → Prop} (h : VsAt w S (D + 1) l lv) (hl : l.length ≤ 2513169434900) (hs : ∀ x ∈ l, SmT D x) : Calls Tryz.prog 8 #[lv] w (ItP D l w) := by
  refine (items_all D l lv w S h hl hs).mono fun e w' g => ?_
  obtain ⟨ao, cap, he, g⟩ := g
  obtain ⟨h1, h2, S', h3, h4⟩ := g.out.1.qs
  rw [List.length_map] at h2
  exact ⟨ao, cap, he, h2, ⟨S', h3, h4⟩, g.out.2⟩
theorem items_sm {D : Nat} {l : List Vt} (hl : l.length ≤ 2513169434900) (hs : ∀ x ∈ l, SmT D x) : SmL (l.map (nm D true)) := by
  refine ⟨by simpa using hl, fun x hx => ?_⟩
  obtain ⟨y, hy, rfl⟩ := List.mem_map.1 hx
  exact ⟨D, nm_sm D true y (hs y hy)⟩
set_option maxRecDepth 100000 in
set_option maxHeartbeats 8000000 in
theorem ekeeps_walk {D : Nat} {l : List Vt} {aa ka : Option Addr} {cc kc : Nat} {kl : List (ByteArray × Int × Int)} {w : World} (h : VsAt w (fun _ => True) (D + 1) l (.slice aa l.length cc)) (hl : l.length ≤ 2513169434900) (hs : ∀ x ∈ l, SmT D x) (hk : KnAt w (fun _ => True) kl ka) (hkn : kl.length * 32 ≤ 140737488355328) (hks : ∀ x ∈ kl, x.1.size ≤ 140737488355328) (hT : Tb w) :
    Calls Tryz.prog 5 #[.slice aa l.length cc, .slice ka kl.length kc] w fun e w' => e = .returned (.bool true) ∧ Only (fun _ => False) w w' := by
  have HA : Hid (∀ w, Calls Tryz.prog 6 #[] w fun e w' => e = .returned (.bool true) ∧ Only (fun _ => False) w w') := awake_any
  have HI : Hid (∀ w1, Only (fun _ => False) w w1 → Calls Tryz.prog 8 #[.slice aa l.length cc] w1 (ItP D l w1)) := fun w1 o1 => itemsOf_any (h.only o1) hl hs
  have HK : Hid (∀ w1, Only (fun _ => False) w w1 → Calls Tryz.prog 13 #[.slice ka kl.length kc] w1 fun e w' => ∃ a c, e = .returned (.slice a kl.length c) ∧ Hid (KrAt w' w1.heap.size (.slice a kl.length c) kl ∧ Only (fun _ => False) w1 w')) := fun w1 o1 => known_any (hk.only o1 (fun _ _ e => e)) hkn
  have hll : (l.map (nm D true)).length = l.length := List.length_map _
  have HO : Hid (∀ w1 w2 ao cap a c, (∃ S, QsAt w1 S (2 * D + 2) (l.map (nm D true)) ao ∧ ∀ b, S b → b < w1.heap.size) → l.length ≤ cap → KnAt w2 (fun b => b < w2.heap.size) kl a → Only (fun _ => False) w w2 → Only (fun _ => False) w1 w2 → Calls Tryz.prog 9 #[.slice ao l.length cap, .slice a kl.length c] w2 (OfP (oF (2 * D + 2) (l.map (nm D true)) kl) w2)) := fun w1 w2 ao cap a c ⟨S, q1, q2⟩ hc hk2 o1 o2 => by
    have := of_any (cap := cap) (kc := c) (q1.only o2 (fun _ _ e => e)) (by rw [hll]; exact hc) (items_sm hl hs) (fun b hb => by have := q2 b hb; have := o2.size; omega) hk2 (by omega) hks (hT.frame o1)
    rw [hll] at this
    exact this
  have HT : Hid (∀ w1 w2 ao cap, (∃ S, QsAt w1 S (2 * D + 2) (l.map (nm D true)) ao ∧ ∀ b, S b → b < w1.heap.size) → l.length ≤ cap → Only (fun _ => False) w1 w2 → Calls Tryz.prog 15 #[.slice ao l.length cap] w2 fun e w' => ∃ a2 c2, e = .returned (.slice a2 l.length c2) ∧ Hid ((∃ S, VsAt w' S (2 * D + 3) (l.map (nm D true)) (.slice a2 l.length c2)) ∧ Only (fun _ => False) w2 w')) := fun w1 w2 ao cap ⟨S, q1, q2⟩ hc o2 => by
    have := uitrees_any (2 * D + 2) (.slice ao (l.map (nm D true)).length cap) (l.map (nm D true)) w2 S ((q1.only o2 (fun _ _ e => e)).qi (by rw [hll]; exact hc)) (by rw [hll]; exact hl) (fun x hx => by
      obtain ⟨y, hy, rfl⟩ := List.mem_map.1 hx
      exact ⟨D, nm_nf D true y (hs y hy)⟩)
    rw [hll] at this
    exact this.mono fun e w' g => by
      obtain ⟨a2, c2, he, g⟩ := g
      exact ⟨a2, c2, he, g.out.1.evs, g.out.2⟩
  have HS : Hid (∀ w1 w2 w3 va vb, (∃ S, VsAt w1 S (2 * D + 3) (l.map (nm D true)) va) → (∃ S, VsAt w2 S (2 * D + 3) (l.map (nm D true)) vb) → Only (fun _ => False) w1 w3 → Only (fun _ => False) w2 w3 → Calls Tryz.prog 14 #[va, vb] w3 fun e w' => e = .returned (.bool true) ∧ Only (fun _ => False) w3 w') := fun w1 w2 w3 va vb ⟨S1, q1⟩ ⟨S2, q2⟩ o1 o2 => by
    have hsm2 : ∀ x ∈ l.map (nm D true), ∃ e, SmT e x := (items_sm hl hs).2
    have := (dsame_all (2 * D + 3)).1 (l.map (nm D true)) (l.map (nm D true)) va vb w3 S1 S2 (q1.only o1) (q2.only o2) (by rw [hll]; exact hl) (by rw [hll]; exact hl) hsm2 hsm2
    rw [show 2 * D + 3 - 1 = 2 * D + 2 by omega, esmL_self _ _ (fun x hx => by
      obtain ⟨y, hy, rfl⟩ := List.mem_map.1 hx
      exact esaV_self _ _ ((nm_lf D true y (hs y hy)).mono (by omega)))] at this
    exact this
  have HB : Hid (KnAt w (fun _ => True) kl ka ∧ kl.length * 32 ≤ 140737488355328) := ⟨hk, hkn⟩
  obtain ⟨R, hR⟩ : ∃ R, R = oF (2 * D + 2) (l.map (nm D true)) kl := ⟨_, rfl⟩
  rw [← hR] at HO
  obtain ⟨L, hL⟩ : ∃ L, L = l.length := ⟨_, rfl⟩
  obtain ⟨KL, hKL⟩ : ∃ L, L = kl.length := ⟨_, rfl⟩
  rw [← hL] at HI HO HT ⊢
  rw [← hKL] at HK HO ⊢
  have HLL : Hid (L = l.length ∧ KL = kl.length) := ⟨hL, hKL⟩
  clear h hl hs hk hkn hks hT hll hR hL hKL
  go_enter Tryz.func5, Tryz.ntmps5
  go_wp2_with fail
  refine (show Calls Tryz.prog 6 _ _ _ from HA.out _).mono ?_
  rintro e w1 ⟨rfl, o1⟩
  have O1 : Hid (Only (fun _ => False) w w1) := o1
  have HC : Hid _ := HI.out w1 o1
  clear HA o1
  go_wp2_with fail
  refine (show Calls Tryz.prog 8 _ _ _ from HC.out).mono ?_
  rintro e w2 ⟨ao, cap, rfl, G2⟩
  clear HC
  have O2 : Hid (Only (fun _ => False) w w2 ∧ (∃ S, QsAt w2 S (2 * D + 2) (l.map (nm D true)) ao ∧ ∀ b, S b → b < w2.heap.size) ∧ L ≤ cap) := by
    obtain ⟨g1, ⟨S, g2, g3⟩, g4⟩ := G2.out
    exact ⟨O1.out.trans g4 (fun _ _ e => e), ⟨S, g2, fun b hb => (g3 b hb).2⟩, by rw [HLL.out.1]; exact g1⟩
  have HC : Hid _ := HK.out w2 O2.out.1
  have hle : l.length = L := HLL.out.1.symm
  rw [hle]
  clear O1 G2 HK hle
  go_wp2_with fail
  refine (show Calls Tryz.prog 13 _ _ _ from HC.out).mono ?_
  rintro e w3 ⟨a, c, rfl, G3⟩
  clear HC
  have O3 : Hid (Only (fun _ => False) w w3 ∧ Only (fun _ => False) w2 w3 ∧ KnAt w3 (fun b => b < w3.heap.size) kl a) := by
    have h9 := G3.out.1.kn.1
    exact ⟨O2.out.1.trans G3.out.2 (fun _ _ e => e), G3.out.2, fun j x hx => by
      obtain ⟨g, q, e1, e2, e3⟩ := h9 j x hx
      exact ⟨g, q, e1, e2.2, e3⟩⟩
  have HC : Hid _ := HO.out w2 w3 ao cap a c O2.out.2.1 O2.out.2.2 O3.out.2.2 O3.out.1 O3.out.2.1
  clear G3
  go_wp2_with fail
  refine (show Calls Tryz.prog 9 _ _ _ from HC.out).mono ?_
  rintro e w4 ⟨rfl, o4⟩
  clear HC
  have kn_on : ∀ w5, Only (fun _ => False) w3 w5 → KnAt w5 (fun b => b < w5.heap.size) kl a := fun w5 o5 j x hx => by
    obtain ⟨g, q, e1, e2, e3, e4, e5⟩ := O3.out.2.2 j x hx
    exact ⟨g, q, e1, by have := o5.size; omega, o5.cell e3 (fun e => e), o5.cell e4 (fun e => e), o5.cell e5 (fun e => e)⟩
  have oa : Only (fun _ => False) w3 (w4.alloc (.cells #[.int .i64 (R.1 : Int), .int .i64 (R.2.1 : Int)] 30)) := o4.alloc _
  have HC : Hid _ := HO.out w2 _ ao cap a c O2.out.2.1 O2.out.2.2 (kn_on _ oa) (O3.out.1.trans oa (fun _ _ e => e)) (O3.out.2.1.trans oa (fun _ _ e => e))
  have HKN : Hid (∀ w5, Only (fun _ => False) w3 w5 → KnAt w5 (fun b => b < w5.heap.size) kl a) := kn_on
  have O4 : Hid (Only (fun _ => False) w3 w4) := o4
  clear HO o4 oa kn_on
  go_wp2_with fail
  refine (show Calls Tryz.prog 9 _ _ _ from HC.out).mono ?_
  rintro e w5 ⟨rfl, o5⟩
  clear HC
  obtain ⟨x0, x1, -, -⟩ := wr2_cell (o5.at (ealloc_at w4 (.cells #[.int .i64 (R.1 : Int), .int .i64 (R.2.1 : Int)] 30) w4.heap.size rfl))
  have y0 : (w5.alloc (.cells #[.int .i64 (R.1 : Int), .int .i64 (R.2.1 : Int)] 30)).cell? ⟨w4.heap.size, 0, none⟩ = some (.int .i64 (R.1 : Int)) := ((Only.refl (fun _ => False) w5).alloc _).cell x0 (fun e => e)
  have y1 : (w5.alloc (.cells #[.int .i64 (R.1 : Int), .int .i64 (R.2.1 : Int)] 30)).cell? ⟨w4.heap.size, 1, none⟩ = some (.int .i64 (R.2.1 : Int)) := ((Only.refl (fun _ => False) w5).alloc _).cell x1 (fun e => e)
  have O5 : Hid (Only (fun _ => False) w3 (w5.alloc (.cells #[.int .i64 (R.1 : Int), .int .i64 (R.2.1 : Int)] 30))) := ((O4.out.alloc _).trans o5 (fun _ _ e => e)).alloc _
  clear o5 x0 x1 O4
  obtain ⟨r0, r1, r2⟩ := R
  simp only at y0 y1 O5 ⊢
  go_wp2
  clear y0 y1
  go_loopw [11] (fun r11 wr => ∃ (j : Nat), r11 = .int .i64 (j : Int) ∧ j ≤ KL ∧ Hid (Only (fun _ => False) w3 wr)) (fun r11 _ => KL - vuOf r11)
  case atStart => exact ⟨0, rfl, Nat.zero_le _, O5.out⟩
  case round =>
    obtain ⟨j, rfl, hj, HJ⟩ := hrel
    obtain ⟨w6, hw6⟩ : ∃ w6, w6 = wr := ⟨_, rfl⟩
    rw [← hw6] at HJ ⊢
    clear hw6 O5
    have hKl := HLL.out.2
    have hKb := HB.out.2
    by_cases hjL : j < KL
    · obtain ⟨x, hx⟩ : ∃ x, kl[j]? = some x := ⟨kl[j]'(by omega), List.getElem?_eq_getElem (by omega)⟩
      obtain ⟨g, q, rfl, -, c0, c1, c2⟩ := HKN.out w6 HJ.out j x hx
      obtain ⟨g', q', rfl, -, d0, d1, d2⟩ := (HB.out.1.only (O3.out.1.trans HJ.out (fun _ _ e => e)) (fun _ _ e => e)) j x hx
      have HX : Hid (j < KL) := hjL
      obtain ⟨nm, a', b'⟩ := x
      simp only at c0 c1 c2 d0 d1 d2
      have i1 : (j : Int) < (KL : Int) := by omega
      have i0 : (0 : Int) ≤ (j : Int) := by omega
      have i4 : j ≤ 4398046511104 := by omega
      have HSW : Hid (∀ w', Only (fun _ => False) w6 w' → w'.cell? ⟨g, q + j * 3, none⟩ = some (.string nm) ∧ w'.cell? ⟨g, q + j * 3 + 1, none⟩ = some (.int .i64 a') ∧ w'.cell? ⟨g, q + j * 3 + 2, none⟩ = some (.int .i64 b') ∧ w'.cell? ⟨g', q' + j * 3, none⟩ = some (.string nm) ∧ w'.cell? ⟨g', q' + j * 3 + 1, none⟩ = some (.int .i64 a') ∧ w'.cell? ⟨g', q' + j * 3 + 2, none⟩ = some (.int .i64 b')) := fun w' o => ⟨o.cell c0 (fun e => e), o.cell c1 (fun e => e), o.cell c2 (fun e => e), o.cell d0 (fun e => e), o.cell d1 (fun e => e), o.cell d2 (fun e => e)⟩
      have c2' : w6.cell? ⟨g, q + j * 3 + 2, none⟩ = some (.int .i64 b') := c2
      have d2' : w6.cell? ⟨g', q' + j * 3 + 2, none⟩ = some (.int .i64 b') := d2
      have hbe : (nm.toList == nm.toList) = true := by simp
      clear hx hKl hKb hjL hj
      go_wp2_with fail
      go_quiet (fail)
      have HJ7 : Hid (Only (fun _ => False) w3 (w6.drewN nq)) := ⟨HJ.out.os, HJ.out.tape, HJ.out.output, HJ.out.size, HJ.out.block⟩
      obtain ⟨w7, hw7⟩ : ∃ w7, w7 = w6.drewN nq := ⟨_, rfl⟩
      rw [← hw7] at HJ7 ⊢
      clear hw7 HSW c0 c1 c2 c2' d0 d1 d2 d2' hbe HJ
      go_wp2
      go_roundw
      case rel => exact ⟨j + 1, by go_num, by have := HX.out; omega, HJ7⟩
      case measure => simp only [vuOf]; have := HX.out; omega
    · obtain rfl : j = KL := by omega
      have i1 : ¬ (j : Int) < (j : Int) := by omega
      have HC : Hid _ := HT.out w2 w6 ao cap O2.out.2.1 O2.out.2.2 (O3.out.2.1.trans HJ.out (fun _ _ e => e))
      clear hKl hKb hjL hj HKN
      go_wp2_with fail
      refine (show Calls Tryz.prog 15 _ _ _ from HC.out).mono ?_
      rintro e w7 ⟨a7, c7, rfl, G7⟩
      clear HC
      have O7 : Hid (Only (fun _ => False) w w7) := (O3.out.1.trans HJ.out (fun _ _ e => e)).trans G7.out.2 (fun _ _ e => e)
      have HC : Hid _ := HI.out w7 O7.out
      clear HI HJ
      go_wp2_with fail
      refine (show Calls Tryz.prog 8 _ _ _ from HC.out).mono ?_
      rintro e w8 ⟨ao8, cap8, rfl, G8⟩
      clear HC
      have O8 : Hid (Only (fun _ => False) w7 w8 ∧ (∃ S, QsAt w8 S (2 * D + 2) (l.map (nm D true)) ao8 ∧ ∀ b, S b → b < w8.heap.size) ∧ L ≤ cap8) := by
        obtain ⟨g1, ⟨S, g2, g3⟩, g4⟩ := G8.out
        exact ⟨g4, ⟨S, g2, fun b hb => (g3 b hb).2⟩, by rw [HLL.out.1]; exact g1⟩
      have hle : l.length = L := HLL.out.1.symm
      rw [hle]
      have HC : Hid _ := HT.out w8 w8 ao8 cap8 O8.out.2.1 O8.out.2.2 (Only.refl _ _)
      clear HT G8 hle
      go_wp2_with fail
      refine (show Calls Tryz.prog 15 _ _ _ from HC.out).mono ?_
      rintro e w9 ⟨a9, c9, rfl, G9⟩
      clear HC
      have HC : Hid _ := HS.out w7 w9 w9 (.slice a7 L c7) (.slice a9 L c9) G7.out.1 G9.out.1 (O8.out.1.trans G9.out.2 (fun _ _ e => e)) (Only.refl _ _)
      have O9 : Hid (Only (fun _ => False) w w9) := (O7.out.trans O8.out.1 (fun _ _ e => e)).trans G9.out.2 (fun _ _ e => e)
      clear HS G7 G9 O7 O8
      go_wp2_with fail
      refine (show Calls Tryz.prog 14 _ _ _ from HC.out).mono ?_
      rintro e w10 ⟨rfl, o10⟩
      have O10 : Hid (Only (fun _ => False) w w10) := O9.out.trans o10 (fun _ _ e => e)
      clear HC o10 O9
      go_wp2
      go_ret
      exact ⟨rfl, O10.out⟩
end Go.Proofs.YtodbkihobgdpdaaGreatDoor
namespace Go.Proofs.YtodbkihobgdpdaaGreatDoor
open Go.RowKit Go.ChangeShapes Go.WideShapes
set_option linter.unusedVariables false
set_option linter.unusedSimpArgs false
theorem kthree {α : Type} : ∀ (l : List α), l.length = 3 → ∃ a b c, l = [a, b, c]
  | [a, b, c], _ => ⟨a, b, c, rfl⟩
theorem kbytes : Tryz.prog.bytesOf 50 = 32 := by kernel_rfl
theorem kcells : Tryz.prog.cellsOf 50 = 3 := by kernel_rfl
section
variable {H : Type} {enc : TypeId × Value → H} {w : World} {base : Nat} {held : Bool}
theorem kweights_mem : ∀ (l : List (DataW H)) (d : DataW H), d ∈ l → (DataW.weightsAll Tryz.prog 50 l).all (· ≤ reachBytes) = true → (d.weights Tryz.prog 50).all (· ≤ reachBytes) = true
  | [], _, h, _ => by cases h
  | a :: r, d, h, g => by
    simp only [DataW.weightsAll, List.all_append, Bool.and_eq_true] at g
    rcases List.mem_cons.1 h with rfl | h
    · exact g.1
    · exact kweights_mem r d h g.2
theorem read_k {fuel : Nat} {cs : List Value} {x : DataW H × List MemPlace} (h : DataW.trod enc Tryz.prog w base (fun _ => true) held fuel 50 cs = some x) (hb : (x.1.weights Tryz.prog 50).all (· ≤ reachBytes) = true) : ∃ (y : ByteArray × Int × Int), cs = [.string y.1, .int .i64 y.2.1, .int .i64 y.2.2] ∧ y.1.size ≤ 140737488355328 := by
  obtain ⟨xs, n, hn, rfl, hl, hxl, hf⟩ := DataW.trod_struct Tryz.underlying50 h
  rw [kcells] at hl
  obtain ⟨c0, c1, c2, rfl⟩ := kthree cs hl
  obtain ⟨y0, y1, y2, rfl⟩ := kthree xs hxl
  have g0 : DataW.trod enc Tryz.prog w base (fun _ => true) held n 9 (([c0, c1, c2].drop 0).take (Tryz.prog.cellsOf 9)) = some y0 := hf 0 _ rfl
  have g1 : DataW.trod enc Tryz.prog w base (fun _ => true) held n 3 (([c0, c1, c2].drop 1).take (Tryz.prog.cellsOf 3)) = some y1 := hf 1 _ rfl
  have g2 : DataW.trod enc Tryz.prog w base (fun _ => true) held n 3 (([c0, c1, c2].drop 2).take (Tryz.prog.cellsOf 3)) = some y2 := hf 2 _ rfl
  rw [vcellsI] at g1 g2
  rw [vcellsS] at g0
  simp only [List.drop_succ_cons, List.drop_zero, List.take_succ_cons, List.take_zero] at g0 g1 g2
  obtain ⟨s, e0, hs0, _⟩ := DataW.trod_string Tryz.underlying9 g0
  obtain ⟨n1, e1, _, w1⟩ := DataW.trod_int Tryz.underlying3 g1
  obtain ⟨n2, e2, _, w2⟩ := DataW.trod_int Tryz.underlying3 g2
  simp only [List.cons.injEq, and_true] at e0 e1 e2
  subst e0 e1 e2
  have hb' : (DataW.weights Tryz.prog 9 y0.1).all (· ≤ reachBytes) = true := by
    simp only [DataW.weights, Tryz.underlying50, List.map_cons, List.map_nil, DataW.weightsEach, List.all_append, Bool.and_eq_true] at hb
    exact hb.1
  have hr : reachBytes = 140737488351232 := rfl
  refine ⟨(s, n1, n2), rfl, ?_⟩
  rw [hs0] at hb'
  simp only [DataW.weights, List.all_cons, List.all_nil, Bool.and_true, decide_eq_true_eq] at hb'
  have : s.data.toList.length = s.size := Array.length_toList
  show s.size ≤ _
  omega
theorem read_kn (fuel : Nat) {aa : Option Addr} {ll cc : Nat} {x : DataW H × List MemPlace} (h : DataW.trod enc Tryz.prog w base (fun _ => true) held fuel 44 [.slice aa ll cc] = some x) (hb : (x.1.weights Tryz.prog 44).all (· ≤ reachBytes) = true) : ∃ kl : List (ByteArray × Int × Int), ll = kl.length ∧ kl.length * 32 ≤ 140737488355328 ∧ (∀ x ∈ kl, x.1.size ≤ 140737488355328) ∧ KnAt w (fun _ => True) kl aa := by
  have hr : reachBytes = 140737488351232 := rfl
  rcases DataW.trod_slice Tryz.underlying44 h with ⟨hcs, _⟩ | ⟨a, len, cap, elems, rest, m, hm, hcs, hx, _, hlc, _, hel, hget, _, _⟩
  · simp only [List.cons.injEq, and_true] at hcs
    injection hcs with h1 h2 h3
    exact ⟨[], h2, Nat.zero_le _, (fun x hx => by cases hx), fun j x hx => by simp at hx⟩
  · simp only [List.cons.injEq, and_true] at hcs
    injection hcs with h1 h2 h3
    subst h1 h2 h3
    have hb3 : (elems.length + rest.length) * 32 ≤ reachBytes ∧ (DataW.weightsAll Tryz.prog 50 (elems.map (·.1))).all (· ≤ reachBytes) = true := by
      have h1 := hb
      rw [hx] at h1
      simp only [DataW.weights, Tryz.underlying44, List.all_cons, List.all_append, Bool.and_eq_true, decide_eq_true_eq, kbytes, List.length_map] at h1
      exact ⟨h1.1, h1.2.1⟩
    obtain ⟨ts, htl, hts⟩ := vexists_list ll (fun i (y : ByteArray × Int × Int) => (∀ j v, ([.string y.1, .int .i64 y.2.1, .int .i64 y.2.2] : List Value)[j]? = some v → w.cell? (a.add (i * 3 + j)) = some v) ∧ y.1.size ≤ 140737488355328) (fun i hi => by
      have h1 := hget i hi
      rw [kcells] at h1
      have hie : i < elems.length := by omega
      rw [List.getElem?_eq_getElem hie] at h1
      obtain ⟨cs', h2, h3⟩ := Option.bind_eq_some_iff.1 h1
      have hbi : ((elems[i]).1.weights Tryz.prog 50).all (· ≤ reachBytes) = true := kweights_mem (elems.map (·.1)) (elems[i]).1 (List.mem_map.2 ⟨_, List.getElem_mem hie, rfl⟩) hb3.2
      obtain ⟨y, hc, q1⟩ := read_k h3 hbi
      refine ⟨y, fun j v hv => ?_, q1⟩
      rw [← hc] at hv
      rw [← Deep.add_add]
      exact (vcells_get h2).2 j v hv)
    refine ⟨ts, htl.symm, by omega, fun x hx => ?_, fun i x hx => ?_⟩
    · obtain ⟨i, hi, rfl⟩ := List.getElem_of_mem hx
      exact (hts i hi).2
    · obtain ⟨hi, rfl⟩ := List.getElem?_eq_some_iff.1 hx
      have q1 := (hts i hi).1
      have p0 := q1 0 _ rfl
      have p1 := q1 1 _ rfl
      have p2 := q1 2 _ rfl
      have h0 : 0 < ts.length := by omega
      have hsp := World.cell?_spot ((hts 0 h0).1 0 _ rfl)
      obtain ⟨g, o, spot⟩ := a
      have hs0 : spot = none := by simpa [Addr.add] using hsp
      subst hs0
      rw [Addr.add_mid] at p0 p1 p2
      exact ⟨g, o, rfl, trivial, p0, by rw [Nat.add_assoc]; exact p1, by rw [Nat.add_assoc, Nat.add_assoc]; exact p2⟩
end
end Go.Proofs.YtodbkihobgdpdaaGreatDoor
