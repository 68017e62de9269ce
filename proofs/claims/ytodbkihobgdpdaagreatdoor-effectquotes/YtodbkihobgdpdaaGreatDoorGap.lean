/- law09.known: words of package api. One effect behind another: the law's walk. EffectKeeps: the walk. Items that know no quotation: what an inference makes of them. EffectJoins: simple; items that are kept; pieces of a row of items. -/
import Derived.Test.YtodbkihobgdpdaaGreatDoorGao
import Derived.Test.YtodbkihobgdpdaaGreatDoorEf5
import Derived.Test.YtodbkihobgdpdaaGreatDoorGag
import Derived.Test.YtodbkihobgdpdaaGreatDoorGai
import Derived.Deep.RegionHeld3
namespace Go.Proofs.YtodbkihobgdpdaaGreatDoor
open Go.RowKit Go.Lib
set_option linter.unusedSimpArgs false
set_option linter.unusedVariables false
set_option maxRecDepth 100000 in
theorem kn_info : ∃ i z, Tryz.prog.info? 48 = some i ∧ i.zero = some z ∧ i.size = 3 ∧ i.bytes = 32 ∧ z.cells.size = 3 := ⟨_, _, rfl, rfl, rfl, rfl, rfl⟩
/-- a row of known words of one's own -/
def KrAt (w : World) (B : Nat) (v : Value) (kl : List (ByteArray × Int × Int)) : Prop := w.ownsRow B 48 3 v kl.length (kl.flatMap fun x => [.string x.1, .int .i64 x.2.1, .int .i64 x.2.2])
theorem kr_len (kl : List (ByteArray × Int × Int)) : (kl.flatMap fun x => ([.string x.1, .int .i64 x.2.1, .int .i64 x.2.2] : List Value)).length = kl.length * 3 := by
  induction kl with
  | nil => rfl
  | cons x r ih => simp only [List.flatMap_cons, List.length_append, ih, List.length_cons, List.length_nil]; omega
theorem kr_get : ∀ (kl : List (ByteArray × Int × Int)) (j : Nat) (x : ByteArray × Int × Int), kl[j]? = some x → (kl.flatMap fun x => ([.string x.1, .int .i64 x.2.1, .int .i64 x.2.2] : List Value))[j * 3]? = some (.string x.1) ∧ (kl.flatMap fun x => ([.string x.1, .int .i64 x.2.1, .int .i64 x.2.2] : List Value))[j * 3 + 1]? = some (.int .i64 x.2.1) ∧ (kl.flatMap fun x => ([.string x.1, .int .i64 x.2.1, .int .i64 x.2.2] : List Value))[j * 3 + 1 + 1]? = some (.int .i64 x.2.2)
  | [], j, x, h => by simp at h
  | y :: r, 0, x, h => by
    simp at h
    subst h
    exact ⟨rfl, rfl, rfl⟩
  | y :: r, j + 1, x, h => by
    have ih := kr_get r j x (by simpa using h)
    have e : ∀ k, ((y :: r).flatMap fun x => ([.string x.1, .int .i64 x.2.1, .int .i64 x.2.2] : List Value))[k + 3]? = (r.flatMap fun x => ([.string x.1, .int .i64 x.2.1, .int .i64 x.2.2] : List Value))[k]? := fun k => by
      simp only [List.flatMap_cons]
      rw [List.getElem?_append_right (by simp)]
      simp
    rw [show (j + 1) * 3 = j * 3 + 3 by omega, show j * 3 + 3 + 1 = (j * 3 + 1) + 3 by omega, show j * 3 + 1 + 3 + 1 = (j * 3 + 1 + 1) + 3 by omega, e, e, e]
    exact ih
theorem KrAt.kn {w : World} {B : Nat} {a : Option Addr} {n c : Nat} {kl : List (ByteArray × Int × Int)} (h : KrAt w B (.slice a n c) kl) : KnAt w (fun b => B ≤ b ∧ b < w.heap.size) kl a ∧ n = kl.length := by
  have hn : n = kl.length := by
    obtain ⟨a', c', e⟩ := ownsRow_slice h
    injection e
  refine ⟨fun j x hx => ?_, hn⟩
  rcases h.2 with ⟨h1, h2⟩ | ⟨g, cap, cur, hv, hgs, hgc, hr⟩
  · have := (List.getElem?_eq_some_iff.1 hx).1
    omega
  · injection hv with hv
    have hc := fun j u hu => h.cells (g := g) (by rw [hv]; rfl) j u hu
    obtain ⟨e0, e1, e2⟩ := kr_get kl j x hx
    have q0 := hc _ _ e0
    have q1 := hc _ _ e1
    have q2 := hc _ _ e2
    rw [addr_ad] at q0 q1 q2
    refine ⟨g, 0, hv, ⟨hgs, (Array.getElem?_eq_some_iff.1 hgc).1⟩, ?_, ?_, ?_⟩
    · rw [Nat.zero_add]; exact q0
    · rw [Nat.zero_add]; exact q1
    · rw [Nat.zero_add]; exact q2
set_option maxRecDepth 100000 in
set_option maxHeartbeats 4000000 in
theorem known_any {w : World} {K : Nat → Prop} {kl : List (ByteArray × Int × Int)} {ka : Option Addr} {kc : Nat} (h : KnAt w K kl ka) (hn : kl.length * 32 ≤ 140737488355328) : Calls Tryz.prog 13 #[.slice ka kl.length kc] w fun e w' => ∃ a c, e = .returned (.slice a kl.length c) ∧ Hid (KrAt w' w.heap.size (.slice a kl.length c) kl ∧ Only (fun _ => False) w w') := by
  obtain ⟨L, hL⟩ : ∃ L, L = kl.length := ⟨_, rfl⟩
  rw [← hL]
  have HH : Hid (KnAt w K kl ka ∧ L = kl.length ∧ L * 32 ≤ 140737488355328) := ⟨h, hL, by omega⟩
  clear h hn hL
  go_enter Tryz.func13, Tryz.ntmps13
  go_wp2
  go_loopw [3, 4] (fun r3 r4 wr => ∃ (j : Nat) (a' : Option Addr) (c' : Nat), r4 = .int .i64 (j : Int) ∧ j ≤ L ∧ r3 = .slice a' j c' ∧ Hid (KrAt wr w.heap.size (.slice a' j c') (kl.take j) ∧ Only (fun _ => False) w wr)) (fun _ r4 _ => L - vuOf r4)
  case atStart => exact ⟨0, none, 0, rfl, Nat.zero_le _, rfl, World.ownsRow_nil _ _ _ _, Only.refl _ _⟩
  case round =>
    obtain ⟨j, a', c', rfl, hj, rfl, HI⟩ := hrel
    obtain ⟨w1, hw1⟩ : ∃ w1, w1 = wr := ⟨_, rfl⟩
    rw [← hw1] at HI ⊢
    clear hw1
    obtain ⟨hk, hLl, hLb⟩ := HH.out
    by_cases hjL : j < L
    · obtain ⟨x, hx⟩ : ∃ x, kl[j]? = some x := ⟨kl[j]'(by omega), List.getElem?_eq_getElem (by omega)⟩
      obtain ⟨g, q, rfl, hg, c0, c1, c2⟩ := (hk.only HI.out.2 (fun _ _ e => e)) j x hx
      have HX : Hid (kl[j]? = some x ∧ j < L) := ⟨hx, hjL⟩
      obtain ⟨nm, a, b⟩ := x
      simp only at c0 c1 c2
      have i1 : (j : Int) < (L : Int) := by omega
      have i0 : (0 : Int) ≤ (j : Int) := by omega
      have i4 : j ≤ 4398046511104 := by omega
      obtain ⟨W2, hW2⟩ : ∃ X, X = (w1.alloc (.cells #[.string nm, .int .i64 a, .int .i64 b] 48)).drew := ⟨_, rfl⟩
      have o2 : Only (fun _ => False) w1 W2 := by rw [hW2]; exact ((Only.refl _ _).alloc _).drew
      have b2 : W2.heap[w1.heap.size]? = some (.cells #[.string nm, .int .i64 a, .int .i64 b] 48) := by rw [hW2]; exact ealloc_at w1 _ _ rfl
      obtain ⟨ii, zz, hi, hz0, hz1, hz2, hz3⟩ := kn_info
      have hown : W2.ownsRow w.heap.size 48 3 (.slice a' j c') j ((kl.take j).flatMap fun x => [.string x.1, .int .i64 x.2.1, .int .i64 x.2.2]) := by
        have := o2.owns HI.out.1 (fun _ _ e => e)
        rwa [show (kl.take j).length = j by simp; omega] at this
      have hsz := HI.out.2.size
      have hsz2 := o2.size
      have key := fun ty => run_append_own_at (P := Tryz.prog) W2 w.heap.size 45 ty 48 ii zz 3 32 Tryz.underlying45 hi hz0 hz1 hz2 hz3 (by omega) (.slice a' j c') j _ hown ⟨w1.heap.size, 0, none⟩ 1 1 [.string nm, .int .i64 a, .int .i64 b] rfl (by
          intro k u hk2
          rw [addr_ad, vblk_cells b2]
          simpa using hk2) (by
          intro u hu
          simp only [List.mem_cons, List.not_mem_nil, or_false] at hu
          rcases hu with rfl | rfl | rfl
          · rfl
          · rfl
          · rfl) (by unfold maxLen; omega) (by omega) (by omega)
      obtain ⟨v', w3, hr, own3, hg3, _, hat⟩ := key 0
      obtain ⟨a3, c3, hv3⟩ := ownsRow_slice own3
      subst hv3
      have HR : Hid (∀ ty, (Builtin.append_ #[45, 45] ty #[.slice a' j c', .slice (some ⟨w1.heap.size, 0, none⟩) 1 1]).run Tryz.prog ((w1.alloc (.cells #[.string nm, .int .i64 a, .int .i64 b] 48)).drew) = .ok (.slice a3 (j + 1) c3) w3) := fun ty => by rw [← hW2, ← hr]; rfl
      have HF : Hid (KrAt w3 w.heap.size (.slice a3 (j + 1) c3) (kl.take (j + 1)) ∧ Only (fun _ => False) w w3) := by
        refine ⟨?_, (HI.out.2.trans o2 (fun _ _ e => e)).trans ((Only.refl (fun k => (Value.slice a' j c').ownBlock = some k) W2).grown hg3 (fun k e _ => e)) (fun k hk e => by have := (hown.lt k e).1; omega)⟩
        unfold KrAt
        rw [show (kl.take (j + 1)).length = j + 1 by have := (List.getElem?_eq_some_iff.1 HX.out.1).1; simp; omega, List.take_add_one, HX.out.1]
        simpa using own3
      have d0 : ∀ ob, (w1.alloc ob).cell? ⟨g, q + j * 3, none⟩ = some (.string nm) := fun ob => ((Only.refl (fun _ => False) w1).alloc ob).cell c0 (fun e => e)
      have d1 : ∀ ob, (w1.alloc ob).cell? ⟨g, q + j * 3 + 1, none⟩ = some (.int .i64 a) := fun ob => ((Only.refl (fun _ => False) w1).alloc ob).cell c1 (fun e => e)
      have d2 : ∀ ob, (w1.alloc ob).cell? ⟨g, q + j * 3 + 1 + 1, none⟩ = some (.int .i64 b) := fun ob => ((Only.refl (fun _ => False) w1).alloc ob).cell c2 (fun e => e)
      have c2' : w1.cell? ⟨g, q + j * 3 + 2, none⟩ = some (.int .i64 b) := c2
      have d2' : ∀ ob, (w1.alloc ob).cell? ⟨g, q + j * 3 + 2, none⟩ = some (.int .i64 b) := d2
      clear hx hk hLl hLb hjL hj hg o2 b2 hown hsz hsz2 hr own3 hg3 hat hW2 hi hz0 hz1 hz2 hz3 HI key
      go_wp2_with fail
      go_region_law (refine vstep_append_run (by rfl) _ _ 45 (by rfl) _ _ (.slice a3 (j + 1) c3) (by rfl) (by rfl) HR.out ?_)
      all_goals
        go_wp2
        go_roundw
        case rel => exact ⟨j + 1, a3, c3, by go_num, by have := HX.out.2; omega, rfl, HF⟩
        case measure => simp only [vuOf]; have := HX.out.2; omega
    · obtain rfl : j = L := by omega
      have i1 : ¬ (j : Int) < (j : Int) := by omega
      have F9 : Hid (KrAt w1 w.heap.size (.slice a' j c') kl ∧ Only (fun _ => False) w w1) := by
        have := HI.out
        rwa [show kl.take j = kl from by rw [hLl]; exact List.take_length] at this
      clear HI hk hLl hLb hjL hj HH
      go_wp2
      go_ret
      exact ⟨a', c', rfl, F9.out⟩
end Go.Proofs.YtodbkihobgdpdaaGreatDoor
namespace Go.Proofs.YtodbkihobgdpdaaGreatDoor
open Go.RowKit
set_option linter.unusedSimpArgs false
set_option linter.unusedVariables false
set_option maxRecDepth 100000 in
theorem awake_any (w : World) : Calls Tryz.prog 6 #[] w fun e w' => e = .returned (.bool true) ∧ Only (fun _ => False) w w' := by
  have HP : Hid (∀ w1, Calls Tryz.prog 16 #[.string ⟨#[100, 117, 112]⟩] w1 fun e w' => e = .returned (.tuple #[.agg #[.int .i64 1, .int .i64 2], .bool true]) ∧ Only (fun _ => False) w1 w') := fun w1 => by
    have := prim_any ⟨#[100, 117, 112]⟩ w1
    rwa [show pmR ⟨#[100, 117, 112]⟩ = (1, 2, true) from by kernel_rfl] at this
  go_enter Tryz.func6, Tryz.ntmps6
  go_wp2_with fail
  refine (show Calls Tryz.prog 16 _ _ _ from HP.out _).mono ?_
  rintro e w1 ⟨rfl, o1⟩
  have O1 : Hid (Only (fun _ => False) w w1) := o1
  clear HP o1
  go_wp2
  all_goals
    go_ret
    refine ⟨rfl, ?_⟩
    exact O1.out.alloc _
theorem thR_cases (a b c d : Int) : ∃ i o k, thR a b c d = (i, o, k) ∧ ((k = 0 ∧ (0 ≤ a ∧ a ≤ 16 ∧ 0 ≤ b ∧ b ≤ 16) ∧ (0 ≤ c ∧ c ≤ 16 ∧ 0 ≤ d ∧ d ≤ 16) ∧ (0 ≤ i ∧ i ≤ 16 ∧ 0 ≤ o ∧ o ≤ 16) ∧ i = a + max 0 (c - b) ∧ o = d + max 0 (b - c)) ∨ k = 2 ∨ k = 11) := by
  unfold thR
  cases h1 : bdB a b with
  | false => exact ⟨_, _, _, rfl, .inr (.inl rfl)⟩
  | true =>
    cases h2 : bdB c d with
    | false => exact ⟨_, _, _, rfl, .inr (.inl rfl)⟩
    | true =>
      cases h3 : bdB (a + max 0 (c - b)) (d + max 0 (b - c)) with
      | false => exact ⟨0, 0, 11, by simp, .inr (.inr rfl)⟩
      | true => exact ⟨_, _, _, by simp, .inl ⟨rfl, of_decide_eq_true h1, of_decide_eq_true h2, of_decide_eq_true h3, rfl, rfl⟩⟩
def Th (a b c d i o k : Int) : Prop := thR a b c d = (i, o, k) ∧ ((k = 0 ∧ (0 ≤ a ∧ a ≤ 16 ∧ 0 ≤ b ∧ b ≤ 16) ∧ (0 ≤ c ∧ c ≤ 16 ∧ 0 ≤ d ∧ d ≤ 16) ∧ (0 ≤ i ∧ i ≤ 16 ∧ 0 ≤ o ∧ o ≤ 16) ∧ i = a + max 0 (c - b) ∧ o = d + max 0 (b - c)) ∨ k = 2 ∨ k = 11)
theorem thR_nil {a b : Int} (h : 0 ≤ a ∧ a ≤ 16 ∧ 0 ≤ b ∧ b ≤ 16) : thR a b 0 0 = (a, b, 0) := by
  have e1 : bdB a b = true := decide_eq_true h
  have e2 : bdB 0 0 = true := rfl
  unfold thR
  rw [e1, e2, show a + max 0 (0 - b) = a by omega, show (0 : Int) + max 0 (b - 0) = b by omega, e1]
  rfl
/-- effects in blocks -/
def Bx (w : World) (l : List (Nat × Int × Int)) : Prop := ∀ x ∈ l, TwC w x.1 x.2.1 x.2.2
theorem Bx.on {w w1 : World} {l : List (Nat × Int × Int)} (h : Bx w l) (o : Only (fun _ => False) w w1) : Bx w1 l := fun x hx => o.at (h x hx)
theorem Bx.new {w : World} {l : List (Nat × Int × Int)} (h : Bx w l) (x y : Int) : Bx (w.alloc (.cells #[.int .i64 x, .int .i64 y] 30)) (l ++ [(w.heap.size, x, y)]) := fun z hz => by
  rw [List.mem_append] at hz
  rcases hz with hz | hz
  · exact alloc_old (h z hz)
  · simp only [List.mem_singleton] at hz
    subst hz
    exact ealloc_at _ _ _ rfl
theorem Bx.nil (w : World) : Bx w [] := fun x hx => by simp at hx
end Go.Proofs.YtodbkihobgdpdaaGreatDoor
namespace Go.Proofs.YtodbkihobgdpdaaGreatDoor
open Go.RowKit Go.Lib
set_option linter.unusedSimpArgs false
set_option linter.unusedVariables false
theorem RiAt.qs {w : World} {B d n cap : Nat} {T : TypeId} {ao : Option Addr} {l : List Vt} (h : RiAt w B T d true (.slice ao n cap) l) : n = l.length ∧ l.length ≤ cap ∧ ∃ S, QsAt w S d l ao ∧ ∀ b, S b → B ≤ b ∧ b < w.heap.size := by
  obtain ⟨us, S, ho, ht, hS⟩ := h
  rcases ho.2 with ⟨h1, h2⟩ | ⟨g, c, cur, hv, hB, hg, hn, hcm, hcs, htk⟩
  · injection h1 with h3 h4 h5
    have hl : l = [] := by simpa using h2
    subst hl
    exact ⟨h4, Nat.zero_le _, fun _ => False, fun j x hx => by simp at hx, fun b hb => hb.elim⟩
  · have hv2 := hv
    injection hv2 with h3 h4 h5
    refine ⟨h4, by omega, fun b => S b ∨ b = g, fun j x hx => ?_, fun b hb => ?_⟩
    · obtain ⟨u, e1, e2⟩ := ht j x hx
      have hc := ho.cells (g := g) (by rw [hv]; rfl) j u e1
      rw [addr_ad] at hc
      exact ⟨g, 0, u, h3, .inr rfl, by rw [Nat.zero_add]; exact hc, e2.step (fun _ q => .inl q) (fun _ _ _ q => q) (Nat.le_refl _)⟩
    · rcases hb with hb | rfl
      · exact ⟨(hS b hb).1, (hS b hb).2.1⟩
      · exact ⟨hB, (Array.getElem?_eq_some_iff.1 hg).1⟩
theorem QsAt.qi {w : World} {S : Nat → Prop} {d cap : Nat} {l : List Vt} {ao : Option Addr} (h : QsAt w S d l ao) (hc : l.length ≤ cap) : QiAt w S d true (.slice ao l.length cap) l := ⟨ao, cap, rfl, hc, h⟩
theorem esmL_self (f : Vt → Vt → Bool) : ∀ (l : List Vt), (∀ x ∈ l, f x x = true) → smL f l l = true
  | [], _ => rfl
  | t :: l, h => by
    have h1 := h t (List.mem_cons_self ..)
    have h2 := esmL_self f l (fun x hx => h x (List.mem_cons_of_mem _ hx))
    simp only [smL, h1, h2, Bool.and_true]
theorem esaV_self : ∀ (d : Nat) (t : Vt), LfT d t → saV d t t = true
  | 0, _, h => h.elim
  | d + 1, t, h => by
    have h1 : smL (saV d) t.l t.l = true := esmL_self _ _ (fun x hx => esaV_self d x (h.2 x hx))
    have h2 : saL t.k t.n t.n t.s t.s = true := by
      unfold saL
      split
      · simp
      split
      · simp
      split
      · simp
      · rfl
    simp only [saV, h1, h2, decide_true, Bool.and_true]
theorem UrAt.evs {w : World} {B d : Nat} {v : Value} {l : List Vt} (h : UrAt w B d v l) : ∃ S, VsAt w S (d + 1) l v := by
  obtain ⟨S, h1, _⟩ := h.tree (t := ⟨0, 0, ⟨#[]⟩, l⟩) rfl
  exact ⟨S, h1⟩
/-- what law07.ItemsOf makes of trees -/
def ItP (D : Nat) (l : List Vt) (w : World) (e : Ending) (w' : World) : Prop := ∃ ao cap, e = .returned (.slice ao l.length cap) ∧ Hid (l.length ≤ cap ∧ (∃ S, QsAt w' S (2 * D + 2) (l.map (nm D true)) ao ∧ ∀ b, S b → w.heap.size ≤ b ∧ b < w'.heap.size) ∧ Only (fun _ => False) w w')
theorem itemsOf_any {D : Nat} {l : List Vt} {lv : Value} {w : World} {S : Nat → Prop} (h : VsAt w S (D + 1) l lv) (hl : l.length ≤ 2513169434900) (hs : ∀ x ∈ l, SmT D x) : Calls Tryz.prog 8 #[lv] w (ItP D l w) := by
  refine (items_all D l lv w S h hl hs).mono fun e w' g => ?_
  obtain ⟨ao, cap, he, g⟩ := g
  obtain ⟨h1, h2, S', h3, h4⟩ := g.out.1.qs
  rw [List.length_map] at h2
  exact ⟨ao, cap, he, h2, ⟨S', h3, h4⟩, g.out.2⟩
theorem items_sm {D : Nat} {l : List Vt} (hl : l.length ≤ 2513169434900) (hs : ∀ x ∈ l, SmT D x) : SmL (l.map (nm D true)) := by
  refine ⟨by simpa using hl, fun x hx => ?_⟩
  obtain ⟨y, hy, rfl⟩ := List.mem_map.1 hx
  exact ⟨D, nm_sm D true y (hs y hy)⟩
set_option maxRecDepth 100000 in
set_option maxHeartbeats 8000000 in
theorem ekeeps_walk {D : Nat} {l : List Vt} {aa ka : Option Addr} {cc kc : Nat} {kl : List (ByteArray × Int × Int)} {w : World} (h : VsAt w (fun _ => True) (D + 1) l (.slice aa l.length cc)) (hl : l.length ≤ 2513169434900) (hs : ∀ x ∈ l, SmT D x) (hk : KnAt w (fun _ => True) kl ka) (hkn : kl.length * 32 ≤ 140737488355328) (hks : ∀ x ∈ kl, x.1.size ≤ 140737488355328) (hT : Tb w) :
    Calls Tryz.prog 5 #[.slice aa l.length cc, .slice ka kl.length kc] w fun e w' => e = .returned (.bool true) ∧ Only (fun _ => False) w w' := by
  have HA : Hid (∀ w, Calls Tryz.prog 6 #[] w fun e w' => e = .returned (.bool true) ∧ Only (fun _ => False) w w') := awake_any
  have HI : Hid (∀ w1, Only (fun _ => False) w w1 → Calls Tryz.prog 8 #[.slice aa l.length cc] w1 (ItP D l w1)) := fun w1 o1 => itemsOf_any (h.only o1) hl hs
  have HK : Hid (∀ w1, Only (fun _ => False) w w1 → Calls Tryz.prog 13 #[.slice ka kl.length kc] w1 fun e w' => ∃ a c, e = .returned (.slice a kl.length c) ∧ Hid (KrAt w' w1.heap.size (.slice a kl.length c) kl ∧ Only (fun _ => False) w1 w')) := fun w1 o1 => known_any (hk.only o1 (fun _ _ e => e)) hkn
  have hll : (l.map (nm D true)).length = l.length := List.length_map _
  have HO : Hid (∀ w1 w2 ao cap a c, (∃ S, QsAt w1 S (2 * D + 2) (l.map (nm D true)) ao ∧ ∀ b, S b → b < w1.heap.size) → l.length ≤ cap → KnAt w2 (fun b => b < w2.heap.size) kl a → Only (fun _ => False) w w2 → Only (fun _ => False) w1 w2 → Calls Tryz.prog 9 #[.slice ao l.length cap, .slice a kl.length c] w2 (OfP (oF (2 * D + 2) (l.map (nm D true)) kl) w2)) := fun w1 w2 ao cap a c ⟨S, q1, q2⟩ hc hk2 o1 o2 => by
    have := of_any (cap := cap) (kc := c) (q1.only o2 (fun _ _ e => e)) (by rw [hll]; exact hc) (items_sm hl hs) (fun b hb => by have := q2 b hb; have := o2.size; omega) hk2 (by omega) hks (hT.frame o1)
    rw [hll] at this
    exact this
  have HT : Hid (∀ w1 w2 ao cap, (∃ S, QsAt w1 S (2 * D + 2) (l.map (nm D true)) ao ∧ ∀ b, S b → b < w1.heap.size) → l.length ≤ cap → Only (fun _ => False) w1 w2 → Calls Tryz.prog 15 #[.slice ao l.length cap] w2 fun e w' => ∃ a2 c2, e = .returned (.slice a2 l.length c2) ∧ Hid ((∃ S, VsAt w' S (2 * D + 3) (l.map (nm D true)) (.slice a2 l.length c2)) ∧ Only (fun _ => False) w2 w')) := fun w1 w2 ao cap ⟨S, q1, q2⟩ hc o2 => by
    have := uitrees_any (2 * D + 2) (.slice ao (l.map (nm D true)).length cap) (l.map (nm D true)) w2 S ((q1.only o2 (fun _ _ e => e)).qi (by rw [hll]; exact hc)) (by rw [hll]; exact hl) (fun x hx => by
      obtain ⟨y, hy, rfl⟩ := List.mem_map.1 hx
      exact ⟨D, nm_nf D true y (hs y hy)⟩)
    rw [hll] at this
    exact this.mono fun e w' g => by
      obtain ⟨a2, c2, he, g⟩ := g
      exact ⟨a2, c2, he, g.out.1.evs, g.out.2⟩
  have HS : Hid (∀ w1 w2 w3 va vb, (∃ S, VsAt w1 S (2 * D + 3) (l.map (nm D true)) va) → (∃ S, VsAt w2 S (2 * D + 3) (l.map (nm D true)) vb) → Only (fun _ => False) w1 w3 → Only (fun _ => False) w2 w3 → Calls Tryz.prog 14 #[va, vb] w3 fun e w' => e = .returned (.bool true) ∧ Only (fun _ => False) w3 w') := fun w1 w2 w3 va vb ⟨S1, q1⟩ ⟨S2, q2⟩ o1 o2 => by
    have hsm2 : ∀ x ∈ l.map (nm D true), ∃ e, SmT e x := (items_sm hl hs).2
    have := (dsame_all (2 * D + 3)).1 (l.map (nm D true)) (l.map (nm D true)) va vb w3 S1 S2 (q1.only o1) (q2.only o2) (by rw [hll]; exact hl) (by rw [hll]; exact hl) hsm2 hsm2
    rw [show 2 * D + 3 - 1 = 2 * D + 2 by omega, esmL_self _ _ (fun x hx => by
      obtain ⟨y, hy, rfl⟩ := List.mem_map.1 hx
      exact esaV_self _ _ ((nm_lf D true y (hs y hy)).mono (by omega)))] at this
    exact this
  have HB : Hid (KnAt w (fun _ => True) kl ka ∧ kl.length * 32 ≤ 140737488355328) := ⟨hk, hkn⟩
  obtain ⟨R, hR⟩ : ∃ R, R = oF (2 * D + 2) (l.map (nm D true)) kl := ⟨_, rfl⟩
  rw [← hR] at HO
  obtain ⟨L, hL⟩ : ∃ L, L = l.length := ⟨_, rfl⟩
  obtain ⟨KL, hKL⟩ : ∃ L, L = kl.length := ⟨_, rfl⟩
  rw [← hL] at HI HO HT ⊢
  rw [← hKL] at HK HO ⊢
  have HLL : Hid (L = l.length ∧ KL = kl.length) := ⟨hL, hKL⟩
  clear h hl hs hk hkn hks hT hll hR hL hKL
  go_enter Tryz.func5, Tryz.ntmps5
  go_wp2_with fail
  refine (show Calls Tryz.prog 6 _ _ _ from HA.out _).mono ?_
  rintro e w1 ⟨rfl, o1⟩
  have O1 : Hid (Only (fun _ => False) w w1) := o1
  have HC : Hid _ := HI.out w1 o1
  clear HA o1
  go_wp2_with fail
  refine (show Calls Tryz.prog 8 _ _ _ from HC.out).mono ?_
  rintro e w2 ⟨ao, cap, rfl, G2⟩
  clear HC
  have O2 : Hid (Only (fun _ => False) w w2 ∧ (∃ S, QsAt w2 S (2 * D + 2) (l.map (nm D true)) ao ∧ ∀ b, S b → b < w2.heap.size) ∧ L ≤ cap) := by
    obtain ⟨g1, ⟨S, g2, g3⟩, g4⟩ := G2.out
    exact ⟨O1.out.trans g4 (fun _ _ e => e), ⟨S, g2, fun b hb => (g3 b hb).2⟩, by rw [HLL.out.1]; exact g1⟩
  have HC : Hid _ := HK.out w2 O2.out.1
  have hle : l.length = L := HLL.out.1.symm
  rw [hle]
  clear O1 G2 HK hle
  go_wp2_with fail
  refine (show Calls Tryz.prog 13 _ _ _ from HC.out).mono ?_
  rintro e w3 ⟨a, c, rfl, G3⟩
  clear HC
  have O3 : Hid (Only (fun _ => False) w w3 ∧ Only (fun _ => False) w2 w3 ∧ KnAt w3 (fun b => b < w3.heap.size) kl a) := by
    have h9 := G3.out.1.kn.1
    exact ⟨O2.out.1.trans G3.out.2 (fun _ _ e => e), G3.out.2, fun j x hx => by
      obtain ⟨g, q, e1, e2, e3⟩ := h9 j x hx
      exact ⟨g, q, e1, e2.2, e3⟩⟩
  have HC : Hid _ := HO.out w2 w3 ao cap a c O2.out.2.1 O2.out.2.2 O3.out.2.2 O3.out.1 O3.out.2.1
  clear G3
  go_wp2_with fail
  refine (show Calls Tryz.prog 9 _ _ _ from HC.out).mono ?_
  rintro e w4 ⟨rfl, o4⟩
  clear HC
  have kn_on : ∀ w5, Only (fun _ => False) w3 w5 → KnAt w5 (fun b => b < w5.heap.size) kl a := fun w5 o5 j x hx => by
    obtain ⟨g, q, e1, e2, e3, e4, e5⟩ := O3.out.2.2 j x hx
    exact ⟨g, q, e1, by have := o5.size; omega, o5.cell e3 (fun e => e), o5.cell e4 (fun e => e), o5.cell e5 (fun e => e)⟩
  have oa : Only (fun _ => False) w3 (w4.alloc (.cells #[.int .i64 (R.1 : Int), .int .i64 (R.2.1 : Int)] 30)) := o4.alloc _
  have HC : Hid _ := HO.out w2 _ ao cap a c O2.out.2.1 O2.out.2.2 (kn_on _ oa) (O3.out.1.trans oa (fun _ _ e => e)) (O3.out.2.1.trans oa (fun _ _ e => e))
  have HKN : Hid (∀ w5, Only (fun _ => False) w3 w5 → KnAt w5 (fun b => b < w5.heap.size) kl a) := kn_on
  have O4 : Hid (Only (fun _ => False) w3 w4) := o4
  clear HO o4 oa kn_on
  go_wp2_with fail
  refine (show Calls Tryz.prog 9 _ _ _ from HC.out).mono ?_
  rintro e w5 ⟨rfl, o5⟩
  clear HC
  obtain ⟨x0, x1, -, -⟩ := wr2_cell (o5.at (ealloc_at w4 (.cells #[.int .i64 (R.1 : Int), .int .i64 (R.2.1 : Int)] 30) w4.heap.size rfl))
  have y0 : (w5.alloc (.cells #[.int .i64 (R.1 : Int), .int .i64 (R.2.1 : Int)] 30)).cell? ⟨w4.heap.size, 0, none⟩ = some (.int .i64 (R.1 : Int)) := ((Only.refl (fun _ => False) w5).alloc _).cell x0 (fun e => e)
  have y1 : (w5.alloc (.cells #[.int .i64 (R.1 : Int), .int .i64 (R.2.1 : Int)] 30)).cell? ⟨w4.heap.size, 1, none⟩ = some (.int .i64 (R.2.1 : Int)) := ((Only.refl (fun _ => False) w5).alloc _).cell x1 (fun e => e)
  have O5 : Hid (Only (fun _ => False) w3 (w5.alloc (.cells #[.int .i64 (R.1 : Int), .int .i64 (R.2.1 : Int)] 30))) := ((O4.out.alloc _).trans o5 (fun _ _ e => e)).alloc _
  clear o5 x0 x1 O4
  obtain ⟨r0, r1, r2⟩ := R
  simp only at y0 y1 O5 ⊢
  go_wp2
  clear y0 y1
  go_loopw [11] (fun r11 wr => ∃ (j : Nat), r11 = .int .i64 (j : Int) ∧ j ≤ KL ∧ Hid (Only (fun _ => False) w3 wr)) (fun r11 _ => KL - vuOf r11)
  case atStart => exact ⟨0, rfl, Nat.zero_le _, O5.out⟩
  case round =>
    obtain ⟨j, rfl, hj, HJ⟩ := hrel
    obtain ⟨w6, hw6⟩ : ∃ w6, w6 = wr := ⟨_, rfl⟩
    rw [← hw6] at HJ ⊢
    clear hw6 O5
    have hKl := HLL.out.2
    have hKb := HB.out.2
    by_cases hjL : j < KL
    · obtain ⟨x, hx⟩ : ∃ x, kl[j]? = some x := ⟨kl[j]'(by omega), List.getElem?_eq_getElem (by omega)⟩
      obtain ⟨g, q, rfl, -, c0, c1, c2⟩ := HKN.out w6 HJ.out j x hx
      obtain ⟨g', q', rfl, -, d0, d1, d2⟩ := (HB.out.1.only (O3.out.1.trans HJ.out (fun _ _ e => e)) (fun _ _ e => e)) j x hx
      have HX : Hid (j < KL) := hjL
      obtain ⟨nm, a', b'⟩ := x
      simp only at c0 c1 c2 d0 d1 d2
      have i1 : (j : Int) < (KL : Int) := by omega
      have i0 : (0 : Int) ≤ (j : Int) := by omega
      have i4 : j ≤ 4398046511104 := by omega
      have HSW : Hid (∀ w', Only (fun _ => False) w6 w' → w'.cell? ⟨g, q + j * 3, none⟩ = some (.string nm) ∧ w'.cell? ⟨g, q + j * 3 + 1, none⟩ = some (.int .i64 a') ∧ w'.cell? ⟨g, q + j * 3 + 2, none⟩ = some (.int .i64 b') ∧ w'.cell? ⟨g', q' + j * 3, none⟩ = some (.string nm) ∧ w'.cell? ⟨g', q' + j * 3 + 1, none⟩ = some (.int .i64 a') ∧ w'.cell? ⟨g', q' + j * 3 + 2, none⟩ = some (.int .i64 b')) := fun w' o => ⟨o.cell c0 (fun e => e), o.cell c1 (fun e => e), o.cell c2 (fun e => e), o.cell d0 (fun e => e), o.cell d1 (fun e => e), o.cell d2 (fun e => e)⟩
      have c2' : w6.cell? ⟨g, q + j * 3 + 2, none⟩ = some (.int .i64 b') := c2
      have d2' : w6.cell? ⟨g', q' + j * 3 + 2, none⟩ = some (.int .i64 b') := d2
      have hbe : (nm.toList == nm.toList) = true := by simp
      clear hx hKl hKb hjL hj
      go_wp2_with fail
      go_quiet (fail)
      have HJ7 : Hid (Only (fun _ => False) w3 (w6.drewN nq)) := ⟨HJ.out.os, HJ.out.tape, HJ.out.output, HJ.out.size, HJ.out.block⟩
      obtain ⟨w7, hw7⟩ : ∃ w7, w7 = w6.drewN nq := ⟨_, rfl⟩
      rw [← hw7] at HJ7 ⊢
      clear hw7 HSW c0 c1 c2 c2' d0 d1 d2 d2' hbe HJ
      go_wp2
      go_roundw
      case rel => exact ⟨j + 1, by go_num, by have := HX.out; omega, HJ7⟩
      case measure => simp only [vuOf]; have := HX.out; omega
    · obtain rfl : j = KL := by omega
      have i1 : ¬ (j : Int) < (j : Int) := by omega
      have HC : Hid _ := HT.out w2 w6 ao cap O2.out.2.1 O2.out.2.2 (O3.out.2.1.trans HJ.out (fun _ _ e => e))
      clear hKl hKb hjL hj HKN
      go_wp2_with fail
      refine (show Calls Tryz.prog 15 _ _ _ from HC.out).mono ?_
      rintro e w7 ⟨a7, c7, rfl, G7⟩
      clear HC
      have O7 : Hid (Only (fun _ => False) w w7) := (O3.out.1.trans HJ.out (fun _ _ e => e)).trans G7.out.2 (fun _ _ e => e)
      have HC : Hid _ := HI.out w7 O7.out
      clear HI HJ
      go_wp2_with fail
      refine (show Calls Tryz.prog 8 _ _ _ from HC.out).mono ?_
      rintro e w8 ⟨ao8, cap8, rfl, G8⟩
      clear HC
      have O8 : Hid (Only (fun _ => False) w7 w8 ∧ (∃ S, QsAt w8 S (2 * D + 2) (l.map (nm D true)) ao8 ∧ ∀ b, S b → b < w8.heap.size) ∧ L ≤ cap8) := by
        obtain ⟨g1, ⟨S, g2, g3⟩, g4⟩ := G8.out
        exact ⟨g4, ⟨S, g2, fun b hb => (g3 b hb).2⟩, by rw [HLL.out.1]; exact g1⟩
      have hle : l.length = L := HLL.out.1.symm
      rw [hle]
      have HC : Hid _ := HT.out w8 w8 ao8 cap8 O8.out.2.1 O8.out.2.2 (Only.refl _ _)
      clear HT G8 hle
      go_wp2_with fail
      refine (show Calls Tryz.prog 15 _ _ _ from HC.out).mono ?_
      rintro e w9 ⟨a9, c9, rfl, G9⟩
      clear HC
      have HC : Hid _ := HS.out w7 w9 w9 (.slice a7 L c7) (.slice a9 L c9) G7.out.1 G9.out.1 (O8.out.1.trans G9.out.2 (fun _ _ e => e)) (Only.refl _ _)
      have O9 : Hid (Only (fun _ => False) w w9) := (O7.out.trans O8.out.1 (fun _ _ e => e)).trans G9.out.2 (fun _ _ e => e)
      clear HS G7 G9 O7 O8
      go_wp2_with fail
      refine (show Calls Tryz.prog 14 _ _ _ from HC.out).mono ?_
      rintro e w10 ⟨rfl, o10⟩
      have O10 : Hid (Only (fun _ => False) w w10) := O9.out.trans o10 (fun _ _ e => e)
      clear HC o10 O9
      go_wp2
      go_ret
      exact ⟨rfl, O10.out⟩
end Go.Proofs.YtodbkihobgdpdaaGreatDoor
namespace Go.Proofs.YtodbkihobgdpdaaGreatDoor
open Go.RowKit Go.Lib
set_option linter.unusedSimpArgs false
set_option linter.unusedVariables false
/-- how many an item takes and leaves -/
def efX (x : Vt) : Nat × Nat := if x.k = 7 then ((pmR x.s).1.toNat, (pmR x.s).2.1.toNat) else if x.k = 8 then (0, 0) else (0, 1)
/-- is it an item that knows no quotation? -/
def smpI (x : Vt) : Prop := (x.k = 7 → (pmR x.s).2.2 = true) ∧ x.k ≠ 5
/-- how long the list is, and how many were taken from below it, behind items -/
def fx : List Vt → Nat × Nat → Nat × Nat
  | [], p => p
  | x :: l, p => fx l (p.1 - (efX x).1 + (efX x).2, p.2 + ((efX x).1 - p.1))
theorem fx_app : ∀ (a b : List Vt) (p : Nat × Nat), fx (a ++ b) p = fx b (fx a p)
  | [], b, p => rfl
  | x :: a, b, p => fx_app a b _
theorem fx_from : ∀ (b : List Vt) (p q : Nat), fx b (p, q) = ((fx b (0, 0)).1 + (p - (fx b (0, 0)).2), q + ((fx b (0, 0)).2 - p))
  | [], p, q => by simp [fx]
  | x :: b, p, q => by
    show fx b (p - (efX x).1 + (efX x).2, q + ((efX x).1 - p)) = ((fx b (0 - (efX x).1 + (efX x).2, 0 + ((efX x).1 - 0))).1 + (p - (fx b (0 - (efX x).1 + (efX x).2, 0 + ((efX x).1 - 0))).2), q + ((fx b (0 - (efX x).1 + (efX x).2, 0 + ((efX x).1 - 0))).2 - p))
    rw [fx_from b (p - (efX x).1 + (efX x).2) (q + ((efX x).1 - p)), fx_from b (0 - (efX x).1 + (efX x).2) (0 + ((efX x).1 - 0))]
    generalize (fx b (0, 0)).1 = O
    generalize (fx b (0, 0)).2 = I
    generalize (efX x).1 = i
    generalize (efX x).2 = o
    simp only
    refine Prod.ext ?_ ?_
    · simp only
      omega
    · simp only
      omega
theorem popE_st (s : Ist) : (popE s).2.st.length = s.st.length - 1 ∧ (popE s).2.tk = s.tk + (1 - s.st.length) := by
  unfold popE
  rcases List.eq_nil_or_concat s.st with h | ⟨l, x, h⟩
  · rw [h]; simp
  · rw [h]; simp
theorem popsE_st : ∀ (n : Nat) (s : Ist), (popsE n s).2.st.length = s.st.length - n ∧ (popsE n s).2.tk = s.tk + (n - s.st.length)
  | 0, s => by simp [popsE]
  | n + 1, s => by
    have h1 := popE_st s
    have h2 := popsE_st n (popE s).2
    show (popsE n (popE s).2).2.st.length = _ ∧ (popsE n (popE s).2).2.tk = _
    rw [h2.1, h2.2, h1.1, h1.2]
    omega
theorem appE_st (i o : Nat) (s : Ist) : (appE i o s).st.length = s.st.length - i + o ∧ (appE i o s).tk = s.tk + (i - s.st.length) := by
  have h := popsE_st i s
  unfold appE
  simp only [List.length_append, List.length_replicate]
  omega
theorem movE_st (n : Nat) (ps : List Nat) (s : Ist) : (movE n ps s).st.length = s.st.length - n + ps.length ∧ (movE n ps s).tk = s.tk + (n - s.st.length) := by
  have h := popsE_st n s
  unfold movE
  simp only [List.length_append, List.length_map]
  omega
theorem pm_kw {s : ByteArray} (h : (pmR s).2.2 = true) : kwd s = 0 := by
  by_cases hk : kwd s = 0
  · exact hk
  · exfalso
    have : ∃ x ∈ kwT, s.toList = x.1 := by
      have key : ∀ q : List (List UInt8 × Nat), kwF s.toList q ≠ 0 → ∃ x ∈ q, s.toList = x.1 := by
        intro q
        induction q with
        | nil => intro h; exact absurd rfl h
        | cons y r ih =>
          intro h
          unfold kwF at h
          split at h
          · rename_i e; exact ⟨y, by simp, e⟩
          · obtain ⟨x, hx, e⟩ := ih h
            exact ⟨x, by simp [hx], e⟩
      exact key kwT hk
    obtain ⟨x, hx, e⟩ := this
    simp only [kwT, List.mem_cons, List.not_mem_nil, or_false] at hx
    rcases hx with rfl | rfl | rfl | rfl | rfl | rfl | rfl | rfl
    all_goals
      rw [to_lit e] at h
      have h3 : true = false := h.symm.trans (by kernel_rfl)
      exact Bool.noConfusion h3
theorem mv_out {W : ByteArray → Option (Nat × Nat)} {s : ByteArray} {ps : List Nat} {e : Nat × Nat} (h : mvP s = some ps) (he : plnE W s = some e) : ps.length = e.2 := by
  by_cases h0 : s.toList = [100, 117, 112]
  · rw [to_lit h0] at h he
    rw [show mvP ⟨[100, 117, 112].toArray⟩ = some [0, 0] from by kernel_rfl] at h
    unfold plnE at he
    rw [show pmR ⟨[100, 117, 112].toArray⟩ = (1, 2, true) from by kernel_rfl] at he
    injection h with h
    simp at he
    subst h
    subst he
    simp
  by_cases h1 : s.toList = [100, 114, 111, 112]
  · rw [to_lit h1] at h he
    rw [show mvP ⟨[100, 114, 111, 112].toArray⟩ = some [] from by kernel_rfl] at h
    unfold plnE at he
    rw [show pmR ⟨[100, 114, 111, 112].toArray⟩ = (1, 0, true) from by kernel_rfl] at he
    injection h with h
    simp at he
    subst h
    subst he
    simp
  by_cases h2 : s.toList = [115, 119, 97, 112]
  · rw [to_lit h2] at h he
    rw [show mvP ⟨[115, 119, 97, 112].toArray⟩ = some [1, 0] from by kernel_rfl] at h
    unfold plnE at he
    rw [show pmR ⟨[115, 119, 97, 112].toArray⟩ = (2, 2, true) from by kernel_rfl] at he
    injection h with h
    simp at he
    subst h
    subst he
    simp
  by_cases h3 : s.toList = [111, 118, 101, 114]
  · rw [to_lit h3] at h he
    rw [show mvP ⟨[111, 118, 101, 114].toArray⟩ = some [0, 1, 0] from by kernel_rfl] at h
    unfold plnE at he
    rw [show pmR ⟨[111, 118, 101, 114].toArray⟩ = (2, 3, true) from by kernel_rfl] at he
    injection h with h
    simp at he
    subst h
    subst he
    simp
  by_cases h4 : s.toList = [114, 111, 116]
  · rw [to_lit h4] at h he
    rw [show mvP ⟨[114, 111, 116].toArray⟩ = some [1, 2, 0] from by kernel_rfl] at h
    unfold plnE at he
    rw [show pmR ⟨[114, 111, 116].toArray⟩ = (3, 3, true) from by kernel_rfl] at he
    injection h with h
    simp at he
    subst h
    subst he
    simp
  by_cases h5 : s.toList = [110, 105, 112]
  · rw [to_lit h5] at h he
    rw [show mvP ⟨[110, 105, 112].toArray⟩ = some [1] from by kernel_rfl] at h
    unfold plnE at he
    rw [show pmR ⟨[110, 105, 112].toArray⟩ = (2, 1, true) from by kernel_rfl] at he
    injection h with h
    simp at he
    subst h
    subst he
    simp
  by_cases h6 : s.toList = [116, 117, 99, 107]
  · rw [to_lit h6] at h he
    rw [show mvP ⟨[116, 117, 99, 107].toArray⟩ = some [1, 0, 1] from by kernel_rfl] at h
    unfold plnE at he
    rw [show pmR ⟨[116, 117, 99, 107].toArray⟩ = (2, 3, true) from by kernel_rfl] at he
    injection h with h
    simp at he
    subst h
    subst he
    simp
  have hn : ∀ x ∈ mvT, s.toList ≠ x.1 := by
    intro x hx
    simp only [mvT, List.mem_cons, List.not_mem_nil, or_false] at hx
    rcases hx with rfl | rfl | rfl | rfl | rfl | rfl | rfl
    · exact h0
    · exact h1
    · exact h2
    · exact h3
    · exact h4
    · exact h5
    · exact h6
  rw [show mvP s = none from mvF_no _ _ hn] at h
  exact nomatch h
theorem itm_simple {W : ByteArray → Option (Nat × Nat)} {n : Nat} {x : Vt} {s : Ist} (hx : smpI x) (ha : 0 < s.a) : ∃ t, itmE W (n + 1) x s = .ok t ∧ s.a ≤ t.a + 1 ∧ t.a ≤ s.a ∧ t.st.length = s.st.length - (efX x).1 + (efX x).2 ∧ t.tk = s.tk + ((efX x).1 - s.st.length) := by
  have hc : cntE s = .ok ⟨s.a - 1, s.st, s.tk⟩ := by unfold cntE; rw [if_neg (by omega)]
  unfold itmE efX
  by_cases h7 : x.k = 7
  · have hp := hx.1 h7
    have he : plnE W x.s = some ((pmR x.s).1.toNat, (pmR x.s).2.1.toNat) := by unfold plnE; rw [if_pos hp]
    rw [if_pos h7, if_pos h7, if_pos (pm_kw hp), he]
    simp only
    rw [hc]
    simp only [bdE]
    cases hm : mvP x.s with
    | none =>
      simp only
      have h1 := appE_st (pmR x.s).1.toNat (pmR x.s).2.1.toNat ⟨s.a - 1, s.st, s.tk⟩
      have h2 := (appE_pot (pmR x.s).1.toNat (pmR x.s).2.1.toNat ⟨s.a - 1, s.st, s.tk⟩).1
      simp only at h1 h2
      exact ⟨_, rfl, by omega, by omega, h1.1, h1.2⟩
    | some ps =>
      simp only
      have h1 := movE_st (pmR x.s).1.toNat ps ⟨s.a - 1, s.st, s.tk⟩
      have h2 := (movE_pot (pmR x.s).1.toNat ps ⟨s.a - 1, s.st, s.tk⟩).1
      have h3 := mv_out hm he
      simp only at h1 h2 h3
      exact ⟨_, rfl, by omega, by omega, by rw [h1.1, h3], h1.2⟩
  · rw [if_neg h7, if_neg h7]
    by_cases h8 : x.k = 8
    · rw [if_pos h8, if_pos h8]
      exact ⟨s, rfl, by omega, by omega, by simp, by simp⟩
    · rw [if_neg h8, if_neg h8, hc, if_neg hx.2]
      refine ⟨_, rfl, by show s.a ≤ s.a - 1 + 1; omega, by show s.a - 1 ≤ s.a; omega, by show (s.st ++ [none]).length = _; simp, by show s.tk = _; simp⟩
theorem thr_simple {W : ByteArray → Option (Nat × Nat)} {n : Nat} : ∀ (l : List Vt) (s : Ist), (∀ x ∈ l, smpI x) → l.length ≤ s.a → ∃ t, thrL (itmE W (n + 1)) l s = .ok t ∧ (t.st.length, t.tk) = fx l (s.st.length, s.tk)
  | [], s, _, _ => ⟨s, rfl, rfl⟩
  | x :: l, s, hl, ha => by
    simp only [List.length_cons] at ha
    obtain ⟨t, h1, h2, h3, h4, h5⟩ := itm_simple (W := W) (n := n) (hl x (by simp)) (show 0 < s.a by omega)
    obtain ⟨u, g1, g2⟩ := thr_simple (W := W) (n := n) l t (fun y hy => hl y (by simp [hy])) (by omega)
    refine ⟨u, ?_, ?_⟩
    · show bdE (itmE W (n + 1) x s) _ = _
      rw [h1]
      exact g1
    · rw [g2, h4, h5]
      rfl
/-- what Of answers for items that know no quotation -/
theorem oF_simple {d : Nat} {l : List Vt} (hl : ∀ x ∈ l, smpI x) (hn : l.length ≤ 60) : (oF d l [] = ((fx l (0, 0)).2, (fx l (0, 0)).1, 0) ∧ (fx l (0, 0)).2 ≤ 16 ∧ (fx l (0, 0)).1 ≤ 16) ∨ oF d l [] = (0, 0, 1) ∨ oF d l [] = (0, 0, 11) := by
  unfold oF
  split
  · obtain ⟨t, h1, h2⟩ := thr_simple (W := fun s => fsF s []) (n := 4096) l ⟨4096, [], 0⟩ hl (by simp only; omega)
    have h3 : thrE (fun s => fsF s []) 4097 l ⟨4096, [], 0⟩ = .ok t := h1
    rw [h3]
    simp only [List.length_nil] at h2
    have e1 : (fx l (0, 0)).1 = t.st.length := by rw [← h2]
    have e2 : (fx l (0, 0)).2 = t.tk := by rw [← h2]
    unfold whE
    simp only [bdE]
    by_cases hb : t.tk ≤ 16 ∧ t.st.length ≤ 16
    · rw [if_pos hb]
      left
      rw [e1, e2]
      exact ⟨rfl, hb.1, hb.2⟩
    · rw [if_neg hb]
      right; right
      rfl
  · right; left; rfl
/-- of all, a beginning and the rest -/
theorem joins_pure {a b : List Vt} (h1 : (fx (a ++ b) (0, 0)).2 ≤ 16) (h2 : (fx (a ++ b) (0, 0)).1 ≤ 16) (h3 : (fx a (0, 0)).2 ≤ 16) (h4 : (fx a (0, 0)).1 ≤ 16) (h5 : (fx b (0, 0)).2 ≤ 16) (h6 : (fx b (0, 0)).1 ≤ 16) :
    thR ((fx a (0, 0)).2 : Int) ((fx a (0, 0)).1 : Int) ((fx b (0, 0)).2 : Int) ((fx b (0, 0)).1 : Int) = (((fx (a ++ b) (0, 0)).2 : Int), ((fx (a ++ b) (0, 0)).1 : Int), 0) := by
  rw [fx_app] at h1 h2 ⊢
  have e := fx_from b (fx a (0, 0)).1 (fx a (0, 0)).2
  rw [show ((fx a (0, 0)).1, (fx a (0, 0)).2) = fx a (0, 0) from rfl] at e
  rw [e] at h1 h2 ⊢
  generalize (fx a (0, 0)).1 = oa at *
  generalize (fx a (0, 0)).2 = ia at *
  generalize (fx b (0, 0)).1 = ob at *
  generalize (fx b (0, 0)).2 = ib at *
  simp only at h1 h2 ⊢
  clear e
  have x1 : ((ia + (ib - oa) : Nat) : Int) = (ia : Int) + max 0 ((ib : Int) - oa) := by omega
  have x2 : ((ob + (oa - ib) : Nat) : Int) = (ob : Int) + max 0 ((oa : Int) - ib) := by omega
  have b1 : bdB (ia : Int) (oa : Int) = true := by unfold bdB; exact decide_eq_true ⟨by omega, by omega, by omega, by omega⟩
  have b2 : bdB (ib : Int) (ob : Int) = true := by unfold bdB; exact decide_eq_true ⟨by omega, by omega, by omega, by omega⟩
  have b3 : bdB ((ia : Int) + max 0 ((ib : Int) - oa)) ((ob : Int) + max 0 ((oa : Int) - ib)) = true := by unfold bdB; exact decide_eq_true ⟨by omega, by omega, by omega, by omega⟩
  unfold thR
  rw [b1, b2, b3, x1, x2]
  rfl
end Go.Proofs.YtodbkihobgdpdaaGreatDoor
namespace Go.Proofs.YtodbkihobgdpdaaGreatDoor
open Go.RowKit Go.Lib
set_option linter.unusedSimpArgs false
set_option linter.unusedVariables false
/-- simple: is it an item that knows no quotation? -/
def smpB (x : Vt) : Bool := if x.k = 7 then (pmR x.s).2.2 else x.k != 5
theorem smp_nm {d : Nat} {x : Vt} (h : smpB x = true) : smpI (nm d true x) := by
  unfold smpB at h
  cases d with
  | zero => exact ⟨fun e => by simp [nm] at e, by simp [nm]⟩
  | succ d =>
    unfold nm
    split
    · exact ⟨fun e => by simp at e, by simp⟩
    split
    · exact ⟨fun e => by simp at e, by simp⟩
    split
    · exact ⟨fun e => by simp at e, by simp⟩
    split
    · exact ⟨fun e => by simp at e, by simp⟩
    split
    · rename_i h5
      rw [if_neg (by omega)] at h
      simp [h5] at h
    split
    · exact ⟨fun e => by simp at e, by simp⟩
    split
    · rename_i h7
      rw [if_pos h7.2] at h
      exact ⟨fun _ => h, by simp⟩
    · exact ⟨fun e => by simp at e, by simp⟩
set_option maxRecDepth 100000 in
theorem simple_any (x : Vt) (a : Option Addr) (n c : Nat) (w : World) : Calls Tryz.prog 7 #[.agg #[.int .i64 x.k, .int .i64 x.n, .string x.s, .slice a n c]] w fun e w' => e = .returned (.bool (smpB x)) ∧ Only (fun _ => False) w w' := by
  have HP : Hid (∀ w, Calls Tryz.prog 17 #[.string x.s] w fun e w' => e = .returned (.tuple #[.int .i64 (pmR x.s).1, .int .i64 (pmR x.s).2.1, .bool (pmR x.s).2.2]) ∧ Only (fun _ => False) w w') := rprim_any x.s
  unfold smpB
  obtain ⟨k, hk⟩ : ∃ k, k = x.k := ⟨_, rfl⟩
  obtain ⟨q1, e1⟩ : ∃ q, q = (pmR x.s).1 := ⟨_, rfl⟩
  obtain ⟨q2, e2⟩ : ∃ q, q = (pmR x.s).2.1 := ⟨_, rfl⟩
  obtain ⟨q3, e3⟩ : ∃ q, q = (pmR x.s).2.2 := ⟨_, rfl⟩
  rw [← e1, ← e2, ← e3] at HP
  rw [← hk, ← e3]
  have OA : Hid (Only (fun _ => False) w (w.alloc (.cells #[.int .i64 k, .int .i64 x.n, .string x.s, .slice a n c] 26))) := (Only.refl _ _).alloc _
  clear hk e1 e2 e3
  by_cases h7 : k = 7
  · rw [if_pos h7]
    subst h7
    go_enter Tryz.func7, Tryz.ntmps7
    go_wp2_with fail
    refine (show Calls Tryz.prog 17 _ _ _ from HP.out _).mono ?_
    rintro e w1 ⟨rfl, o1⟩
    have O1 : Hid (Only (fun _ => False) w w1) := OA.out.trans o1 (fun _ _ e => e)
    clear HP o1 OA
    go_wp2
    go_ret
    exact ⟨rfl, O1.out⟩
  · rw [if_neg h7]
    have i1 : (k == 7) = false := by simp [h7]
    clear HP
    go_enter Tryz.func7, Tryz.ntmps7
    go_wp2
    go_ret
    exact ⟨rfl, OA.out⟩
theorem VsAt.inb {w : World} {S : Nat → Prop} : ∀ {d : Nat} {l : List Vt} {v : Value}, VsAt w S d l v → VsAt w (fun b => b < w.heap.size) d l v := by
  intro d
  induction d with
  | zero => intro l v h; exact h.elim
  | succ d ih =>
    intro l v h
    obtain ⟨ao, cap, hv, hc, hl⟩ := h
    refine ⟨ao, cap, hv, hc, fun i x hx => ?_⟩
    obtain ⟨g, k, lx, ha, hg, ⟨c0, c1, c2, c3⟩, ht⟩ := hl i x hx
    exact ⟨g, k, lx, ha, World.block_lt_of_cell? w _ c0, ⟨c0, c1, c2, c3⟩, ih ht⟩
/-- trees that are kept, in a row of one's own -/
def KpAt (w : World) (B D : Nat) (v : Value) (kp : List Vt) : Prop := ∃ us, w.ownsRow B 26 4 v kp.length us ∧ ∀ (j : Nat) (x : Vt), kp[j]? = some x → ∃ lx, us[j * 4]? = some (.int .i64 x.k) ∧ us[j * 4 + 1]? = some (.int .i64 x.n) ∧ us[j * 4 + 2]? = some (.string x.s) ∧ us[j * 4 + 3]? = some lx ∧ VsAt w (fun b => b < B) D x.l lx
theorem kp_nil (w : World) (B D : Nat) : KpAt w B D (.slice none 0 0) [] := ⟨[], World.ownsRow_nil _ _ _ _, fun j x h => by simp at h⟩
theorem KpAt.vs {w : World} {B D : Nat} {v : Value} {kp : List Vt} (h : KpAt w B D v kp) : VsAt w (fun _ => True) (D + 1) kp v := by
  obtain ⟨us, ho, ht⟩ := h
  rcases ho.2 with ⟨rfl, h2⟩ | ⟨g, cap, cur, hv, hB, hg, hn, hcm, hcs, htk⟩
  · exact ⟨none, 0, by rw [h2], by omega, fun i x hx => by have := (List.getElem?_eq_some_iff.1 hx).1; omega⟩
  · refine ⟨some ⟨g, 0, none⟩, cap, hv, hn, fun i x hx => ?_⟩
    obtain ⟨lx, e0, e1, e2, e3, e4⟩ := ht i x hx
    have hc := fun j u hu => ho.cells (g := g) (by rw [hv]; rfl) j u hu
    have q0 := hc _ _ e0
    have q1 := hc _ _ e1
    have q2 := hc _ _ e2
    have q3 := hc _ _ e3
    rw [addr_ad] at q0 q1 q2 q3
    exact ⟨g, 0, lx, rfl, trivial, ⟨by rw [Nat.zero_add]; exact q0, by rw [Nat.zero_add]; exact q1, by rw [Nat.zero_add]; exact q2, by rw [Nat.zero_add]; exact q3⟩, e4.step (fun _ _ => trivial) (fun _ _ _ q => q) (Nat.le_refl _)⟩
/-- one more is kept -/
theorem KpAt.snoc {w : World} {B D m : Nat} {a : Option Addr} {c : Nat} {kp : List Vt} {x : Vt} {lx : Value} (h : KpAt w B D (.slice a m c) kp) (hm : m = kp.length) (hm60 : m ≤ 60) (hx : VsAt w (fun b => b < B) D x.l lx) (h1 : lx.oneCell' = true) (hB : B ≤ w.heap.size) :
    ∃ a' c' w', (∀ ty, (Builtin.append_ #[22, 22] ty #[.slice a m c, .slice (some ⟨w.heap.size, 0, none⟩) 1 1]).run Tryz.prog (w.alloc (.cells #[.int .i64 x.k, .int .i64 x.n, .string x.s, lx] 26)) = .ok (.slice a' (m + 1) c') w') ∧ KpAt w' B D (.slice a' (m + 1) c') (kp ++ [x]) ∧ Only (fun b => B ≤ b) w w' := by
  obtain ⟨us, ho, ht⟩ := h
  subst hm
  obtain ⟨i0, z0, hi, hz0, hz1, hz2, hz3⟩ := uv_info
  obtain ⟨W, hW⟩ : ∃ W, W = w.alloc (.cells #[.int .i64 x.k, .int .i64 x.n, .string x.s, lx] 26) := ⟨_, rfl⟩
  have oo : Only (fun _ => False) w W := by rw [hW]; exact (Only.refl _ w).alloc _
  have hb : W.heap[w.heap.size]? = some (.cells #[.int .i64 x.k, .int .i64 x.n, .string x.s, lx] 26) := by rw [hW]; exact ealloc_at _ _ _ rfl
  have ho2 := oo.owns ho (fun _ _ e => e)
  have key := fun ty => run_append_own_at (P := Tryz.prog) W B 22 ty 26 i0 z0 4 56 Tryz.underlying22 hi hz0 hz1 hz2 hz3 (by omega) (.slice a kp.length c) kp.length us ho2 ⟨w.heap.size, 0, none⟩ 1 1 [.int .i64 x.k, .int .i64 x.n, .string x.s, lx] rfl (by
      intro j u hj
      rw [addr_ad, vblk_cells hb]
      simpa using hj) (by
      intro u hu
      simp only [List.mem_cons, List.not_mem_nil, or_false] at hu
      rcases hu with rfl | rfl | rfl | rfl
      · rfl
      · rfl
      · rfl
      · exact h1) (by unfold maxLen; omega) (by omega) (by have := oo.size; omega)
  obtain ⟨v', w', hr, own', hg, _, hat⟩ := key 0
  obtain ⟨a', c', hv'⟩ := ownsRow_slice own'
  subst hv'
  have og : Only (fun b => B ≤ b) w w' := (oo.mono (bs' := fun k => B ≤ k) (fun _ _ h => h.elim)).trans ((Only.refl (fun k => (Value.slice a kp.length c).ownBlock = some k) W).grown hg (fun k e _ => e)) (fun k hk e => (ho.lt k e).1)
  have vk : ∀ {y : Vt} {ly : Value}, VsAt w (fun b => b < B) D y.l ly → VsAt w' (fun b => b < B) D y.l ly := fun q => q.step (fun _ g => g) (fun a u hs hc => og.cell hc (by omega)) (Nat.le_refl _)
  have hul : us.length = kp.length * 4 := ho.1
  refine ⟨a', c', w', fun ty => ?_, ⟨us ++ [.int .i64 x.k, .int .i64 x.n, .string x.s, lx], by simpa using own', fun j y hy => ?_⟩, og⟩
  · rw [← hW, ← hr]
    rfl
  · by_cases hj : j < kp.length
    · rw [List.getElem?_append_left hj] at hy
      obtain ⟨ly, e0, e1, e2, e3, e4⟩ := ht j y hy
      refine ⟨ly, ?_, ?_, ?_, ?_, vk e4⟩
      · rw [List.getElem?_append_left (by omega)]; exact e0
      · rw [List.getElem?_append_left (by omega)]; exact e1
      · rw [List.getElem?_append_left (by omega)]; exact e2
      · rw [List.getElem?_append_left (by omega)]; exact e3
    · have hj2 : j < (kp ++ [x]).length := (List.getElem?_eq_some_iff.1 hy).1
      have hj3 : j = kp.length := by simp at hj2; omega
      subst hj3
      simp at hy
      subst hy
      refine ⟨lx, ?_, ?_, ?_, ?_, vk hx⟩
      · rw [List.getElem?_append_right (by omega), show kp.length * 4 - us.length = 0 by omega]; rfl
      · rw [List.getElem?_append_right (by omega), show kp.length * 4 + 1 - us.length = 1 by omega]; rfl
      · rw [List.getElem?_append_right (by omega), show kp.length * 4 + 2 - us.length = 2 by omega]; rfl
      · rw [List.getElem?_append_right (by omega), show kp.length * 4 + 3 - us.length = 3 by omega]; rfl
theorem KpAt.only {w w' : World} {B D : Nat} {v : Value} {kp : List Vt} (h : KpAt w B D v kp) (o : Only (fun _ => False) w w') : KpAt w' B D v kp := by
  obtain ⟨us, ho, ht⟩ := h
  refine ⟨us, o.owns ho (fun _ _ e => e), fun j x hx => ?_⟩
  obtain ⟨lx, e0, e1, e2, e3, e4⟩ := ht j x hx
  exact ⟨lx, e0, e1, e2, e3, e4.step (fun _ g => g) (fun a u _ hc => o.cell hc (fun e => e)) (Nat.le_refl _)⟩
/-- what law07.ItemsOf makes of trees, and where -/
def ItS (D : Nat) (l : List Vt) (m : Nat) (w : World) (e : Ending) (w' : World) : Prop := ∃ ao cap, e = .returned (.slice ao m cap) ∧ Hid (m ≤ cap ∧ (∃ S, QsAt w' S (2 * D + 2) (l.map (nm D true)) ao ∧ ∀ b, S b → b < w'.heap.size) ∧ Only (fun _ => False) w w' ∧ ((ao = none ∧ cap = 0) ∨ ∃ g, ao = some ⟨g, 0, none⟩))
theorem itemsOf_sh {D m : Nat} {l : List Vt} {lv : Value} {w : World} {S : Nat → Prop} (hm : m = l.length) (h : VsAt w S (D + 1) l lv) (hl : l.length ≤ 2513169434900) (hs : ∀ x ∈ l, SmT D x) : Calls Tryz.prog 8 #[lv] w (ItS D l m w) := by
  refine (items_all D l lv w S h hl hs).mono fun e w' g => ?_
  obtain ⟨ao, cap, he, g⟩ := g
  obtain ⟨h1, h2, S', h3, h4⟩ := g.out.1.qs
  rw [List.length_map] at h2
  refine ⟨ao, cap, by rw [hm]; exact he, by omega, ⟨S', h3, fun b hb => (h4 b hb).2⟩, g.out.2, ?_⟩
  obtain ⟨us, S2, ho, _⟩ := g.out.1
  rcases ho.2 with ⟨h5, _⟩ | ⟨g5, c5, _, h5, _⟩
  · injection h5 with a1 a2 a3
    exact .inl ⟨a1, a3⟩
  · injection h5 with a1 a2 a3
    exact .inr ⟨g5, a1⟩
/-- a beginning of a row of items -/
theorem sl_to {ao : Option Addr} {m cap k : Nat} (hk : k ≤ m) (hm : m ≤ cap) (hs : (ao = none ∧ cap = 0) ∨ ∃ g, ao = some ⟨g, 0, none⟩) (hb : m ≤ 60) : ∀ W : World, (Instr.slice 27 (.slice ao m cap) none (some (.int .i64 (k : Int))) none).run Tryz.prog W = .ok (.slice ao k cap) W := by
  intro W
  have i1 : (0 : Int) ≤ (k : Int) := by omega
  have i2 : (k : Int) ≤ (cap : Int) := by omega
  rcases hs with ⟨rfl, rfl⟩ | ⟨g, rfl⟩
  · obtain rfl : k = 0 := by omega
    simp [go_sem]
  · simp [go_sem, i1, i2]
/-- the rest of a row of items -/
theorem sl_from {ao : Option Addr} {m cap k : Nat} (hk : k ≤ m) (hm : m ≤ cap) (hs : (ao = none ∧ cap = 0) ∨ ∃ g, ao = some ⟨g, 0, none⟩) (hb : m ≤ 60) : ∃ a2, (0 < m - k → ∃ g, ao = some ⟨g, 0, none⟩ ∧ a2 = some ⟨g, k, none⟩) ∧ ∀ W : World, (Instr.slice 27 (.slice ao m cap) (some (.int .i64 (k : Int))) none none).run Tryz.prog W = .ok (.slice a2 (m - k) (cap - k)) W := by
  have i1 : (0 : Int) ≤ (k : Int) := by omega
  have i2 : (k : Int) ≤ (m : Int) := by omega
  have i3 : (m : Int) ≤ (cap : Int) := by omega
  rcases hs with ⟨rfl, rfl⟩ | ⟨g, rfl⟩
  · obtain rfl : k = 0 := by omega
    obtain rfl : m = 0 := by omega
    exact ⟨none, fun h => by omega, fun W => by simp [go_sem]⟩
  · by_cases hc : cap - k = 0
    · refine ⟨some ⟨g, 0, none⟩, fun h => by omega, fun W => ?_⟩
      simp [go_sem, i1, i2, i3, hc]
      omega
    · refine ⟨some ⟨g, k, none⟩, fun h => ⟨g, rfl, rfl⟩, fun W => ?_⟩
      simp [go_sem, i1, i2, i3, hc]
      omega
end Go.Proofs.YtodbkihobgdpdaaGreatDoor
