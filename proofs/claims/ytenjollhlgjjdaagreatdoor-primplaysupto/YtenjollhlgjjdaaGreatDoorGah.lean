import Derived.Test.YtenjollhlgjjdaaGreatDoorGae
import Derived.Test.YtenjollhlgjjdaaGreatDoorGag
import Derived.Deep.RegionHeld3
import Derived.Shelf.Strconv.Itoa4
import Derived.Shelf.Strings.OnBuilder
import Derived.Test.YtenjollhlgjjdaaGreatDoorProg
import Derived.Test.YtenjollhlgjjdaaGreatDoorGaa
import Derived.BigQuiet
/-     -/
set_option linter.unusedSimpArgs false
set_option linter.unusedVariables false
set_option maxRecDepth 100000
set_option maxHeartbeats 40000000
namespace Go.Proofs.YtenjollhlgjjdaaGreatDoor
open Go.RowKit
def TuS (d F : Nat) (i : Bool) : Prop := ∀ (v : Value) (l : List Vt) (w : World) (S : Nat → Prop), QiAt w S d i v l → l.length ≤ 1048576 → (∀ x ∈ l, ∃ e, NfT e x) → Calls Tryz.prog F #[v] w fun e w' => ∃ ao cap, e = .returned (.slice ao l.length cap) ∧ Hid (UrAt w' w.heap.size d (.slice ao l.length cap) l ∧ Only (fun _ => False) w w')
def TuE (d F : Nat) (i : Bool) : Prop := ∀ (v : Value) (t : Vt) (w : World) (S : Nat → Prop), TiAt w S d i t v → (∃ e, NfT e t) → Calls Tryz.prog F #[v] w fun e w' => ∃ lv, e = .returned (.agg #[.int .i64 t.k, .int .i64 (t.n), .string (t.s), lv]) ∧ Hid (NuAt w' w.heap.size d t lv ∧ Only (fun _ => False) w w')
theorem uresults_v {fn : Func} {u : Tmp} (h : fn.results = #[.cell u 38]) (tmps : Array Value) (w : World) (B : Nat) {x y z r : Value} (h0 : w.cell? ⟨B, 0, none⟩ = some x) (h1 : w.cell? ⟨B, 1, none⟩ = some y) (h2 : w.cell? ⟨B, 2, none⟩ = some z) (h3 : w.cell? ⟨B, 3, none⟩ = some r) (ha : tmps.getD u undef = .pointer (some ⟨B, 0, none⟩)) :
  (results fn tmps).run Tryz.prog w = .ok (.agg #[x, y, z, r]) w := by
 have ha' : tmps[u]?.getD undef = .pointer (some ⟨B, 0, none⟩) := by simpa using ha
 simp [results, h, ha', asAddr, go_sem, loadVar, isAgg, Tryz.underlying38, h0, h1, h2, h3]
theorem uonly4 {w : World} {B : Nat} (x0 x1 x2 x3 : Value) : Only (fun b => b = B) w ((((w.setCell ⟨B, 0, none⟩ x0).setCell ⟨B, 1, none⟩ x1).setCell ⟨B, 2, none⟩ x2).setCell ⟨B, 3, none⟩ x3) :=
 ((((Only.refl (fun b => b = B) w).setCell ⟨B, 0, none⟩ _ (fun _ => rfl)).setCell ⟨B, 1, none⟩ _ (fun _ => rfl)).setCell ⟨B, 2, none⟩ _ (fun _ => rfl)).setCell ⟨B, 3, none⟩ _ (fun _ => rfl)
theorem uzero_Int (W : World) : (zeroValue 35).run Tryz.prog W = .ok (.agg #[.int .i64 0]) W := by rfl
theorem uzero_Str (W : World) : (zeroValue 59).run Tryz.prog W = .ok (.agg #[.string ⟨#[]⟩]) W := by rfl
theorem uzero_Bool (W : World) : (zeroValue 61).run Tryz.prog W = .ok (.agg #[.bool false]) W := by rfl
theorem uzero_List (W : World) : (zeroValue 63).run Tryz.prog W = .ok (.agg #[.slice none 0 0]) W := by rfl
theorem uzero_Quot (W : World) : (zeroValue 66).run Tryz.prog W = .ok (.agg #[.slice none 0 0]) W := by rfl
theorem uzero_Push (W : World) : (zeroValue 109).run Tryz.prog W = .ok (.agg #[.nilIface]) W := by rfl
theorem uzero_Call (W : World) : (zeroValue 127).run Tryz.prog W = .ok (.agg #[.string ⟨#[]⟩]) W := by rfl
theorem utree_int (n : Int) (w : World) : Calls Tryz.prog 11 #[.iface 35 (.agg #[.int .i64 n])] w fun e w' => e = .returned (.agg #[.int .i64 1, .int .i64 n, .string ⟨#[]⟩, .slice none 0 0]) ∧ Only (fun _ => False) w w' := by
 have hInt := uas_hit 35 41 _ Tryz.underlying35 (by intro m h; cases h)
 have O0 : Hid (Only (fun _ => False) w w) := Only.refl _ _
 go_enter Tryz.func11, Tryz.ntmps11
 go_wp2
 refine bodyPost_ret (uresults_v rfl _ _ w.heap.size (x := _) (y := _) (z := _) (r := _) ?_ ?_ ?_ ?_ rfl) rfl ⟨rfl, ?_⟩
 ·simp [go_sem]
 ·simp [go_sem]
 ·simp [go_sem]
 ·simp [go_sem]
 ·first
   | exact ((O0.out.alloc _).alloc _)
   | exact (((((O0.out.alloc _).alloc _).setCell _ _ (fun h => absurd h (by simp))).setCell _ _ (fun h => absurd h (by simp))).setCell _ _ (fun h => absurd h (by simp))).setCell _ _ (fun h => absurd h (by simp))
theorem utree_str (x : ByteArray) (w : World) : Calls Tryz.prog 11 #[.iface 59 (.agg #[.string x])] w fun e w' => e = .returned (.agg #[.int .i64 2, .int .i64 0, .string x, .slice none 0 0]) ∧ Only (fun _ => False) w w' := by
 have mInt := uas_miss 59 35 41 _ Tryz.underlying35 (by intro m h; cases h) (by decide) _ uzero_Int
 have hStr := uas_hit 59 41 _ Tryz.underlying59 (by intro m h; cases h)
 have O0 : Hid (Only (fun _ => False) w w) := Only.refl _ _
 go_enter Tryz.func11, Tryz.ntmps11
 go_wp2
 refine bodyPost_ret (uresults_v rfl _ _ w.heap.size (x := _) (y := _) (z := _) (r := _) ?_ ?_ ?_ ?_ rfl) rfl ⟨rfl, ?_⟩
 ·simp [go_sem]
 ·simp [go_sem]
 ·simp [go_sem]
 ·simp [go_sem]
 ·first
   | exact ((O0.out.alloc _).alloc _)
   | exact (((((O0.out.alloc _).alloc _).setCell _ _ (fun h => absurd h (by simp))).setCell _ _ (fun h => absurd h (by simp))).setCell _ _ (fun h => absurd h (by simp))).setCell _ _ (fun h => absurd h (by simp))
theorem utree_yes  (w : World) : Calls Tryz.prog 11 #[.iface 61 (.agg #[.bool true])] w fun e w' => e = .returned (.agg #[.int .i64 3, .int .i64 1, .string ⟨#[]⟩, .slice none 0 0]) ∧ Only (fun _ => False) w w' := by
 have mInt := uas_miss 61 35 41 _ Tryz.underlying35 (by intro m h; cases h) (by decide) _ uzero_Int
 have mStr := uas_miss 61 59 41 _ Tryz.underlying59 (by intro m h; cases h) (by decide) _ uzero_Str
 have hBool := uas_hit 61 41 _ Tryz.underlying61 (by intro m h; cases h)
 have O0 : Hid (Only (fun _ => False) w w) := Only.refl _ _
 go_enter Tryz.func11, Tryz.ntmps11
 go_wp2
 refine bodyPost_ret (uresults_v rfl _ _ w.heap.size (x := _) (y := _) (z := _) (r := _) ?_ ?_ ?_ ?_ rfl) rfl ⟨rfl, ?_⟩
 ·simp [go_sem]
 ·simp [go_sem]
 ·simp [go_sem]
 ·simp [go_sem]
 ·first
   | exact ((O0.out.alloc _).alloc _)
   | exact (((((O0.out.alloc _).alloc _).setCell _ _ (fun h => absurd h (by simp))).setCell _ _ (fun h => absurd h (by simp))).setCell _ _ (fun h => absurd h (by simp))).setCell _ _ (fun h => absurd h (by simp))
theorem utree_no  (w : World) : Calls Tryz.prog 11 #[.iface 61 (.agg #[.bool false])] w fun e w' => e = .returned (.agg #[.int .i64 3, .int .i64 0, .string ⟨#[]⟩, .slice none 0 0]) ∧ Only (fun _ => False) w w' := by
 have mInt := uas_miss 61 35 41 _ Tryz.underlying35 (by intro m h; cases h) (by decide) _ uzero_Int
 have mStr := uas_miss 61 59 41 _ Tryz.underlying59 (by intro m h; cases h) (by decide) _ uzero_Str
 have hBool := uas_hit 61 41 _ Tryz.underlying61 (by intro m h; cases h)
 have O0 : Hid (Only (fun _ => False) w w) := Only.refl _ _
 go_enter Tryz.func11, Tryz.ntmps11
 go_wp2
 refine bodyPost_ret (uresults_v rfl _ _ w.heap.size (x := _) (y := _) (z := _) (r := _) ?_ ?_ ?_ ?_ rfl) rfl ⟨rfl, ?_⟩
 ·simp [go_sem]
 ·simp [go_sem]
 ·simp [go_sem]
 ·simp [go_sem]
 ·first
   | exact ((O0.out.alloc _).alloc _)
   | exact (((((O0.out.alloc _).alloc _).setCell _ _ (fun h => absurd h (by simp))).setCell _ _ (fun h => absurd h (by simp))).setCell _ _ (fun h => absurd h (by simp))).setCell _ _ (fun h => absurd h (by simp))
theorem utree_call (x : ByteArray) (w : World) : Calls Tryz.prog 46 #[.iface 127 (.agg #[.string x])] w fun e w' => e = .returned (.agg #[.int .i64 7, .int .i64 0, .string x, .slice none 0 0]) ∧ Only (fun _ => False) w w' := by
 have mPush := uas_miss 127 109 97 _ Tryz.underlying109 (by intro m h; cases h) (by decide) _ uzero_Push
 have hCall := uas_hit 127 97 _ Tryz.underlying127 (by intro m h; cases h)
 have O0 : Hid (Only (fun _ => False) w w) := Only.refl _ _
 go_enter Tryz.func46, Tryz.ntmps46
 go_wp2
 refine bodyPost_ret (uresults_v rfl _ _ w.heap.size (x := _) (y := _) (z := _) (r := _) ?_ ?_ ?_ ?_ rfl) rfl ⟨rfl, ?_⟩
 ·simp [go_sem]
 ·simp [go_sem]
 ·simp [go_sem]
 ·simp [go_sem]
 ·first
   | exact ((O0.out.alloc _).alloc _)
   | exact (((((O0.out.alloc _).alloc _).setCell _ _ (fun h => absurd h (by simp))).setCell _ _ (fun h => absurd h (by simp))).setCell _ _ (fun h => absurd h (by simp))).setCell _ _ (fun h => absurd h (by simp))
theorem utree_list (d : Nat) (l : List Vt) (ao : Option Addr) (cap : Nat) (w : World) (S : Nat → Prop) (HT : TuS d 5 false) (h : QiAt w S d false (.slice ao l.length cap) l) (hl : l.length ≤ 1048576) (hw : ∀ x ∈ l, ∃ e, NfT e x) : Calls Tryz.prog 11 #[.iface 63 (.agg #[.slice ao l.length cap])] w fun e w' => ∃ ao' cap', e = .returned (.agg #[.int .i64 4, .int .i64 0, .string ⟨#[]⟩, .slice ao' l.length cap']) ∧ Hid (UrAt w' w.heap.size d (.slice ao' l.length cap') l ∧ Only (fun _ => False) w w') := by
 have HC : Hid (∀ w1, Only (fun _ => False) w w1 → Calls Tryz.prog 5 #[.slice ao l.length cap] w1 fun e w' => ∃ ao cap, e = .returned (.slice ao l.length cap) ∧ Hid (UrAt w' w1.heap.size d (.slice ao l.length cap) l ∧ Only (fun _ => False) w1 w')) := fun w1 o1 => HT _ _ _ S (h.step (fun _ g => g) (fun a u _ hc => o1.cell hc (fun g => g)) (Nat.le_refl _)) hl hw
 have mInt := uas_miss 63 35 41 _ Tryz.underlying35 (by intro m h; cases h) (by decide) _ uzero_Int
 have mStr := uas_miss 63 59 41 _ Tryz.underlying59 (by intro m h; cases h) (by decide) _ uzero_Str
 have mBool := uas_miss 63 61 41 _ Tryz.underlying61 (by intro m h; cases h) (by decide) _ uzero_Bool
 have hList := uas_hit 63 41 _ Tryz.underlying63 (by intro m h; cases h)
 have O0 : Hid (Only (fun _ => False) w w) := Only.refl _ _
 clear HT h hl hw
 obtain ⟨L, hL⟩ : ∃ L, L = l.length := ⟨_, rfl⟩
 have HL : Hid (L = l.length) := hL
 rw [← hL] at HC
 rw [← hL]
 clear hL
 go_enter Tryz.func11, Tryz.ntmps11
 go_wp2_with fail
 refine (show Calls Tryz.prog 5 _ _ _ from HC.out _ ((O0.out.alloc _).alloc _)).mono ?_
 rintro e w1 ⟨ao', cap', rfl, g1⟩
 have R3 : w1.heap[w.heap.size]? = some (.cells #[.int .i64 0, .int .i64 0, .string ⟨#[]⟩, .slice none 0 0] 38) := (g1.out.2.block w.heap.size (by simp; omega) (fun h => h)).trans ((((Only.refl (fun _ => False) (w.alloc (.cells #[.int .i64 0, .int .i64 0, .string ⟨#[]⟩, .slice none 0 0] 38))).alloc _).block w.heap.size (by simp) (fun h => h)).trans (valloc_at _ _ _ rfl))
 have G1 : Hid (UrAt w1 (w.heap.size + 1) d (.slice ao' L cap') l ∧ Only (fun _ => False) w w1) := by
  obtain ⟨us, SS, ho, ht, hS⟩ := g1.out.1
  have e1 : L = l.length := HL.out
  refine ⟨⟨us, SS, ⟨ho.1, ?_⟩, ht, fun b hb => ⟨by have := (hS b hb).1; simp at this; omega, (hS b hb).2⟩⟩, ((O0.out.alloc _).alloc _).trans g1.out.2 (fun _ _ g => g)⟩
  rcases ho.2 with g | ⟨g, cc, cur, h1, h2, h3⟩
  ·exact .inl g
  ·exact .inr ⟨g, cc, cur, h1, by simp at h2; omega, h3⟩
 clear g1 HC O0
 obtain ⟨B, hBe⟩ : ∃ B, B = w.heap.size := ⟨_, rfl⟩
 have HE : Hid (B = w.heap.size) := hBe
 rw [← hBe] at R3 ⊢
 have c0 := blk_cells R3 0
 have c1 := blk_cells R3 1
 have c2 := blk_cells R3 2
 have c3 := blk_cells R3 3
 have z0 := blk_froz R3 0
 have z1 := blk_froz R3 1
 have z2 := blk_froz R3 2
 have z3 := blk_froz R3 3
 have HR3 : Hid (w1.heap[B]? = some (.cells #[.int .i64 0, .int .i64 0, .string ⟨#[]⟩, .slice none 0 0] 38)) := R3
 simp only [List.getElem?_toArray, List.getElem?_cons_zero, List.getElem?_cons_succ] at c0 c1 c2 c3
 clear R3 hBe
 go_wp2
 obtain ⟨p0, p1, p2, p3⟩ := set4 HR3.out rfl (.int .i64 4) (.int .i64 0) (.string ⟨#[]⟩) (.slice ao' L cap')
 have e1 : L = l.length := HL.out
 have hBe : B = w.heap.size := HE.out
 have OB := @uonly4 w1 B (.int .i64 4) (.int .i64 0) (.string ⟨#[]⟩) (.slice ao' L cap')
 refine bodyPost_ret (uresults_v rfl _ _ B p0 p1 p2 p3 rfl) rfl ⟨ao', cap', rfl, ?_, G1.out.2.trans OB (fun b h e => by omega)⟩
 obtain ⟨us, SS, ho, ht, hS⟩ := G1.out.1.only OB (fun b h e => by omega)
 refine ⟨us, SS, ⟨ho.1, ?_⟩, ht, fun b hb => ⟨by have := (hS b hb).1; omega, (hS b hb).2⟩⟩
 rcases ho.2 with g | ⟨g, cc, cur, h1, h2, h3⟩
 ·exact .inl g
 ·exact .inr ⟨g, cc, cur, h1, by omega, h3⟩
theorem utree_quot (d : Nat) (l : List Vt) (ao : Option Addr) (cap : Nat) (w : World) (S : Nat → Prop) (HT : TuS d 25 true) (h : QiAt w S d true (.slice ao l.length cap) l) (hl : l.length ≤ 1048576) (hw : ∀ x ∈ l, ∃ e, NfT e x) : Calls Tryz.prog 11 #[.iface 66 (.agg #[.slice ao l.length cap])] w fun e w' => ∃ ao' cap', e = .returned (.agg #[.int .i64 5, .int .i64 0, .string ⟨#[]⟩, .slice ao' l.length cap']) ∧ Hid (UrAt w' w.heap.size d (.slice ao' l.length cap') l ∧ Only (fun _ => False) w w') := by
 have HC : Hid (∀ w1, Only (fun _ => False) w w1 → Calls Tryz.prog 25 #[.slice ao l.length cap] w1 fun e w' => ∃ ao cap, e = .returned (.slice ao l.length cap) ∧ Hid (UrAt w' w1.heap.size d (.slice ao l.length cap) l ∧ Only (fun _ => False) w1 w')) := fun w1 o1 => HT _ _ _ S (h.step (fun _ g => g) (fun a u _ hc => o1.cell hc (fun g => g)) (Nat.le_refl _)) hl hw
 have mInt := uas_miss 66 35 41 _ Tryz.underlying35 (by intro m h; cases h) (by decide) _ uzero_Int
 have mStr := uas_miss 66 59 41 _ Tryz.underlying59 (by intro m h; cases h) (by decide) _ uzero_Str
 have mBool := uas_miss 66 61 41 _ Tryz.underlying61 (by intro m h; cases h) (by decide) _ uzero_Bool
 have mList := uas_miss 66 63 41 _ Tryz.underlying63 (by intro m h; cases h) (by decide) _ uzero_List
 have hQuot := uas_hit 66 41 _ Tryz.underlying66 (by intro m h; cases h)
 have O0 : Hid (Only (fun _ => False) w w) := Only.refl _ _
 clear HT h hl hw
 obtain ⟨L, hL⟩ : ∃ L, L = l.length := ⟨_, rfl⟩
 have HL : Hid (L = l.length) := hL
 rw [← hL] at HC
 rw [← hL]
 clear hL
 go_enter Tryz.func11, Tryz.ntmps11
 go_wp2_with fail
 refine (show Calls Tryz.prog 25 _ _ _ from HC.out _ ((O0.out.alloc _).alloc _)).mono ?_
 rintro e w1 ⟨ao', cap', rfl, g1⟩
 have R3 : w1.heap[w.heap.size]? = some (.cells #[.int .i64 0, .int .i64 0, .string ⟨#[]⟩, .slice none 0 0] 38) := (g1.out.2.block w.heap.size (by simp; omega) (fun h => h)).trans ((((Only.refl (fun _ => False) (w.alloc (.cells #[.int .i64 0, .int .i64 0, .string ⟨#[]⟩, .slice none 0 0] 38))).alloc _).block w.heap.size (by simp) (fun h => h)).trans (valloc_at _ _ _ rfl))
 have G1 : Hid (UrAt w1 (w.heap.size + 1) d (.slice ao' L cap') l ∧ Only (fun _ => False) w w1) := by
  obtain ⟨us, SS, ho, ht, hS⟩ := g1.out.1
  have e1 : L = l.length := HL.out
  refine ⟨⟨us, SS, ⟨ho.1, ?_⟩, ht, fun b hb => ⟨by have := (hS b hb).1; simp at this; omega, (hS b hb).2⟩⟩, ((O0.out.alloc _).alloc _).trans g1.out.2 (fun _ _ g => g)⟩
  rcases ho.2 with g | ⟨g, cc, cur, h1, h2, h3⟩
  ·exact .inl g
  ·exact .inr ⟨g, cc, cur, h1, by simp at h2; omega, h3⟩
 clear g1 HC O0
 obtain ⟨B, hBe⟩ : ∃ B, B = w.heap.size := ⟨_, rfl⟩
 have HE : Hid (B = w.heap.size) := hBe
 rw [← hBe] at R3 ⊢
 have c0 := blk_cells R3 0
 have c1 := blk_cells R3 1
 have c2 := blk_cells R3 2
 have c3 := blk_cells R3 3
 have z0 := blk_froz R3 0
 have z1 := blk_froz R3 1
 have z2 := blk_froz R3 2
 have z3 := blk_froz R3 3
 have HR3 : Hid (w1.heap[B]? = some (.cells #[.int .i64 0, .int .i64 0, .string ⟨#[]⟩, .slice none 0 0] 38)) := R3
 simp only [List.getElem?_toArray, List.getElem?_cons_zero, List.getElem?_cons_succ] at c0 c1 c2 c3
 clear R3 hBe
 go_wp2
 obtain ⟨p0, p1, p2, p3⟩ := set4 HR3.out rfl (.int .i64 5) (.int .i64 0) (.string ⟨#[]⟩) (.slice ao' L cap')
 have e1 : L = l.length := HL.out
 have hBe : B = w.heap.size := HE.out
 have OB := @uonly4 w1 B (.int .i64 5) (.int .i64 0) (.string ⟨#[]⟩) (.slice ao' L cap')
 refine bodyPost_ret (uresults_v rfl _ _ B p0 p1 p2 p3 rfl) rfl ⟨ao', cap', rfl, ?_, G1.out.2.trans OB (fun b h e => by omega)⟩
 obtain ⟨us, SS, ho, ht, hS⟩ := G1.out.1.only OB (fun b h e => by omega)
 refine ⟨us, SS, ⟨ho.1, ?_⟩, ht, fun b hb => ⟨by have := (hS b hb).1; omega, (hS b hb).2⟩⟩
 rcases ho.2 with g | ⟨g, cc, cur, h1, h2, h3⟩
 ·exact .inl g
 ·exact .inr ⟨g, cc, cur, h1, by omega, h3⟩
theorem uzero_Box (W : World) : (zeroValue 69).run Tryz.prog W = .ok (.agg #[.int .i64 0]) W := by rfl
theorem utree_box (n : Int) (h1 : -9223372036854775808 ≤ n) (h2 : n ≤ 9223372036854775807) (w : World) : Calls Tryz.prog 11 #[.iface 69 (.agg #[.int .i64 n])] w fun e w' => e = .returned (.agg #[.int .i64 6, .int .i64 n, .string ⟨#[]⟩, .slice none 0 0]) ∧ Only (fun _ => False) w w' := by
 have mInt := uas_miss 69 35 41 _ Tryz.underlying35 (by intro m h; cases h) (by decide) _ uzero_Int
 have mStr := uas_miss 69 59 41 _ Tryz.underlying59 (by intro m h; cases h) (by decide) _ uzero_Str
 have mBool := uas_miss 69 61 41 _ Tryz.underlying61 (by intro m h; cases h) (by decide) _ uzero_Bool
 have mList := uas_miss 69 63 41 _ Tryz.underlying63 (by intro m h; cases h) (by decide) _ uzero_List
 have mQuot := uas_miss 69 66 41 _ Tryz.underlying66 (by intro m h; cases h) (by decide) _ uzero_Quot
 have hBox := uas_hit 69 41 _ Tryz.underlying69 (by intro m h; cases h)
 have hw : IntKind.i64.wrap n = n := by rw [IntKind.wrap_i64]; omega
 clear h1 h2
 have O0 : Hid (Only (fun _ => False) w w) := Only.refl _ _
 go_enter Tryz.func11, Tryz.ntmps11
 go_wp2
 refine bodyPost_ret (uresults_v rfl _ _ w.heap.size (x := _) (y := _) (z := _) (r := _) ?_ ?_ ?_ ?_ rfl) rfl ⟨rfl, ?_⟩
 ·simp [go_sem]
 ·simp [go_sem]
 ·simp [go_sem]
 ·simp [go_sem]
 ·first
   | exact O0.out.alloc _
   | exact ((O0.out.alloc _).alloc _)
   | exact ((((O0.out.alloc _).setCell _ _ (fun h => absurd h (by simp))).setCell _ _ (fun h => absurd h (by simp))).setCell _ _ (fun h => absurd h (by simp))).setCell _ _ (fun h => absurd h (by simp))
   | exact (((((O0.out.alloc _).alloc _).setCell _ _ (fun h => absurd h (by simp))).setCell _ _ (fun h => absurd h (by simp))).setCell _ _ (fun h => absurd h (by simp))).setCell _ _ (fun h => absurd h (by simp))
theorem utree_nil  (w : World) : Calls Tryz.prog 11 #[.nilIface] w fun e w' => e = .returned (.agg #[.int .i64 8, .int .i64 0, .string ⟨#[]⟩, .slice none 0 0]) ∧ Only (fun _ => False) w w' := by
 have mInt := uas_nil 35 41 _ Tryz.underlying35 (by intro m h; cases h) _ uzero_Int
 have mStr := uas_nil 59 41 _ Tryz.underlying59 (by intro m h; cases h) _ uzero_Str
 have mBool := uas_nil 61 41 _ Tryz.underlying61 (by intro m h; cases h) _ uzero_Bool
 have mList := uas_nil 63 41 _ Tryz.underlying63 (by intro m h; cases h) _ uzero_List
 have mQuot := uas_nil 66 41 _ Tryz.underlying66 (by intro m h; cases h) _ uzero_Quot
 have mBox := uas_nil 69 41 _ Tryz.underlying69 (by intro m h; cases h) _ uzero_Box
 have O0 : Hid (Only (fun _ => False) w w) := Only.refl _ _
 go_enter Tryz.func11, Tryz.ntmps11
 go_wp2
 refine bodyPost_ret (uresults_v rfl _ _ w.heap.size (x := _) (y := _) (z := _) (r := _) ?_ ?_ ?_ ?_ rfl) rfl ⟨rfl, ?_⟩
 ·simp [go_sem]
 ·simp [go_sem]
 ·simp [go_sem]
 ·simp [go_sem]
 ·first
   | exact O0.out.alloc _
   | exact ((O0.out.alloc _).alloc _)
   | exact ((((O0.out.alloc _).setCell _ _ (fun h => absurd h (by simp))).setCell _ _ (fun h => absurd h (by simp))).setCell _ _ (fun h => absurd h (by simp))).setCell _ _ (fun h => absurd h (by simp))
   | exact (((((O0.out.alloc _).alloc _).setCell _ _ (fun h => absurd h (by simp))).setCell _ _ (fun h => absurd h (by simp))).setCell _ _ (fun h => absurd h (by simp))).setCell _ _ (fun h => absurd h (by simp))
theorem uitree_nil  (w : World) : Calls Tryz.prog 46 #[.nilIface] w fun e w' => e = .returned (.agg #[.int .i64 8, .int .i64 0, .string ⟨#[]⟩, .slice none 0 0]) ∧ Only (fun _ => False) w w' := by
 have mPush := uas_nil 109 97 _ Tryz.underlying109 (by intro m h; cases h) _ uzero_Push
 have mCall := uas_nil 127 97 _ Tryz.underlying127 (by intro m h; cases h) _ uzero_Call
 have O0 : Hid (Only (fun _ => False) w w) := Only.refl _ _
 go_enter Tryz.func46, Tryz.ntmps46
 go_wp2
 refine bodyPost_ret (uresults_v rfl _ _ w.heap.size (x := _) (y := _) (z := _) (r := _) ?_ ?_ ?_ ?_ rfl) rfl ⟨rfl, ?_⟩
 ·simp [go_sem]
 ·simp [go_sem]
 ·simp [go_sem]
 ·simp [go_sem]
 ·first
   | exact O0.out.alloc _
   | exact ((O0.out.alloc _).alloc _)
   | exact ((((O0.out.alloc _).setCell _ _ (fun h => absurd h (by simp))).setCell _ _ (fun h => absurd h (by simp))).setCell _ _ (fun h => absurd h (by simp))).setCell _ _ (fun h => absurd h (by simp))
   | exact (((((O0.out.alloc _).alloc _).setCell _ _ (fun h => absurd h (by simp))).setCell _ _ (fun h => absurd h (by simp))).setCell _ _ (fun h => absurd h (by simp))).setCell _ _ (fun h => absurd h (by simp))
theorem utree_of (d : Nat) (H1 : TuS d 5 false) (H2 : TuS d 25 true) : TuE (d + 1) 11 false := by
 intro v t w S h hw
 obtain ⟨k, n, s, l⟩ := t
 obtain ⟨e, hw⟩ := hw
 cases e with
 | zero => exact hw.elim
 | succ e =>
 obtain ⟨hw1, hwb, hwn, hws, hw2⟩ := hw
 dsimp only at hw1 hwb hwn hws hw2
 rcases h with ⟨h1, h2, h3⟩ | ⟨h1, h2, h3⟩ | ⟨h1, h2, h3⟩ | ⟨h1, h2, h3⟩ | ⟨h1, h2, h3⟩ | ⟨h1, ao, cap, hv, hc, hl⟩
 ·dsimp only at h1 h2 h3
  subst h1 h3
  have e2 : s = ⟨#[]⟩ := hws
  subst e2
  exact (utree_int n w).mono fun e w' g => ⟨_, g.1, nu_nil h2, g.2⟩
 ·dsimp only at h1 h2 h3
  subst h1 h3
  have e2 : n = 0 := hwn
  subst e2
  exact (utree_str s w).mono fun e w' g => ⟨_, g.1, nu_nil h2, g.2⟩
 ·dsimp only at h1 h2 h3
  subst h1 h3
  have e2 : s = ⟨#[]⟩ := hws
  have e3 : n = if n != 0 then 1 else 0 := hwn
  subst e2
  by_cases hn : n = 0
  ·subst hn
   exact (utree_no w).mono fun e w' g => ⟨_, g.1, nu_nil h2, g.2⟩
  ·have e1 : (n != 0) = true := by simp [hn]
   rw [e1] at e3
   rw [if_pos rfl] at e3
   subst e3
   exact (utree_yes w).mono fun e w' g => ⟨_, g.1, nu_nil h2, g.2⟩
 ·dsimp only at h1 h2 h3
  subst h1 h3
  have e2 : s = ⟨#[]⟩ := hws
  subst e2
  exact (utree_box n hwb.1 hwb.2 w).mono fun e w' g => ⟨_, g.1, nu_nil h2, g.2⟩
 ·dsimp only at h1 h2 h3
  subst h1 h3
  have e2 : s = ⟨#[]⟩ := hws
  have e3 : n = 0 := hwn
  subst e2 e3
  exact (utree_nil w).mono fun e w' g => ⟨_, g.1, nu_nil h2, g.2⟩
 ·dsimp only at h1 hv hc hl
  rcases h1 with h1 | h1
  ·subst h1
   rw [if_pos rfl] at hv
   subst hv
   have e2 : s = ⟨#[]⟩ := hws
   have e3 : n = 0 := hwn
   subst e2 e3
   exact (utree_list d l ao cap w S H1 ⟨ao, cap, rfl, hc, hl⟩ hw1 (fun x hx => ⟨e, hw2 x hx⟩)).mono fun e w' g => by
    obtain ⟨ao', cap', he, g⟩ := g
    exact ⟨_, he, g.out.1.tree rfl, g.out.2⟩
  ·subst h1
   rw [if_neg (by omega)] at hv
   subst hv
   have e2 : s = ⟨#[]⟩ := hws
   have e3 : n = 0 := hwn
   subst e2 e3
   exact (utree_quot d l ao cap w S H2 ⟨ao, cap, rfl, hc, hl⟩ hw1 (fun x hx => ⟨e, hw2 x hx⟩)).mono fun e w' g => by
    obtain ⟨ao', cap', he, g⟩ := g
    exact ⟨_, he, g.out.1.tree rfl, g.out.2⟩
theorem uitree_push (u : Value) (hu : ∃ T y, u = .iface T y) (x0 x1 : Int) (x2 : ByteArray) (Q : Value → World → Prop) (w : World)
  (HC0 : ∀ w1, w.heap.size < w1.heap.size → Only (fun _ => False) w w1 → Calls Tryz.prog 11 #[u] w1 fun e w' => ∃ lv, e = .returned (.agg #[.int .i64 x0, .int .i64 x1, .string x2, lv]) ∧ (∃ ao n cap, lv = .slice ao n cap) ∧ Hid ((∀ w2, Only (fun b => b = w.heap.size) w' w2 → Q lv w2) ∧ Only (fun _ => False) w1 w')) :
  Calls Tryz.prog 46 #[.iface 109 (.agg #[u])] w fun e w' => ∃ lv, e = .returned (.agg #[.int .i64 x0, .int .i64 x1, .string x2, lv]) ∧ Hid (Q lv w' ∧ Only (fun _ => False) w w') := by
 have HC : Hid (∀ w1, w.heap.size < w1.heap.size → Only (fun _ => False) w w1 → Calls Tryz.prog 11 #[u] w1 fun e w' => ∃ lv, e = .returned (.agg #[.int .i64 x0, .int .i64 x1, .string x2, lv]) ∧ (∃ ao n cap, lv = .slice ao n cap) ∧ Hid ((∀ w2, Only (fun b => b = w.heap.size) w' w2 → Q lv w2) ∧ Only (fun _ => False) w1 w')) := HC0
 obtain ⟨T, y, rfl⟩ := hu
 have hPush := uas_hit 109 97 _ Tryz.underlying109 (by intro m h; cases h)
 have O0 : Hid (Only (fun _ => False) w w) := Only.refl _ _
 clear HC0
 go_enter Tryz.func46, Tryz.ntmps46
 go_wp2_with fail
 refine (show Calls Tryz.prog 11 _ _ _ from HC.out _ (by simp; omega) ((O0.out.alloc _).alloc _)).mono ?_
 rintro e w1 ⟨lv, rfl, ⟨ao, nn, cap, rfl⟩, g1⟩
 have R3 : w1.heap[w.heap.size]? = some (.cells #[.int .i64 0, .int .i64 0, .string ⟨#[]⟩, .slice none 0 0] 38) := (g1.out.2.block w.heap.size (by simp; omega) (fun h => h)).trans ((((Only.refl (fun _ => False) (w.alloc (.cells #[.int .i64 0, .int .i64 0, .string ⟨#[]⟩, .slice none 0 0] 38))).alloc _).block w.heap.size (by simp) (fun h => h)).trans (valloc_at _ _ _ rfl))
 have G1 : Hid ((∀ w2, Only (fun b => b = w.heap.size) w1 w2 → Q (.slice ao nn cap) w2) ∧ Only (fun _ => False) w w1) := ⟨g1.out.1, ((O0.out.alloc _).alloc _).trans g1.out.2 (fun _ _ g => g)⟩
 clear g1 HC O0
 obtain ⟨B, hBe⟩ : ∃ B, B = w.heap.size := ⟨_, rfl⟩
 have HE : Hid (B = w.heap.size) := hBe
 rw [← hBe] at R3 ⊢
 have c0 := blk_cells R3 0
 have c1 := blk_cells R3 1
 have c2 := blk_cells R3 2
 have c3 := blk_cells R3 3
 have z0 := blk_froz R3 0
 have z1 := blk_froz R3 1
 have z2 := blk_froz R3 2
 have z3 := blk_froz R3 3
 have HR3 : Hid (w1.heap[B]? = some (.cells #[.int .i64 0, .int .i64 0, .string ⟨#[]⟩, .slice none 0 0] 38)) := R3
 simp only [List.getElem?_toArray, List.getElem?_cons_zero, List.getElem?_cons_succ] at c0 c1 c2 c3
 clear R3 hBe
 go_wp2
 obtain ⟨p0, p1, p2, p3⟩ := set4 HR3.out rfl (.int .i64 x0) (.int .i64 x1) (.string x2) (.slice ao nn cap)
 have hBe : B = w.heap.size := HE.out
 have OB := @uonly4 w1 B (.int .i64 x0) (.int .i64 x1) (.string x2) (.slice ao nn cap)
 refine bodyPost_ret (uresults_v rfl _ _ B p0 p1 p2 p3 rfl) rfl ⟨_, rfl, G1.out.1 _ (by rw [← hBe]; exact OB), G1.out.2.trans OB (fun b h e => by omega)⟩
theorem uitree_of (d : Nat) (H : TuE d 11 false) : TuE (d + 1) 46 true := by
 intro v t w S h hw
 rcases h with ⟨h1, h2, h3⟩ | ⟨h1, h2, h3⟩ | ⟨h1, h8, u, h3, h4⟩
 ·obtain ⟨k, n, s, l⟩ := t
  obtain ⟨e, hw⟩ := hw
  cases e with
  | zero => exact hw.elim
  | succ e =>
  obtain ⟨hw1, hwb, hwn, hws, hw2⟩ := hw
  dsimp only at h1 h2 h3 hwn
  subst h1 h3
  have e3 : n = 0 := hwn
  subst e3
  exact (utree_call s w).mono fun e w' g => ⟨_, g.1, nu_nil h2, g.2⟩
 ·obtain ⟨k, n, s, l⟩ := t
  obtain ⟨e, hw⟩ := hw
  cases e with
  | zero => exact hw.elim
  | succ e =>
  obtain ⟨hw1, hwb, hwn, hws, hw2⟩ := hw
  dsimp only at h1 h2 h3 hwn hws
  subst h1 h3
  have e2 : s = ⟨#[]⟩ := hws
  have e3 : n = 0 := hwn
  subst e2 e3
  exact (uitree_nil w).mono fun e w' g => ⟨_, g.1, nu_nil h2, g.2⟩
 ·subst h3
  refine (uitree_push u (h4.iface h8) t.k t.n t.s (fun lv w' => NuAt w' w.heap.size (d + 1) t lv) w fun w1 hlt o1 => ?_).mono fun e w' g => g
  have h5 : TiAt w1 S d false t u := h4.step (fun _ g => g) (fun a u _ hc => o1.cell hc (fun g => g)) (Nat.le_refl _)
  refine (H u t w1 S h5 hw).mono fun e w' g => ?_
  obtain ⟨lv, he, g⟩ := g
  obtain ⟨ao, cap, hf⟩ := g.out.1.form
  exact ⟨lv, he, ⟨ao, _, cap, hf⟩, fun w2 o2 => ((g.out.1.only o2 (fun b hb e => by omega)).lower (by omega)).deep (by omega), g.out.2⟩
end Go.Proofs.YtenjollhlgjjdaaGreatDoor
namespace Go.Proofs.YtenjollhlgjjdaaGreatDoor
open Go.RowKit Go.Lib
def kd (t : Vt) : Int := if t.k = 1 then 1 else if t.k = 2 then 2 else if t.k = 3 then 4 else if t.k = 4 then 8 else if t.k = 5 then 16 else if t.k = 6 then 32 else 0
theorem kind_Int (n : Int) (w : World) : Calls Tryz.prog 28 #[.iface 35 (.agg #[.int .i64 n])] w fun e w' => e = .returned (.int .i64 1) ∧ w' = w := by
 have hi := uas_hit 35 41 _ Tryz.underlying35 (by intro m h; cases h)
 go_enter Tryz.func28, Tryz.ntmps28
 go_wp2
 go_ret
 exact ⟨rfl, rfl⟩
theorem kind_Str (s : ByteArray) (w : World) : Calls Tryz.prog 28 #[.iface 59 (.agg #[.string s])] w fun e w' => e = .returned (.int .i64 2) ∧ w' = w := by
 have mInt := uas_miss 59 35 41 _ Tryz.underlying35 (by intro m h; cases h) (by decide) _ uzero_Int
 have hi := uas_hit 59 41 _ Tryz.underlying59 (by intro m h; cases h)
 go_enter Tryz.func28, Tryz.ntmps28
 go_wp2
 go_ret
 exact ⟨rfl, rfl⟩
theorem kind_Bool (b : Bool) (w : World) : Calls Tryz.prog 28 #[.iface 61 (.agg #[.bool b])] w fun e w' => e = .returned (.int .i64 4) ∧ w' = w := by
 have mInt := uas_miss 61 35 41 _ Tryz.underlying35 (by intro m h; cases h) (by decide) _ uzero_Int
 have mStr := uas_miss 61 59 41 _ Tryz.underlying59 (by intro m h; cases h) (by decide) _ uzero_Str
 have hi := uas_hit 61 41 _ Tryz.underlying61 (by intro m h; cases h)
 go_enter Tryz.func28, Tryz.ntmps28
 go_wp2
 go_ret
 exact ⟨rfl, rfl⟩
theorem kind_List (ao : Option Addr) (L c : Nat) (w : World) : Calls Tryz.prog 28 #[.iface 63 (.agg #[.slice ao L c])] w fun e w' => e = .returned (.int .i64 8) ∧ w' = w := by
 have mInt := uas_miss 63 35 41 _ Tryz.underlying35 (by intro m h; cases h) (by decide) _ uzero_Int
 have mStr := uas_miss 63 59 41 _ Tryz.underlying59 (by intro m h; cases h) (by decide) _ uzero_Str
 have mBool := uas_miss 63 61 41 _ Tryz.underlying61 (by intro m h; cases h) (by decide) _ uzero_Bool
 have hi := uas_hit 63 41 _ Tryz.underlying63 (by intro m h; cases h)
 go_enter Tryz.func28, Tryz.ntmps28
 go_wp2
 go_ret
 exact ⟨rfl, rfl⟩
theorem kind_Quot (ao : Option Addr) (L c : Nat) (w : World) : Calls Tryz.prog 28 #[.iface 66 (.agg #[.slice ao L c])] w fun e w' => e = .returned (.int .i64 16) ∧ w' = w := by
 have mInt := uas_miss 66 35 41 _ Tryz.underlying35 (by intro m h; cases h) (by decide) _ uzero_Int
 have mStr := uas_miss 66 59 41 _ Tryz.underlying59 (by intro m h; cases h) (by decide) _ uzero_Str
 have mBool := uas_miss 66 61 41 _ Tryz.underlying61 (by intro m h; cases h) (by decide) _ uzero_Bool
 have mList := uas_miss 66 63 41 _ Tryz.underlying63 (by intro m h; cases h) (by decide) _ uzero_List
 have hi := uas_hit 66 41 _ Tryz.underlying66 (by intro m h; cases h)
 go_enter Tryz.func28, Tryz.ntmps28
 go_wp2
 go_ret
 exact ⟨rfl, rfl⟩
theorem kind_Box (n : Int) (w : World) : Calls Tryz.prog 28 #[.iface 69 (.agg #[.int .i64 n])] w fun e w' => e = .returned (.int .i64 32) ∧ w' = w := by
 have mInt := uas_miss 69 35 41 _ Tryz.underlying35 (by intro m h; cases h) (by decide) _ uzero_Int
 have mStr := uas_miss 69 59 41 _ Tryz.underlying59 (by intro m h; cases h) (by decide) _ uzero_Str
 have mBool := uas_miss 69 61 41 _ Tryz.underlying61 (by intro m h; cases h) (by decide) _ uzero_Bool
 have mList := uas_miss 69 63 41 _ Tryz.underlying63 (by intro m h; cases h) (by decide) _ uzero_List
 have mQuot := uas_miss 69 66 41 _ Tryz.underlying66 (by intro m h; cases h) (by decide) _ uzero_Quot
 have hi := uas_hit 69 41 _ Tryz.underlying69 (by intro m h; cases h)
 go_enter Tryz.func28, Tryz.ntmps28
 go_wp2
 go_ret
 exact ⟨rfl, rfl⟩
theorem kind_nil (w : World) : Calls Tryz.prog 28 #[.nilIface] w fun e w' => e = .returned (.int .i64 0) ∧ w' = w := by
 have mInt := uas_nil 35 41 _ Tryz.underlying35 (by intro m h; cases h) _ uzero_Int
 have mStr := uas_nil 59 41 _ Tryz.underlying59 (by intro m h; cases h) _ uzero_Str
 have mBool := uas_nil 61 41 _ Tryz.underlying61 (by intro m h; cases h) _ uzero_Bool
 have mList := uas_nil 63 41 _ Tryz.underlying63 (by intro m h; cases h) _ uzero_List
 have mQuot := uas_nil 66 41 _ Tryz.underlying66 (by intro m h; cases h) _ uzero_Quot
 have mBox := uas_nil 69 41 _ Tryz.underlying69 (by intro m h; cases h) _ uzero_Box
 go_enter Tryz.func28, Tryz.ntmps28
 go_wp2
 go_ret
 exact ⟨rfl, rfl⟩
theorem kind_any {S : Nat → Prop} {d : Nat} {t : Vt} {v : Value} {w0 : World} (h : TiAt w0 S d false t v) : ∀ w, Calls Tryz.prog 28 #[v] w fun e w' => e = .returned (.int .i64 (kd t)) ∧ w' = w := by
 intro w
 obtain ⟨k, n, s, l⟩ := t
 cases d with
 | zero => exact h.elim
 | succ d =>
   rcases h with ⟨e, _, rfl⟩ | ⟨e, _, rfl⟩ | ⟨e, _, rfl⟩ | ⟨e, _, rfl⟩ | ⟨e, _, rfl⟩ | ⟨e, ao, cap, rfl, _⟩
   ·simp only at e
    subst e
    exact kind_Int n w
   ·simp only at e
    subst e
    exact kind_Str s w
   ·simp only at e
    subst e
    exact kind_Bool _ w
   ·simp only at e
    subst e
    exact kind_Box n w
   ·simp only at e
    subst e
    exact kind_nil w
   ·simp only at e
    rcases e with e | e
    ·subst e
     exact kind_List _ _ _ w
    ·subst e
     exact kind_Quot _ _ _ w
def fb (t : Vt) (k : Int) : Bool := !(bits BinOp.and IntKind.i64 (kd t) k == 0)
def fitB : List Vt → List Int → Bool
 | [], _ => true
 | _ :: _, [] => true
 | t :: l, k :: ks => fb t k && fitB l ks
theorem fitB_eq : ∀ (l : List Vt) (ks : List Int), l.length = ks.length → (fitB l ks = true ↔ ∀ (j : Nat) (x : Vt) (k : Int), l[j]? = some x → ks[j]? = some k → fb x k = true)
 | [], _, _ => ⟨fun _ j x k h => by simp at h, fun _ => rfl⟩
 | _ :: _, [], h => by simp at h
 | t :: l, k :: ks, h => by
   have ih := fitB_eq l ks (by simpa using h)
   simp only [fitB, Bool.and_eq_true, ih]
   constructor
   ·rintro ⟨h1, h2⟩ j x y hx hy
    cases j with
    | zero => simp at hx hy; subst hx; subst hy; exact h1
    | succ j => exact h2 j x y (by simpa using hx) (by simpa using hy)
   ·intro g
    exact ⟨g 0 t k rfl rfl, fun j x y hx hy => g (j + 1) x y (by simpa using hx) (by simpa using hy)⟩
theorem fit_any {d : Nat} {l : List Vt} {ks : List Int} {ao : Option Addr} {K cap : Nat} {w : World} {S : Nat → Prop} (hl : PsAt w S d false l ao) (hks : ∀ j k, ks[j]? = some k → w.cell? ⟨K, j, none⟩ = some (.int .i64 k)) (he : l.length = ks.length) (hlen : l.length ≤ 1048576) : Calls Tryz.prog 15 #[.slice ao l.length cap, .slice (some ⟨K, 0, none⟩) l.length l.length] w fun e w' => e = .returned (.bool (fitB l ks)) ∧ Only (fun _ => False) w w' := by
 obtain ⟨Z, hZ⟩ : ∃ Z, Z = fitB l ks := ⟨_, rfl⟩
 obtain ⟨N, hN⟩ : ∃ N, N = l.length := ⟨_, rfl⟩
 have HN : Hid (N = l.length ∧ N ≤ 1048576 ∧ N = ks.length) := ⟨hN, by omega, by omega⟩
 have HT : Hid (PsAt w S d false l ao ∧ (∀ j k, ks[j]? = some k → w.cell? ⟨K, j, none⟩ = some (.int .i64 k))) := ⟨hl, hks⟩
 have HF : Hid (∀ (j : Nat) (x : Vt) (k : Int), l[j]? = some x → ks[j]? = some k → fb x k = false → Z = false) := fun j x k hx hk hf => by
  cases hz : Z with
  | false => rfl
  | true =>
    have := (fitB_eq l ks he).1 (by rw [← hZ]; exact hz) j x k hx hk
    rw [hf] at this
    cases this
 have HY : Hid ((∀ (j : Nat) (x : Vt) (k : Int), l[j]? = some x → ks[j]? = some k → fb x k = true) → Z = true) := fun g => by rw [hZ]; exact (fitB_eq l ks he).2 g
 rw [← hZ, ← hN]
 clear hl hks he hlen hN hZ
 go_enter Tryz.func15, Tryz.ntmps15
 go_wp2
 go_loopw [9] (fun r wr => ∃ j : Nat, r = .int .i64 (j : Int) ∧ j ≤ N ∧ Hid (Only (fun _ => False) w wr ∧ ∀ (i : Nat) (x : Vt) (k : Int), i < j → l[i]? = some x → ks[i]? = some k → fb x k = true)) (fun r _ => N - vuOf r)
 case atStart => exact ⟨0, rfl, Nat.zero_le _, Only.refl _ _, fun i x k h => by omega⟩
 case round =>
  obtain ⟨j, rfl, hj, HI⟩ := hrel
  obtain ⟨w2, hw2⟩ : ∃ w2, w2 = wr := ⟨_, rfl⟩
  rw [← hw2] at HI ⊢
  clear hw2
  by_cases hjN : j < N
  ·obtain ⟨x, hx⟩ : ∃ x, l[j]? = some x := ⟨l[j]'(by rw [← HN.out.1]; exact hjN), List.getElem?_eq_getElem _⟩
   obtain ⟨k, hk⟩ : ∃ k, ks[j]? = some k := ⟨ks[j]'(by rw [← HN.out.2.2]; exact hjN), List.getElem?_eq_getElem _⟩
   obtain ⟨g, q, u, ha, hSg, hcw, ht⟩ := HT.out.1 j x hx
   have hcell : w2.cell? ⟨g, q + j, none⟩ = some u := HI.out.1.cell hcw (fun g => g)
   have hKc : ∀ w3, Only (fun _ => False) w2 w3 → w3.cell? ⟨K, j, none⟩ = some (.int .i64 k) := fun w3 o => o.cell (HI.out.1.cell (HT.out.2 j k hk) (fun g => g)) (fun g => g)
   have HC : Hid _ := kind_any ht
   have HX : Hid (j < N ∧ l[j]? = some x ∧ ks[j]? = some k) := ⟨hjN, hx, hk⟩
   have HK : Hid _ := hKc
   have hK0 := hKc w2 (Only.refl _ _)
   have O2 : Hid (Only (fun _ => False) w2 w2) := Only.refl _ _
   have i1 : (j : Int) < (N : Int) := by omega
   have i0 : (0 : Int) ≤ (j : Int) := by omega
   have i4 : j ≤ 1048576 := by have := HN.out.2.1; omega
   subst ha
   obtain ⟨y, hy⟩ : ∃ y, y = kd x := ⟨_, rfl⟩
   rw [← hy] at HC
   have HYE : Hid (y = kd x) := hy
   clear hx hk hjN hj hSg hcw ht hKc hy
   cases hb : (bits BinOp.and IntKind.i64 y k == 0) with
   | true =>
     have HB : Hid (fb x k = false) := by unfold fb Hid; rw [← HYE.out, hb]; rfl
     go_wp2
     go_region_held3 (fun w3 => w3.cell? ⟨K, j, none⟩ = some (.int .i64 k))
      (first | with_reducible exact HK.out _ O2.out | with_reducible exact HK.out _ O2.out.drew | with_reducible exact HK.out _ O2.out.drew.drew)
      (first
       | (go_at_call 28; refine (show Calls Tryz.prog 28 _ _ _ from HC.out _).mono ?_; rintro ex w4 ⟨rfl, rfl⟩))
     go_wp2
     go_ret
     refine ⟨by rw [HF.out j x k HX.out.2.1 HX.out.2.2 HB.out]; rfl, ?_⟩
     repeat (first | exact HI.out.1 | refine Only.drew ?_)
   | false =>
     have HB : Hid (fb x k = true) := by unfold fb Hid; rw [← HYE.out, hb]; rfl
     go_wp2
     go_region_held3 (fun w3 => w3.cell? ⟨K, j, none⟩ = some (.int .i64 k))
      (first | with_reducible exact HK.out _ O2.out | with_reducible exact HK.out _ O2.out.drew | with_reducible exact HK.out _ O2.out.drew.drew)
      (first
       | (go_at_call 28; refine (show Calls Tryz.prog 28 _ _ _ from HC.out _).mono ?_; rintro ex w4 ⟨rfl, rfl⟩))
     have HI2 : Hid (Only (fun _ => False) w w2.drew ∧ ∀ (i : Nat) (x : Vt) (k : Int), i < j + 1 → l[i]? = some x → ks[i]? = some k → fb x k = true) := ⟨HI.out.1.drew, fun i z y hi hz hy => by
      by_cases e : i = j
      ·subst e
       have a1 := HX.out.2.1
       have a2 := HX.out.2.2
       rw [hz] at a1
       rw [hy] at a2
       injection a1 with a1
       injection a2 with a2
       subst a1
       subst a2
       exact HB.out
      ·exact HI.out.2 i z y (by omega) hz hy⟩
     have HJ : Hid (j < N) := HX.out.1
     clear HC HX HI HK O2 hK0 hcell HB
     go_wp2
     go_roundw
     case rel => exact ⟨j + 1, by go_num, by have := HJ.out; omega, HI2⟩
     case measure => simp only [vuOf]; have := HJ.out; omega
  ·obtain rfl : j = N := by omega
   have i1 : ¬ (j : Int) < (j : Int) := by omega
   have HE : Hid (Z = true) := HY.out (fun i x k hx hk => HI.out.2 i x k (by rw [HN.out.1]; exact (List.getElem?_eq_some_iff.1 hx).1) hx hk)
   clear hjN hj
   go_wp2
   go_ret
   exact ⟨by rw [HE.out]; rfl, HI.out.1⟩
end Go.Proofs.YtenjollhlgjjdaaGreatDoor
namespace Go.Proofs
open Go.Shelf
def Tryz.laysFmt_ren : Go.Shelf.Ren := ⟨fun | 173 => 164 | 246 => 172 | 283 => 176 | 284 => 177 | 285 => 178 | 286 => 179 | 129 => 184 | 317 => 183 | 318 => 185 | 319 => 186 | 320 => 187 | 337 => 190 | 338 => 191 | n => n, fun | 2 => 2 | 3 => 3 | 9 => 9 | 4 => 4 | 171 => 260 | 0 => 0 | 53 => 154 | 37 => 181 | 5 => 5 | 173 => 263 | 212 => 268 | 51 => 169 | 20 => 20 | 213 => 269 | 46 => 225 | 232 => 272 | 233 => 273 | n => n, fun | 17 => 6 | 18 => 7 | 19 => 8 | n => n⟩
theorem Tryz.laysFmt : Go.Proofs.LaysM.n173 Tryz.prog Tryz.laysFmt_ren := {
 mixed := by kernel_rfl
 f129 := Tryz.func184.trans (congrArg some (by kernel_rfl))
 f173 := Tryz.func164.trans (congrArg some (by kernel_rfl))
 f246 := Tryz.func172.trans (congrArg some (by kernel_rfl))
 f283 := Tryz.func176.trans (congrArg some (by kernel_rfl))
 f284 := Tryz.func177.trans (congrArg some (by kernel_rfl))
 f285 := Tryz.func178.trans (congrArg some (by kernel_rfl))
 f286 := Tryz.func179.trans (congrArg some (by kernel_rfl))
 f317 := Tryz.func183.trans (congrArg some (by kernel_rfl))
 f318 := Tryz.func185.trans (congrArg some (by kernel_rfl))
 f319 := Tryz.func186.trans (congrArg some (by kernel_rfl))
 f320 := Tryz.func187.trans (congrArg some (by kernel_rfl))
 f337 := Tryz.func190.trans (congrArg some (by kernel_rfl))
 f338 := Tryz.func191.trans (congrArg some (by kernel_rfl))
 t0 := Tryz.underlying0
 a0 := Tryz.isAgg0
 z0 := Tryz.sizeOf0
 v0 := Tryz.zeroValue0
 t2 := Tryz.underlying2
 a2 := Tryz.isAgg2
 z2 := Tryz.sizeOf2
 v2 := Tryz.zeroValue2
 t3 := Tryz.underlying3
 a3 := Tryz.isAgg3
 z3 := Tryz.sizeOf3
 v3 := Tryz.zeroValue3
 t4 := Tryz.underlying4
 a4 := Tryz.isAgg4
 z4 := Tryz.sizeOf4
 v4 := Tryz.zeroValue4
 t5 := Tryz.underlying5
 a5 := Tryz.isAgg5
 z5 := Tryz.sizeOf5
 v5 := Tryz.zeroValue5
 t9 := Tryz.underlying9
 a9 := Tryz.isAgg9
 z9 := Tryz.sizeOf9
 v9 := Tryz.zeroValue9
 t20 := Tryz.underlying20
 a20 := Tryz.isAgg20
 z20 := Tryz.sizeOf20
 v20 := Tryz.zeroValue20
 t37 := Tryz.underlying181
 a37 := Tryz.isAgg181
 z37 := Tryz.sizeOf181
 v37 := Tryz.zeroValue181
 t46 := Tryz.underlying225
 a46 := Tryz.isAgg225
 z46 := Tryz.sizeOf225
 v46 := Tryz.zeroValue225
 t51 := Tryz.underlying169
 a51 := Tryz.isAgg169
 z51 := Tryz.sizeOf169
 v51 := Tryz.zeroValue169
 t53 := Tryz.underlying154
 a53 := Tryz.isAgg154
 z53 := Tryz.sizeOf154
 v53 := Tryz.zeroValue154
 t171 := Tryz.underlying260
 a171 := Tryz.isAgg260
 z171 := Tryz.sizeOf260
 v171 := Tryz.zeroValue260
 t173 := Tryz.underlying263
 a173 := Tryz.isAgg263
 z173 := Tryz.sizeOf263
 v173 := Tryz.zeroValue263
 t212 := Tryz.underlying268
 a212 := Tryz.isAgg268
 z212 := Tryz.sizeOf268
 v212 := Tryz.zeroValue268
 t213 := Tryz.underlying269
 a213 := Tryz.isAgg269
 z213 := Tryz.sizeOf269
 t232 := Tryz.underlying272
 a232 := Tryz.isAgg272
 z232 := Tryz.sizeOf272
 v232 := Tryz.zeroValue272
 t233 := Tryz.underlying273
 a233 := Tryz.isAgg273
 z233 := Tryz.sizeOf273
 v233 := Tryz.zeroValue273
 g17 := by kernel_rfl
 g18 := by kernel_rfl
 g19 := by kernel_rfl
 i0 := by kernel_rfl
 i2 := by kernel_rfl
 i3 := by kernel_rfl
 i4 := by kernel_rfl
 i5 := by kernel_rfl
 i9 := by kernel_rfl
 i20 := by kernel_rfl
 i37 := by kernel_rfl
 i46 := by kernel_rfl
 i51 := by kernel_rfl
 i53 := by kernel_rfl
 i171 := by kernel_rfl
 i173 := by kernel_rfl
 i212 := by kernel_rfl
 i232 := by kernel_rfl
 i233 := by kernel_rfl
 m17 := by kernel_rfl
 m18 := by kernel_rfl
 m19 := by kernel_rfl }
def Tryz.laysJoin_ren : Go.Shelf.Ren := ⟨fun | 156 => 91 | 165 => 115 | 166 => 116 | 169 => 117 | 240 => 141 | 241 => 142 | 276 => 147 | 277 => 148 | n => n, fun | 31 => 56 | 9 => 9 | 3 => 3 | 4 => 4 | 0 => 0 | 20 => 20 | 72 => 183 | 76 => 187 | 70 => 180 | 37 => 181 | 75 => 186 | 127 => 221 | 164 => 232 | 5 => 5 | 80 => 189 | n => n, fun | n => n⟩
theorem Tryz.laysJoin : Go.Proofs.Lays.n156 Tryz.prog Tryz.laysJoin_ren := {
 mixed := by kernel_rfl
 f156 := Tryz.func91.trans (congrArg some (by kernel_rfl))
 f165 := Tryz.func115.trans (congrArg some (by kernel_rfl))
 f166 := Tryz.func116.trans (congrArg some (by kernel_rfl))
 f169 := Tryz.func117.trans (congrArg some (by kernel_rfl))
 f240 := Tryz.func141.trans (congrArg some (by kernel_rfl))
 f241 := Tryz.func142.trans (congrArg some (by kernel_rfl))
 f276 := Tryz.func147.trans (congrArg some (by kernel_rfl))
 f277 := Tryz.func148.trans (congrArg some (by kernel_rfl))
 t0 := Tryz.underlying0
 a0 := Tryz.isAgg0
 z0 := Tryz.sizeOf0
 v0 := Tryz.zeroValue0
 t3 := Tryz.underlying3
 a3 := Tryz.isAgg3
 z3 := Tryz.sizeOf3
 v3 := Tryz.zeroValue3
 t4 := Tryz.underlying4
 a4 := Tryz.isAgg4
 z4 := Tryz.sizeOf4
 v4 := Tryz.zeroValue4
 t9 := Tryz.underlying9
 a9 := Tryz.isAgg9
 z9 := Tryz.sizeOf9
 v9 := Tryz.zeroValue9
 t20 := Tryz.underlying20
 a20 := Tryz.isAgg20
 z20 := Tryz.sizeOf20
 v20 := Tryz.zeroValue20
 t31 := Tryz.underlying56
 a31 := Tryz.isAgg56
 z31 := Tryz.sizeOf56
 v31 := Tryz.zeroValue56
 t37 := Tryz.underlying181
 a37 := Tryz.isAgg181
 z37 := Tryz.sizeOf181
 v37 := Tryz.zeroValue181
 t70 := Tryz.underlying180
 a70 := Tryz.isAgg180
 z70 := Tryz.sizeOf180
 v70 := Tryz.zeroValue180
 t72 := Tryz.underlying183
 a72 := Tryz.isAgg183
 z72 := Tryz.sizeOf183
 v72 := Tryz.zeroValue183
 t75 := Tryz.underlying186
 a75 := Tryz.isAgg186
 z75 := Tryz.sizeOf186
 v75 := Tryz.zeroValue186
 t76 := Tryz.underlying187
 a76 := Tryz.isAgg187
 z76 := Tryz.sizeOf187
 v76 := Tryz.zeroValue187
 t127 := Tryz.underlying221
 a127 := Tryz.isAgg221
 z127 := Tryz.sizeOf221
 v127 := Tryz.zeroValue221
 t164 := Tryz.underlying232
 a164 := Tryz.isAgg232
 z164 := Tryz.sizeOf232
 v164 := Tryz.zeroValue232 }
theorem Tryz.joinExtra : Go.Proofs.Builder.Extra Tryz.prog Tryz.laysJoin_ren := {
 sizeBuilder := by kernel_rfl
 liesBuilder := by kernel_rfl
 t5 := Tryz.underlying5
 a5 := Tryz.isAgg5
 z5 := Tryz.sizeOf5
 v5 := Tryz.zeroValue5
 infoByte := by kernel_rfl
 cellsByte := by kernel_rfl
 sizeByte := by kernel_rfl
 neB5 := by decide }
end Go.Proofs
namespace Go.Proofs.YtenjollhlgjjdaaGreatDoor
open Go.RowKit
theorem Only.drewN {bs : Nat → Prop} {a w : World} (h : Only bs a w) (n : Nat) : Only bs a (w.drewN n) := ⟨h.os, h.tape, h.output, h.size, h.block⟩
section
variable {P : Program} {n l : Nat} {ops : Array Oper} {op : Oper} {a : Act} {w w' : World} {K : Act → World → Prop} {Q : Exit → Act → World → Prop}
end
end Go.Proofs.YtenjollhlgjjdaaGreatDoor
