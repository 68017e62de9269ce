/- Values as trees: Tree, ItemTree. Many values as trees: Trees, ItemTrees. When two values that hold no others are equal. Equal values: the plain function; slices.EqualFunc. -/
import Derived.Test.YtodbkihobgdpdaaGreatDoorGaf
import Derived.Laws.StructEq
namespace Go.Proofs.YtodbkihobgdpdaaGreatDoor
open Go.RowKit
set_option linter.unusedSimpArgs false
set_option linter.unusedVariables false
/-- what the trees of many are -/
def TuS (d F : Nat) (i : Bool) : Prop := ∀ (v : Value) (l : List Vt) (w : World) (S : Nat → Prop), QiAt w S d i v l → l.length ≤ 2513169434900 → (∀ x ∈ l, ∃ e, NfT e x) → Calls Tryz.prog F #[v] w fun e w' => ∃ ao cap, e = .returned (.slice ao l.length cap) ∧ Hid (UrAt w' w.heap.size d (.slice ao l.length cap) l ∧ Only (fun _ => False) w w')
/-- what the tree of one is -/
def TuE (d F : Nat) (i : Bool) : Prop := ∀ (v : Value) (t : Vt) (w : World) (S : Nat → Prop), TiAt w S d i t v → (∃ e, NfT e t) → Calls Tryz.prog F #[v] w fun e w' => ∃ lv, e = .returned (.agg #[.int .i64 t.k, .int .i64 (t.n), .string (t.s), lv]) ∧ Hid (NuAt w' w.heap.size d t lv ∧ Only (fun _ => False) w w')
theorem uresults_v {fn : Func} {u : Tmp} (h : fn.results = #[.cell u 26]) (tmps : Array Value) (w : World) (B : Nat) {x y z r : Value} (h0 : w.cell? ⟨B, 0, none⟩ = some x) (h1 : w.cell? ⟨B, 1, none⟩ = some y) (h2 : w.cell? ⟨B, 2, none⟩ = some z) (h3 : w.cell? ⟨B, 3, none⟩ = some r) (ha : tmps.getD u undef = .pointer (some ⟨B, 0, none⟩)) :
    (results fn tmps).run Tryz.prog w = .ok (.agg #[x, y, z, r]) w := by
  have ha' : tmps[u]?.getD undef = .pointer (some ⟨B, 0, none⟩) := by simpa using ha
  simp [results, h, ha', asAddr, go_sem, loadVar, isAgg, Tryz.underlying26, h0, h1, h2, h3]
theorem uonly4 {w : World} {B : Nat} (x0 x1 x2 x3 : Value) : Only (fun b => b = B) w ((((w.setCell ⟨B, 0, none⟩ x0).setCell ⟨B, 1, none⟩ x1).setCell ⟨B, 2, none⟩ x2).setCell ⟨B, 3, none⟩ x3) :=
  ((((Only.refl (fun b => b = B) w).setCell ⟨B, 0, none⟩ _ (fun _ => rfl)).setCell ⟨B, 1, none⟩ _ (fun _ => rfl)).setCell ⟨B, 2, none⟩ _ (fun _ => rfl)).setCell ⟨B, 3, none⟩ _ (fun _ => rfl)
set_option maxRecDepth 100000 in
theorem uzero_Int (W : World) : (zeroValue 87).run Tryz.prog W = .ok (.agg #[.int .i64 0]) W := by rfl
set_option maxRecDepth 100000 in
theorem uzero_Str (W : World) : (zeroValue 89).run Tryz.prog W = .ok (.agg #[.string ⟨#[]⟩]) W := by rfl
set_option maxRecDepth 100000 in
theorem uzero_Bool (W : World) : (zeroValue 91).run Tryz.prog W = .ok (.agg #[.bool false]) W := by rfl
set_option maxRecDepth 100000 in
theorem uzero_List (W : World) : (zeroValue 95).run Tryz.prog W = .ok (.agg #[.slice none 0 0]) W := by rfl
set_option maxRecDepth 100000 in
theorem uzero_Quot (W : World) : (zeroValue 81).run Tryz.prog W = .ok (.agg #[.slice none 0 0]) W := by rfl
set_option maxRecDepth 100000 in
theorem uzero_Push (W : World) : (zeroValue 70).run Tryz.prog W = .ok (.agg #[.nilIface]) W := by rfl
set_option maxRecDepth 100000 in
theorem uzero_Call (W : World) : (zeroValue 40).run Tryz.prog W = .ok (.agg #[.string ⟨#[]⟩]) W := by rfl
set_option maxRecDepth 100000 in
theorem utree_int (n : Int) (w : World) : Calls Tryz.prog 39 #[.iface 87 (.agg #[.int .i64 n])] w fun e w' => e = .returned (.agg #[.int .i64 1, .int .i64 n, .string ⟨#[]⟩, .slice none 0 0]) ∧ Only (fun _ => False) w w' := by
  have hInt := uas_hit 87 67 _ Tryz.underlying87 (by intro m h; cases h)
  have O0 : Hid (Only (fun _ => False) w w) := Only.refl _ _
  go_enter Tryz.func39, Tryz.ntmps39
  go_wp2
  refine bodyPost_ret (uresults_v rfl _ _ w.heap.size (x := _) (y := _) (z := _) (r := _) ?_ ?_ ?_ ?_ rfl) rfl ⟨rfl, ?_⟩
  · simp [go_sem]
  · simp [go_sem]
  · simp [go_sem]
  · simp [go_sem]
  · first
      | exact ((O0.out.alloc _).alloc _)
      | exact (((((O0.out.alloc _).alloc _).setCell _ _ (fun h => absurd h (by simp))).setCell _ _ (fun h => absurd h (by simp))).setCell _ _ (fun h => absurd h (by simp))).setCell _ _ (fun h => absurd h (by simp))
set_option maxRecDepth 100000 in
theorem utree_str (x : ByteArray) (w : World) : Calls Tryz.prog 39 #[.iface 89 (.agg #[.string x])] w fun e w' => e = .returned (.agg #[.int .i64 2, .int .i64 0, .string x, .slice none 0 0]) ∧ Only (fun _ => False) w w' := by
  have mInt := uas_miss 89 87 67 _ Tryz.underlying87 (by intro m h; cases h) (by decide) _ uzero_Int
  have hStr := uas_hit 89 67 _ Tryz.underlying89 (by intro m h; cases h)
  have O0 : Hid (Only (fun _ => False) w w) := Only.refl _ _
  go_enter Tryz.func39, Tryz.ntmps39
  go_wp2
  refine bodyPost_ret (uresults_v rfl _ _ w.heap.size (x := _) (y := _) (z := _) (r := _) ?_ ?_ ?_ ?_ rfl) rfl ⟨rfl, ?_⟩
  · simp [go_sem]
  · simp [go_sem]
  · simp [go_sem]
  · simp [go_sem]
  · first
      | exact ((O0.out.alloc _).alloc _)
      | exact (((((O0.out.alloc _).alloc _).setCell _ _ (fun h => absurd h (by simp))).setCell _ _ (fun h => absurd h (by simp))).setCell _ _ (fun h => absurd h (by simp))).setCell _ _ (fun h => absurd h (by simp))
set_option maxRecDepth 100000 in
theorem utree_yes  (w : World) : Calls Tryz.prog 39 #[.iface 91 (.agg #[.bool true])] w fun e w' => e = .returned (.agg #[.int .i64 3, .int .i64 1, .string ⟨#[]⟩, .slice none 0 0]) ∧ Only (fun _ => False) w w' := by
  have mInt := uas_miss 91 87 67 _ Tryz.underlying87 (by intro m h; cases h) (by decide) _ uzero_Int
  have mStr := uas_miss 91 89 67 _ Tryz.underlying89 (by intro m h; cases h) (by decide) _ uzero_Str
  have hBool := uas_hit 91 67 _ Tryz.underlying91 (by intro m h; cases h)
  have O0 : Hid (Only (fun _ => False) w w) := Only.refl _ _
  go_enter Tryz.func39, Tryz.ntmps39
  go_wp2
  refine bodyPost_ret (uresults_v rfl _ _ w.heap.size (x := _) (y := _) (z := _) (r := _) ?_ ?_ ?_ ?_ rfl) rfl ⟨rfl, ?_⟩
  · simp [go_sem]
  · simp [go_sem]
  · simp [go_sem]
  · simp [go_sem]
  · first
      | exact ((O0.out.alloc _).alloc _)
      | exact (((((O0.out.alloc _).alloc _).setCell _ _ (fun h => absurd h (by simp))).setCell _ _ (fun h => absurd h (by simp))).setCell _ _ (fun h => absurd h (by simp))).setCell _ _ (fun h => absurd h (by simp))
set_option maxRecDepth 100000 in
theorem utree_no  (w : World) : Calls Tryz.prog 39 #[.iface 91 (.agg #[.bool false])] w fun e w' => e = .returned (.agg #[.int .i64 3, .int .i64 0, .string ⟨#[]⟩, .slice none 0 0]) ∧ Only (fun _ => False) w w' := by
  have mInt := uas_miss 91 87 67 _ Tryz.underlying87 (by intro m h; cases h) (by decide) _ uzero_Int
  have mStr := uas_miss 91 89 67 _ Tryz.underlying89 (by intro m h; cases h) (by decide) _ uzero_Str
  have hBool := uas_hit 91 67 _ Tryz.underlying91 (by intro m h; cases h)
  have O0 : Hid (Only (fun _ => False) w w) := Only.refl _ _
  go_enter Tryz.func39, Tryz.ntmps39
  go_wp2
  refine bodyPost_ret (uresults_v rfl _ _ w.heap.size (x := _) (y := _) (z := _) (r := _) ?_ ?_ ?_ ?_ rfl) rfl ⟨rfl, ?_⟩
  · simp [go_sem]
  · simp [go_sem]
  · simp [go_sem]
  · simp [go_sem]
  · first
      | exact ((O0.out.alloc _).alloc _)
      | exact (((((O0.out.alloc _).alloc _).setCell _ _ (fun h => absurd h (by simp))).setCell _ _ (fun h => absurd h (by simp))).setCell _ _ (fun h => absurd h (by simp))).setCell _ _ (fun h => absurd h (by simp))
set_option maxRecDepth 100000 in
theorem utree_call (x : ByteArray) (w : World) : Calls Tryz.prog 30 #[.iface 40 (.agg #[.string x])] w fun e w' => e = .returned (.agg #[.int .i64 7, .int .i64 0, .string x, .slice none 0 0]) ∧ Only (fun _ => False) w w' := by
  have mPush := uas_miss 40 70 37 _ Tryz.underlying70 (by intro m h; cases h) (by decide) _ uzero_Push
  have hCall := uas_hit 40 37 _ Tryz.underlying40 (by intro m h; cases h)
  have O0 : Hid (Only (fun _ => False) w w) := Only.refl _ _
  go_enter Tryz.func30, Tryz.ntmps30
  go_wp2
  refine bodyPost_ret (uresults_v rfl _ _ w.heap.size (x := _) (y := _) (z := _) (r := _) ?_ ?_ ?_ ?_ rfl) rfl ⟨rfl, ?_⟩
  · simp [go_sem]
  · simp [go_sem]
  · simp [go_sem]
  · simp [go_sem]
  · first
      | exact ((O0.out.alloc _).alloc _)
      | exact (((((O0.out.alloc _).alloc _).setCell _ _ (fun h => absurd h (by simp))).setCell _ _ (fun h => absurd h (by simp))).setCell _ _ (fun h => absurd h (by simp))).setCell _ _ (fun h => absurd h (by simp))
set_option maxRecDepth 100000 in
theorem utree_list (d : Nat) (l : List Vt) (ao : Option Addr) (cap : Nat) (w : World) (S : Nat → Prop) (HT : TuS d 44 false) (h : QiAt w S d false (.slice ao l.length cap) l) (hl : l.length ≤ 2513169434900) (hw : ∀ x ∈ l, ∃ e, NfT e x) : Calls Tryz.prog 39 #[.iface 95 (.agg #[.slice ao l.length cap])] w fun e w' => ∃ ao' cap', e = .returned (.agg #[.int .i64 4, .int .i64 0, .string ⟨#[]⟩, .slice ao' l.length cap']) ∧ Hid (UrAt w' w.heap.size d (.slice ao' l.length cap') l ∧ Only (fun _ => False) w w') := by
  have HC : Hid (∀ w1, Only (fun _ => False) w w1 → Calls Tryz.prog 44 #[.slice ao l.length cap] w1 fun e w' => ∃ ao cap, e = .returned (.slice ao l.length cap) ∧ Hid (UrAt w' w1.heap.size d (.slice ao l.length cap) l ∧ Only (fun _ => False) w1 w')) := fun w1 o1 => HT _ _ _ S (h.step (fun _ g => g) (fun a u _ hc => o1.cell hc (fun g => g)) (Nat.le_refl _)) hl hw
  have mInt := uas_miss 95 87 67 _ Tryz.underlying87 (by intro m h; cases h) (by decide) _ uzero_Int
  have mStr := uas_miss 95 89 67 _ Tryz.underlying89 (by intro m h; cases h) (by decide) _ uzero_Str
  have mBool := uas_miss 95 91 67 _ Tryz.underlying91 (by intro m h; cases h) (by decide) _ uzero_Bool
  have hList := uas_hit 95 67 _ Tryz.underlying95 (by intro m h; cases h)
  have O0 : Hid (Only (fun _ => False) w w) := Only.refl _ _
  clear HT h hl hw
  obtain ⟨L, hL⟩ : ∃ L, L = l.length := ⟨_, rfl⟩
  have HL : Hid (L = l.length) := hL
  rw [← hL] at HC
  rw [← hL]
  clear hL
  go_enter Tryz.func39, Tryz.ntmps39
  go_wp2_with fail
  refine (show Calls Tryz.prog 44 _ _ _ from HC.out _ ((O0.out.alloc _).alloc _)).mono ?_
  rintro e w1 ⟨ao', cap', rfl, g1⟩
  have R3 : w1.heap[w.heap.size]? = some (.cells #[.int .i64 0, .int .i64 0, .string ⟨#[]⟩, .slice none 0 0] 26) := (g1.out.2.block w.heap.size (by simp; omega) (fun h => h)).trans ((((Only.refl (fun _ => False) (w.alloc (.cells #[.int .i64 0, .int .i64 0, .string ⟨#[]⟩, .slice none 0 0] 26))).alloc _).block w.heap.size (by simp) (fun h => h)).trans (valloc_at _ _ _ rfl))
  have G1 : Hid (UrAt w1 (w.heap.size + 1) d (.slice ao' L cap') l ∧ Only (fun _ => False) w w1) := by
    obtain ⟨us, SS, ho, ht, hS⟩ := g1.out.1
    have e1 : L = l.length := HL.out
    refine ⟨⟨us, SS, ⟨ho.1, ?_⟩, ht, fun b hb => ⟨by have := (hS b hb).1; simp at this; omega, (hS b hb).2⟩⟩, ((O0.out.alloc _).alloc _).trans g1.out.2 (fun _ _ g => g)⟩
    rcases ho.2 with g | ⟨g, cc, cur, h1, h2, h3⟩
    · exact .inl g
    · exact .inr ⟨g, cc, cur, h1, by simp at h2; omega, h3⟩
  clear g1 HC O0
  obtain ⟨B, hBe⟩ : ∃ B, B = w.heap.size := ⟨_, rfl⟩
  have HE : Hid (B = w.heap.size) := hBe
  rw [← hBe] at R3 ⊢
  have c0 := blk_cells R3 0
  have c1 := blk_cells R3 1
  have c2 := blk_cells R3 2
  have c3 := blk_cells R3 3
  have z0 := blk_froz R3 0
  have z1 := blk_froz R3 1
  have z2 := blk_froz R3 2
  have z3 := blk_froz R3 3
  have HR3 : Hid (w1.heap[B]? = some (.cells #[.int .i64 0, .int .i64 0, .string ⟨#[]⟩, .slice none 0 0] 26)) := R3
  simp only [List.getElem?_toArray, List.getElem?_cons_zero, List.getElem?_cons_succ] at c0 c1 c2 c3
  clear R3 hBe
  go_wp2
  obtain ⟨p0, p1, p2, p3⟩ := set4 HR3.out rfl (.int .i64 4) (.int .i64 0) (.string ⟨#[]⟩) (.slice ao' L cap')
  have e1 : L = l.length := HL.out
  have hBe : B = w.heap.size := HE.out
  have OB := @uonly4 w1 B (.int .i64 4) (.int .i64 0) (.string ⟨#[]⟩) (.slice ao' L cap')
  refine bodyPost_ret (uresults_v rfl _ _ B p0 p1 p2 p3 rfl) rfl ⟨ao', cap', rfl, ?_, G1.out.2.trans OB (fun b h e => by omega)⟩
  obtain ⟨us, SS, ho, ht, hS⟩ := G1.out.1.only OB (fun b h e => by omega)
  refine ⟨us, SS, ⟨ho.1, ?_⟩, ht, fun b hb => ⟨by have := (hS b hb).1; omega, (hS b hb).2⟩⟩
  rcases ho.2 with g | ⟨g, cc, cur, h1, h2, h3⟩
  · exact .inl g
  · exact .inr ⟨g, cc, cur, h1, by omega, h3⟩
set_option maxRecDepth 100000 in
theorem utree_quot (d : Nat) (l : List Vt) (ao : Option Addr) (cap : Nat) (w : World) (S : Nat → Prop) (HT : TuS d 15 true) (h : QiAt w S d true (.slice ao l.length cap) l) (hl : l.length ≤ 2513169434900) (hw : ∀ x ∈ l, ∃ e, NfT e x) : Calls Tryz.prog 39 #[.iface 81 (.agg #[.slice ao l.length cap])] w fun e w' => ∃ ao' cap', e = .returned (.agg #[.int .i64 5, .int .i64 0, .string ⟨#[]⟩, .slice ao' l.length cap']) ∧ Hid (UrAt w' w.heap.size d (.slice ao' l.length cap') l ∧ Only (fun _ => False) w w') := by
  have HC : Hid (∀ w1, Only (fun _ => False) w w1 → Calls Tryz.prog 15 #[.slice ao l.length cap] w1 fun e w' => ∃ ao cap, e = .returned (.slice ao l.length cap) ∧ Hid (UrAt w' w1.heap.size d (.slice ao l.length cap) l ∧ Only (fun _ => False) w1 w')) := fun w1 o1 => HT _ _ _ S (h.step (fun _ g => g) (fun a u _ hc => o1.cell hc (fun g => g)) (Nat.le_refl _)) hl hw
  have mInt := uas_miss 81 87 67 _ Tryz.underlying87 (by intro m h; cases h) (by decide) _ uzero_Int
  have mStr := uas_miss 81 89 67 _ Tryz.underlying89 (by intro m h; cases h) (by decide) _ uzero_Str
  have mBool := uas_miss 81 91 67 _ Tryz.underlying91 (by intro m h; cases h) (by decide) _ uzero_Bool
  have mList := uas_miss 81 95 67 _ Tryz.underlying95 (by intro m h; cases h) (by decide) _ uzero_List
  have hQuot := uas_hit 81 67 _ Tryz.underlying81 (by intro m h; cases h)
  have O0 : Hid (Only (fun _ => False) w w) := Only.refl _ _
  clear HT h hl hw
  obtain ⟨L, hL⟩ : ∃ L, L = l.length := ⟨_, rfl⟩
  have HL : Hid (L = l.length) := hL
  rw [← hL] at HC
  rw [← hL]
  clear hL
  go_enter Tryz.func39, Tryz.ntmps39
  go_wp2_with fail
  refine (show Calls Tryz.prog 15 _ _ _ from HC.out _ ((O0.out.alloc _).alloc _)).mono ?_
  rintro e w1 ⟨ao', cap', rfl, g1⟩
  have R3 : w1.heap[w.heap.size]? = some (.cells #[.int .i64 0, .int .i64 0, .string ⟨#[]⟩, .slice none 0 0] 26) := (g1.out.2.block w.heap.size (by simp; omega) (fun h => h)).trans ((((Only.refl (fun _ => False) (w.alloc (.cells #[.int .i64 0, .int .i64 0, .string ⟨#[]⟩, .slice none 0 0] 26))).alloc _).block w.heap.size (by simp) (fun h => h)).trans (valloc_at _ _ _ rfl))
  have G1 : Hid (UrAt w1 (w.heap.size + 1) d (.slice ao' L cap') l ∧ Only (fun _ => False) w w1) := by
    obtain ⟨us, SS, ho, ht, hS⟩ := g1.out.1
    have e1 : L = l.length := HL.out
    refine ⟨⟨us, SS, ⟨ho.1, ?_⟩, ht, fun b hb => ⟨by have := (hS b hb).1; simp at this; omega, (hS b hb).2⟩⟩, ((O0.out.alloc _).alloc _).trans g1.out.2 (fun _ _ g => g)⟩
    rcases ho.2 with g | ⟨g, cc, cur, h1, h2, h3⟩
    · exact .inl g
    · exact .inr ⟨g, cc, cur, h1, by simp at h2; omega, h3⟩
  clear g1 HC O0
  obtain ⟨B, hBe⟩ : ∃ B, B = w.heap.size := ⟨_, rfl⟩
  have HE : Hid (B = w.heap.size) := hBe
  rw [← hBe] at R3 ⊢
  have c0 := blk_cells R3 0
  have c1 := blk_cells R3 1
  have c2 := blk_cells R3 2
  have c3 := blk_cells R3 3
  have z0 := blk_froz R3 0
  have z1 := blk_froz R3 1
  have z2 := blk_froz R3 2
  have z3 := blk_froz R3 3
  have HR3 : Hid (w1.heap[B]? = some (.cells #[.int .i64 0, .int .i64 0, .string ⟨#[]⟩, .slice none 0 0] 26)) := R3
  simp only [List.getElem?_toArray, List.getElem?_cons_zero, List.getElem?_cons_succ] at c0 c1 c2 c3
  clear R3 hBe
  go_wp2
  obtain ⟨p0, p1, p2, p3⟩ := set4 HR3.out rfl (.int .i64 5) (.int .i64 0) (.string ⟨#[]⟩) (.slice ao' L cap')
  have e1 : L = l.length := HL.out
  have hBe : B = w.heap.size := HE.out
  have OB := @uonly4 w1 B (.int .i64 5) (.int .i64 0) (.string ⟨#[]⟩) (.slice ao' L cap')
  refine bodyPost_ret (uresults_v rfl _ _ B p0 p1 p2 p3 rfl) rfl ⟨ao', cap', rfl, ?_, G1.out.2.trans OB (fun b h e => by omega)⟩
  obtain ⟨us, SS, ho, ht, hS⟩ := G1.out.1.only OB (fun b h e => by omega)
  refine ⟨us, SS, ⟨ho.1, ?_⟩, ht, fun b hb => ⟨by have := (hS b hb).1; omega, (hS b hb).2⟩⟩
  rcases ho.2 with g | ⟨g, cc, cur, h1, h2, h3⟩
  · exact .inl g
  · exact .inr ⟨g, cc, cur, h1, by omega, h3⟩
set_option maxRecDepth 100000 in
theorem uzero_Box (W : World) : (zeroValue 97).run Tryz.prog W = .ok (.agg #[.int .i64 0]) W := by rfl
set_option maxRecDepth 100000 in
theorem utree_box (n : Int) (h1 : -9223372036854775808 ≤ n) (h2 : n ≤ 9223372036854775807) (w : World) : Calls Tryz.prog 39 #[.iface 97 (.agg #[.int .i64 n])] w fun e w' => e = .returned (.agg #[.int .i64 6, .int .i64 n, .string ⟨#[]⟩, .slice none 0 0]) ∧ Only (fun _ => False) w w' := by
  have mInt := uas_miss 97 87 67 _ Tryz.underlying87 (by intro m h; cases h) (by decide) _ uzero_Int
  have mStr := uas_miss 97 89 67 _ Tryz.underlying89 (by intro m h; cases h) (by decide) _ uzero_Str
  have mBool := uas_miss 97 91 67 _ Tryz.underlying91 (by intro m h; cases h) (by decide) _ uzero_Bool
  have mList := uas_miss 97 95 67 _ Tryz.underlying95 (by intro m h; cases h) (by decide) _ uzero_List
  have mQuot := uas_miss 97 81 67 _ Tryz.underlying81 (by intro m h; cases h) (by decide) _ uzero_Quot
  have hBox := uas_hit 97 67 _ Tryz.underlying97 (by intro m h; cases h)
  have hw : IntKind.i64.wrap n = n := by rw [IntKind.wrap_i64]; omega
  clear h1 h2
  have O0 : Hid (Only (fun _ => False) w w) := Only.refl _ _
  go_enter Tryz.func39, Tryz.ntmps39
  go_wp2
  refine bodyPost_ret (uresults_v rfl _ _ w.heap.size (x := _) (y := _) (z := _) (r := _) ?_ ?_ ?_ ?_ rfl) rfl ⟨rfl, ?_⟩
  · simp [go_sem]
  · simp [go_sem]
  · simp [go_sem]
  · simp [go_sem]
  · first
      | exact O0.out.alloc _
      | exact ((O0.out.alloc _).alloc _)
      | exact ((((O0.out.alloc _).setCell _ _ (fun h => absurd h (by simp))).setCell _ _ (fun h => absurd h (by simp))).setCell _ _ (fun h => absurd h (by simp))).setCell _ _ (fun h => absurd h (by simp))
      | exact (((((O0.out.alloc _).alloc _).setCell _ _ (fun h => absurd h (by simp))).setCell _ _ (fun h => absurd h (by simp))).setCell _ _ (fun h => absurd h (by simp))).setCell _ _ (fun h => absurd h (by simp))
set_option maxRecDepth 100000 in
theorem utree_nil  (w : World) : Calls Tryz.prog 39 #[.nilIface] w fun e w' => e = .returned (.agg #[.int .i64 8, .int .i64 0, .string ⟨#[]⟩, .slice none 0 0]) ∧ Only (fun _ => False) w w' := by
  have mInt := uas_nil 87 67 _ Tryz.underlying87 (by intro m h; cases h) _ uzero_Int
  have mStr := uas_nil 89 67 _ Tryz.underlying89 (by intro m h; cases h) _ uzero_Str
  have mBool := uas_nil 91 67 _ Tryz.underlying91 (by intro m h; cases h) _ uzero_Bool
  have mList := uas_nil 95 67 _ Tryz.underlying95 (by intro m h; cases h) _ uzero_List
  have mQuot := uas_nil 81 67 _ Tryz.underlying81 (by intro m h; cases h) _ uzero_Quot
  have mBox := uas_nil 97 67 _ Tryz.underlying97 (by intro m h; cases h) _ uzero_Box
  have O0 : Hid (Only (fun _ => False) w w) := Only.refl _ _
  go_enter Tryz.func39, Tryz.ntmps39
  go_wp2
  refine bodyPost_ret (uresults_v rfl _ _ w.heap.size (x := _) (y := _) (z := _) (r := _) ?_ ?_ ?_ ?_ rfl) rfl ⟨rfl, ?_⟩
  · simp [go_sem]
  · simp [go_sem]
  · simp [go_sem]
  · simp [go_sem]
  · first
      | exact O0.out.alloc _
      | exact ((O0.out.alloc _).alloc _)
      | exact ((((O0.out.alloc _).setCell _ _ (fun h => absurd h (by simp))).setCell _ _ (fun h => absurd h (by simp))).setCell _ _ (fun h => absurd h (by simp))).setCell _ _ (fun h => absurd h (by simp))
      | exact (((((O0.out.alloc _).alloc _).setCell _ _ (fun h => absurd h (by simp))).setCell _ _ (fun h => absurd h (by simp))).setCell _ _ (fun h => absurd h (by simp))).setCell _ _ (fun h => absurd h (by simp))
set_option maxRecDepth 100000 in
theorem uitree_nil  (w : World) : Calls Tryz.prog 30 #[.nilIface] w fun e w' => e = .returned (.agg #[.int .i64 8, .int .i64 0, .string ⟨#[]⟩, .slice none 0 0]) ∧ Only (fun _ => False) w w' := by
  have mPush := uas_nil 70 37 _ Tryz.underlying70 (by intro m h; cases h) _ uzero_Push
  have mCall := uas_nil 40 37 _ Tryz.underlying40 (by intro m h; cases h) _ uzero_Call
  have O0 : Hid (Only (fun _ => False) w w) := Only.refl _ _
  go_enter Tryz.func30, Tryz.ntmps30
  go_wp2
  refine bodyPost_ret (uresults_v rfl _ _ w.heap.size (x := _) (y := _) (z := _) (r := _) ?_ ?_ ?_ ?_ rfl) rfl ⟨rfl, ?_⟩
  · simp [go_sem]
  · simp [go_sem]
  · simp [go_sem]
  · simp [go_sem]
  · first
      | exact O0.out.alloc _
      | exact ((O0.out.alloc _).alloc _)
      | exact ((((O0.out.alloc _).setCell _ _ (fun h => absurd h (by simp))).setCell _ _ (fun h => absurd h (by simp))).setCell _ _ (fun h => absurd h (by simp))).setCell _ _ (fun h => absurd h (by simp))
      | exact (((((O0.out.alloc _).alloc _).setCell _ _ (fun h => absurd h (by simp))).setCell _ _ (fun h => absurd h (by simp))).setCell _ _ (fun h => absurd h (by simp))).setCell _ _ (fun h => absurd h (by simp))
theorem utree_of (d : Nat) (H1 : TuS d 44 false) (H2 : TuS d 15 true) : TuE (d + 1) 39 false := by
  intro v t w S h hw
  obtain ⟨k, n, s, l⟩ := t
  obtain ⟨e, hw⟩ := hw
  cases e with
  | zero => exact hw.elim
  | succ e =>
  obtain ⟨hw1, hwb, hwn, hws, hw2⟩ := hw
  dsimp only at hw1 hwb hwn hws hw2
  rcases h with ⟨h1, h2, h3⟩ | ⟨h1, h2, h3⟩ | ⟨h1, h2, h3⟩ | ⟨h1, h2, h3⟩ | ⟨h1, h2, h3⟩ | ⟨h1, ao, cap, hv, hc, hl⟩
  · dsimp only at h1 h2 h3
    subst h1 h3
    have e2 : s = ⟨#[]⟩ := hws
    subst e2
    exact (utree_int n w).mono fun e w' g => ⟨_, g.1, nu_nil h2, g.2⟩
  · dsimp only at h1 h2 h3
    subst h1 h3
    have e2 : n = 0 := hwn
    subst e2
    exact (utree_str s w).mono fun e w' g => ⟨_, g.1, nu_nil h2, g.2⟩
  · dsimp only at h1 h2 h3
    subst h1 h3
    have e2 : s = ⟨#[]⟩ := hws
    have e3 : n = if n != 0 then 1 else 0 := hwn
    subst e2
    by_cases hn : n = 0
    · subst hn
      exact (utree_no w).mono fun e w' g => ⟨_, g.1, nu_nil h2, g.2⟩
    · have e1 : (n != 0) = true := by simp [hn]
      rw [e1] at e3
      rw [if_pos rfl] at e3
      subst e3
      exact (utree_yes w).mono fun e w' g => ⟨_, g.1, nu_nil h2, g.2⟩
  · dsimp only at h1 h2 h3
    subst h1 h3
    have e2 : s = ⟨#[]⟩ := hws
    subst e2
    exact (utree_box n hwb.1 hwb.2 w).mono fun e w' g => ⟨_, g.1, nu_nil h2, g.2⟩
  · dsimp only at h1 h2 h3
    subst h1 h3
    have e2 : s = ⟨#[]⟩ := hws
    have e3 : n = 0 := hwn
    subst e2 e3
    exact (utree_nil w).mono fun e w' g => ⟨_, g.1, nu_nil h2, g.2⟩
  · dsimp only at h1 hv hc hl
    rcases h1 with h1 | h1
    · subst h1
      rw [if_pos rfl] at hv
      subst hv
      have e2 : s = ⟨#[]⟩ := hws
      have e3 : n = 0 := hwn
      subst e2 e3
      exact (utree_list d l ao cap w S H1 ⟨ao, cap, rfl, hc, hl⟩ hw1 (fun x hx => ⟨e, hw2 x hx⟩)).mono fun e w' g => by
        obtain ⟨ao', cap', he, g⟩ := g
        exact ⟨_, he, g.out.1.tree rfl, g.out.2⟩
    · subst h1
      rw [if_neg (by omega)] at hv
      subst hv
      have e2 : s = ⟨#[]⟩ := hws
      have e3 : n = 0 := hwn
      subst e2 e3
      exact (utree_quot d l ao cap w S H2 ⟨ao, cap, rfl, hc, hl⟩ hw1 (fun x hx => ⟨e, hw2 x hx⟩)).mono fun e w' g => by
        obtain ⟨ao', cap', he, g⟩ := g
        exact ⟨_, he, g.out.1.tree rfl, g.out.2⟩
set_option maxRecDepth 100000 in
theorem uitree_push (u : Value) (hu : ∃ T y, u = .iface T y) (x0 x1 : Int) (x2 : ByteArray) (Q : Value → World → Prop) (w : World)
    (HC0 : ∀ w1, w.heap.size < w1.heap.size → Only (fun _ => False) w w1 → Calls Tryz.prog 39 #[u] w1 fun e w' => ∃ lv, e = .returned (.agg #[.int .i64 x0, .int .i64 x1, .string x2, lv]) ∧ (∃ ao n cap, lv = .slice ao n cap) ∧ Hid ((∀ w2, Only (fun b => b = w.heap.size) w' w2 → Q lv w2) ∧ Only (fun _ => False) w1 w')) :
    Calls Tryz.prog 30 #[.iface 70 (.agg #[u])] w fun e w' => ∃ lv, e = .returned (.agg #[.int .i64 x0, .int .i64 x1, .string x2, lv]) ∧ Hid (Q lv w' ∧ Only (fun _ => False) w w') := by
  have HC : Hid (∀ w1, w.heap.size < w1.heap.size → Only (fun _ => False) w w1 → Calls Tryz.prog 39 #[u] w1 fun e w' => ∃ lv, e = .returned (.agg #[.int .i64 x0, .int .i64 x1, .string x2, lv]) ∧ (∃ ao n cap, lv = .slice ao n cap) ∧ Hid ((∀ w2, Only (fun b => b = w.heap.size) w' w2 → Q lv w2) ∧ Only (fun _ => False) w1 w')) := HC0
  obtain ⟨T, y, rfl⟩ := hu
  have hPush := uas_hit 70 37 _ Tryz.underlying70 (by intro m h; cases h)
  have O0 : Hid (Only (fun _ => False) w w) := Only.refl _ _
  clear HC0
  go_enter Tryz.func30, Tryz.ntmps30
  go_wp2_with fail
  refine (show Calls Tryz.prog 39 _ _ _ from HC.out _ (by simp; omega) ((O0.out.alloc _).alloc _)).mono ?_
  rintro e w1 ⟨lv, rfl, ⟨ao, nn, cap, rfl⟩, g1⟩
  have R3 : w1.heap[w.heap.size]? = some (.cells #[.int .i64 0, .int .i64 0, .string ⟨#[]⟩, .slice none 0 0] 26) := (g1.out.2.block w.heap.size (by simp; omega) (fun h => h)).trans ((((Only.refl (fun _ => False) (w.alloc (.cells #[.int .i64 0, .int .i64 0, .string ⟨#[]⟩, .slice none 0 0] 26))).alloc _).block w.heap.size (by simp) (fun h => h)).trans (valloc_at _ _ _ rfl))
  have G1 : Hid ((∀ w2, Only (fun b => b = w.heap.size) w1 w2 → Q (.slice ao nn cap) w2) ∧ Only (fun _ => False) w w1) := ⟨g1.out.1, ((O0.out.alloc _).alloc _).trans g1.out.2 (fun _ _ g => g)⟩
  clear g1 HC O0
  obtain ⟨B, hBe⟩ : ∃ B, B = w.heap.size := ⟨_, rfl⟩
  have HE : Hid (B = w.heap.size) := hBe
  rw [← hBe] at R3 ⊢
  have c0 := blk_cells R3 0
  have c1 := blk_cells R3 1
  have c2 := blk_cells R3 2
  have c3 := blk_cells R3 3
  have z0 := blk_froz R3 0
  have z1 := blk_froz R3 1
  have z2 := blk_froz R3 2
  have z3 := blk_froz R3 3
  have HR3 : Hid (w1.heap[B]? = some (.cells #[.int .i64 0, .int .i64 0, .string ⟨#[]⟩, .slice none 0 0] 26)) := R3
  simp only [List.getElem?_toArray, List.getElem?_cons_zero, List.getElem?_cons_succ] at c0 c1 c2 c3
  clear R3 hBe
  go_wp2
  obtain ⟨p0, p1, p2, p3⟩ := set4 HR3.out rfl (.int .i64 x0) (.int .i64 x1) (.string x2) (.slice ao nn cap)
  have hBe : B = w.heap.size := HE.out
  have OB := @uonly4 w1 B (.int .i64 x0) (.int .i64 x1) (.string x2) (.slice ao nn cap)
  refine bodyPost_ret (uresults_v rfl _ _ B p0 p1 p2 p3 rfl) rfl ⟨_, rfl, G1.out.1 _ (by rw [← hBe]; exact OB), G1.out.2.trans OB (fun b h e => by omega)⟩
theorem uitree_of (d : Nat) (H : TuE d 39 false) : TuE (d + 1) 30 true := by
  intro v t w S h hw
  rcases h with ⟨h1, h2, h3⟩ | ⟨h1, h2, h3⟩ | ⟨h1, h8, u, h3, h4⟩
  · obtain ⟨k, n, s, l⟩ := t
    obtain ⟨e, hw⟩ := hw
    cases e with
    | zero => exact hw.elim
    | succ e =>
    obtain ⟨hw1, hwb, hwn, hws, hw2⟩ := hw
    dsimp only at h1 h2 h3 hwn
    subst h1 h3
    have e3 : n = 0 := hwn
    subst e3
    exact (utree_call s w).mono fun e w' g => ⟨_, g.1, nu_nil h2, g.2⟩
  · obtain ⟨k, n, s, l⟩ := t
    obtain ⟨e, hw⟩ := hw
    cases e with
    | zero => exact hw.elim
    | succ e =>
    obtain ⟨hw1, hwb, hwn, hws, hw2⟩ := hw
    dsimp only at h1 h2 h3 hwn hws
    subst h1 h3
    have e2 : s = ⟨#[]⟩ := hws
    have e3 : n = 0 := hwn
    subst e2 e3
    exact (uitree_nil w).mono fun e w' g => ⟨_, g.1, nu_nil h2, g.2⟩
  · subst h3
    refine (uitree_push u (h4.iface h8) t.k t.n t.s (fun lv w' => NuAt w' w.heap.size (d + 1) t lv) w fun w1 hlt o1 => ?_).mono fun e w' g => g
    have h5 : TiAt w1 S d false t u := h4.step (fun _ g => g) (fun a u _ hc => o1.cell hc (fun g => g)) (Nat.le_refl _)
    refine (H u t w1 S h5 hw).mono fun e w' g => ?_
    obtain ⟨lv, he, g⟩ := g
    obtain ⟨ao, cap, hf⟩ := g.out.1.form
    exact ⟨lv, he, ⟨ao, _, cap, hf⟩, fun w2 o2 => ((g.out.1.only o2 (fun b hb e => by omega)).lower (by omega)).deep (by omega), g.out.2⟩
end Go.Proofs.YtodbkihobgdpdaaGreatDoor
namespace Go.Proofs.YtodbkihobgdpdaaGreatDoor
open Go.RowKit
set_option linter.unusedSimpArgs false
set_option linter.unusedVariables false
set_option maxRecDepth 100000 in
theorem uv_info : ∃ i z, Tryz.prog.info? 26 = some i ∧ i.zero = some z ∧ i.size = 4 ∧ i.bytes = 56 ∧ z.cells.size = 4 := ⟨_, _, rfl, rfl, rfl, rfl, rfl⟩
set_option maxRecDepth 100000 in
set_option maxHeartbeats 4000000 in
theorem utrees_of (d : Nat) (H : TuE d 39 false) : TuS d 44 false := by
  intro v l w S hq hl hw
  obtain ⟨av, cv, rfl, hcv, hel⟩ := hq
  have HE : Hid (∀ (j : Nat) (x : Vt), l[j]? = some x → ∃ g k u, av = some ⟨g, k, none⟩ ∧ w.cell? ⟨g, k + j, none⟩ = some u ∧ ∀ w1, Only (fun _ => False) w w1 → Calls Tryz.prog 39 #[u] w1 fun e w' => ∃ lv, e = .returned (.agg #[.int .i64 x.k, .int .i64 (x.n), .string (x.s), lv]) ∧ Hid (NuAt w' w1.heap.size d x lv ∧ Only (fun _ => False) w1 w')) := by
    intro j x hx
    obtain ⟨g, k, u, ha, hg, hc, ht⟩ := hel j x hx
    exact ⟨g, k, u, ha, hc, fun w1 o1 => H u x w1 S (ht.step (fun _ g => g) (fun a u _ hc => o1.cell hc (fun g => g)) (Nat.le_refl _)) (hw x (List.mem_of_getElem? hx))⟩
  have HLB : Hid (l.length ≤ 2513169434900) := hl
  clear hcv hel hl hw H
  obtain ⟨N, hN⟩ : ∃ N, N = l.length := ⟨_, rfl⟩
  have HNN : Hid (N = l.length) := hN
  rw [← hN]
  clear hN
  go_enter Tryz.func44, Tryz.ntmps44
  go_wp2
  go_loopw [3, 4] (fun r3 r4 wr => ∃ (i : Nat) (ao : Option Addr) (cap : Nat), r3 = .slice ao i cap ∧ r4 = .int .i64 (i : Int) ∧ i ≤ N ∧ Hid (UrAt wr w.heap.size d (.slice ao i cap) (l.take i) ∧ Only (fun _ => False) w wr)) (fun _ r4 _ => N - vuOf r4)
  case atStart => exact ⟨0, none, 0, rfl, rfl, Nat.zero_le _, ur_nil _ _ _, Only.refl _ _⟩
  case round =>
    obtain ⟨i, ao, cap, rfl, rfl, hi, HI⟩ := hrel
    obtain ⟨w1, rfl⟩ : ∃ w1, w1 = wr := ⟨_, rfl⟩
    have hNl : N = l.length := HNN.out
    have hN4 : l.length ≤ 2513169434900 := HLB.out
    by_cases hiN : i < N
    · obtain ⟨x, hx⟩ : ∃ x, l[i]? = some x := ⟨l[i]'(by omega), List.getElem?_eq_getElem (by omega)⟩
      obtain ⟨g, k, u, rfl, hc, hcall⟩ := HE.out i x hx
      have hc1 : w1.cell? ⟨g, k + i, none⟩ = some u := HI.out.2.cell hc (fun g => g)
      have HC : Hid (Calls Tryz.prog 39 #[u] w1 fun e w' => ∃ lv, e = .returned (.agg #[.int .i64 x.k, .int .i64 (x.n), .string (x.s), lv]) ∧ Hid (NuAt w' w1.heap.size d x lv ∧ Only (fun _ => False) w1 w')) := hcall w1 HI.out.2
      have HX : Hid (l.take i ++ [x] = l.take (i + 1) ∧ (l.take i).length = i) := by
        have hil : i < l.length := by omega
        refine ⟨?_, by simp; omega⟩
        rw [List.take_add_one, hx]
        rfl
      have HB : Hid (i < N ∧ N ≤ 2513169434900) := ⟨hiN, by omega⟩
      have i1 : (i : Int) < (N : Int) := by omega
      have i0 : (0 : Int) ≤ (i : Int) := by omega
      clear hc hcall HE hNl hN4 hx
      obtain ⟨x0, hx0⟩ : ∃ x0, x0 = x.k := ⟨_, rfl⟩
      obtain ⟨x1, hx1⟩ : ∃ x1, x1 = x.n := ⟨_, rfl⟩
      obtain ⟨x2, hx2⟩ : ∃ x2, x2 = x.s := ⟨_, rfl⟩
      have HXX : Hid (x0 = x.k ∧ x1 = x.n ∧ x2 = x.s) := ⟨hx0, hx1, hx2⟩
      rw [← hx0, ← hx1, ← hx2] at HC
      clear hx0 hx1 hx2
      go_wp2_with fail
      refine (show Calls Tryz.prog 39 _ _ _ from HC.out).mono ?_
      rintro e w2 ⟨lv, rfl, g2⟩
      obtain ⟨al, cl, hlv⟩ := g2.out.1.form
      have W4 : UrAt (w2.alloc (.cells #[.int .i64 x0, .int .i64 x1, .string x2, lv] 26)) w.heap.size d (.slice ao i cap) (l.take i) := (HI.out.1.only g2.out.2 (fun _ _ h => h)).only ((Only.refl (fun _ => False) w2).alloc _) (fun _ _ h => h)
      have N4 : NuAt (w2.alloc (.cells #[.int .i64 x0, .int .i64 x1, .string x2, lv] 26)) w1.heap.size d x lv := g2.out.1.only ((Only.refl (fun _ => False) w2).alloc _) (fun _ _ h => h)
      have O4 : Only (fun _ => False) w (w2.alloc (.cells #[.int .i64 x0, .int .i64 x1, .string x2, lv] 26)) := (HI.out.2.trans g2.out.2 (fun _ _ g => g)).alloc _
      have hlt : ∀ k, (Value.slice ao i cap).ownBlock = some k → k < w1.heap.size := fun k hk => by
        obtain ⟨us, S', hr, _⟩ := HI.out.1
        exact (hr.lt k hk).2
      have hsz1 : w.heap.size ≤ w1.heap.size := HI.out.2.size
      have hsz2 : w1.heap.size ≤ w2.heap.size := g2.out.2.size
      obtain ⟨us, SS, hown, htr, hSS⟩ := W4
      rw [HX.out.2] at hown
      have HOW : Hid ((w2.alloc (.cells #[.int .i64 x0, .int .i64 x1, .string x2, lv] 26)).ownsRow w.heap.size 26 4 (.slice ao i cap) i us) := hown
      have HAL : Hid (_ ∧ _ ∧ NuAt (w2.alloc (.cells #[.int .i64 x0, .int .i64 x1, .string x2, lv] 26)) w1.heap.size d x lv ∧ Only (fun _ => False) w (w2.alloc (.cells #[.int .i64 x0, .int .i64 x1, .string x2, lv] 26)) ∧ w.heap.size ≤ w1.heap.size ∧ (∀ k, (Value.slice ao i cap).ownBlock = some k → k < w1.heap.size)) := ⟨htr, hSS, N4, O4, hsz1, hlt⟩
      subst hlv
      obtain ⟨i0', z0, hi', hz0, hz1, hz2, hz3⟩ := uv_info
      obtain ⟨xl, hxl⟩ : ∃ xl, xl = x.l.length := ⟨_, rfl⟩
      rw [← hxl] at HOW HAL
      rw [← hxl]
      clear N4 O4 hown htr hSS hlt g2 HI HC hxl
      go_wp2_with (at_builtin; refine wpList_append_own_at _ rfl _ _ 22 rfl w.heap.size 26 i0' z0 4 56 Tryz.underlying22 hi' hz0 hz1 hz2 hz3 (by decide) _ i us rfl HOW.out ⟨w2.heap.size, 0, none⟩ 1 1 [.int .i64 x0, .int .i64 x1, .string x2, .slice al xl cl] rfl rfl ?c1 ?c2 ?c3 ?c4 ?c5 ?_)
      case c1 =>
        intro j u hj
        rcases j with _ | _ | _ | _ | j <;> simp at hj <;> subst hj <;> simp [Addr.add]
      case c2 =>
        intro u hu
        simp only [List.mem_cons, List.not_mem_nil, or_false] at hu
        rcases hu with rfl | rfl | rfl | rfl <;> rfl
      case c3 => have := HB.out; unfold maxLen; omega
      case c4 => have := HB.out; omega
      case c5 => simp; omega
      intro v' w4 hown' hgrow _ hat
      obtain ⟨a1, a2, a3, a4, a5, a6⟩ := HAL.out
      obtain ⟨e0, e1, e2⟩ := HXX.out
      have W5 : UrAt w4 w.heap.size d v' (l.take i ++ [x]) := UrAt.snoc hgrow (by rw [HX.out.2]; exact HOW.out) a1 a2 a3 a5 a6 (by rw [HX.out.2, ← e0, ← e1, ← e2]; exact hown') (by simpa using hat)
      rw [HX.out.1] at W5
      have og : Only (fun k => (Value.slice ao i cap).ownBlock = some k) (w2.alloc (.cells #[.int .i64 x0, .int .i64 x1, .string x2, .slice al xl cl] 26)) w4 := (Only.refl _ _).grown hgrow (fun k e _ => e)
      have O5 : Only (fun _ => False) w w4 := a4.trans og (fun k hk e => by have := (HOW.out.lt k e).1; omega)
      obtain ⟨ao', cap', hv'⟩ := W5.form
      have hlen : (l.take (i + 1)).length = i + 1 := by have : N = l.length := HNN.out; have := HB.out; simp; omega
      rw [hlen] at hv'
      subst hv'
      have HK5 : Hid (UrAt w4 w.heap.size d (.slice ao' (i + 1) cap') (l.take (i + 1)) ∧ Only (fun _ => False) w w4) := ⟨W5, O5⟩
      clear W5 O5 og HAL HOW hown' hgrow hat a1 a2 a3 a4 a5 a6 hi' hz0 hz1 hz2 hz3 hsz1 hsz2 e0 e1 e2 HXX hlen
      have hi4 : i ≤ 2513169434900 := by have := HB.out; omega
      go_wp2
      go_roundw
      case rel => exact ⟨i + 1, ao', cap', rfl, by go_num, by omega, HK5⟩
      case measure => simp only [vuOf]; have := HB.out; omega
    · obtain rfl : i = N := by omega
      have i1 : ¬ (i : Int) < (i : Int) := by omega
      have HK : Hid (UrAt w1 w.heap.size d (.slice ao i cap) l ∧ Only (fun _ => False) w w1) := by
        have := HI.out
        rw [hNl, List.take_length, ← hNl] at this
        exact this
      clear HI hNl hN4
      go_wp2
      go_ret
      exact ⟨ao, cap, rfl, HK⟩
set_option maxRecDepth 100000 in
set_option maxHeartbeats 4000000 in
theorem uitrees_of (d : Nat) (H : TuE d 30 true) : TuS d 15 true := by
  intro v l w S hq hl hw
  obtain ⟨av, cv, rfl, hcv, hel⟩ := hq
  have HE : Hid (∀ (j : Nat) (x : Vt), l[j]? = some x → ∃ g k u, av = some ⟨g, k, none⟩ ∧ w.cell? ⟨g, k + j, none⟩ = some u ∧ ∀ w1, Only (fun _ => False) w w1 → Calls Tryz.prog 30 #[u] w1 fun e w' => ∃ lv, e = .returned (.agg #[.int .i64 x.k, .int .i64 (x.n), .string (x.s), lv]) ∧ Hid (NuAt w' w1.heap.size d x lv ∧ Only (fun _ => False) w1 w')) := by
    intro j x hx
    obtain ⟨g, k, u, ha, hg, hc, ht⟩ := hel j x hx
    exact ⟨g, k, u, ha, hc, fun w1 o1 => H u x w1 S (ht.step (fun _ g => g) (fun a u _ hc => o1.cell hc (fun g => g)) (Nat.le_refl _)) (hw x (List.mem_of_getElem? hx))⟩
  have HLB : Hid (l.length ≤ 2513169434900) := hl
  clear hcv hel hl hw H
  obtain ⟨N, hN⟩ : ∃ N, N = l.length := ⟨_, rfl⟩
  have HNN : Hid (N = l.length) := hN
  rw [← hN]
  clear hN
  go_enter Tryz.func15, Tryz.ntmps15
  go_wp2
  go_loopw [3, 4] (fun r3 r4 wr => ∃ (i : Nat) (ao : Option Addr) (cap : Nat), r3 = .slice ao i cap ∧ r4 = .int .i64 (i : Int) ∧ i ≤ N ∧ Hid (UrAt wr w.heap.size d (.slice ao i cap) (l.take i) ∧ Only (fun _ => False) w wr)) (fun _ r4 _ => N - vuOf r4)
  case atStart => exact ⟨0, none, 0, rfl, rfl, Nat.zero_le _, ur_nil _ _ _, Only.refl _ _⟩
  case round =>
    obtain ⟨i, ao, cap, rfl, rfl, hi, HI⟩ := hrel
    obtain ⟨w1, rfl⟩ : ∃ w1, w1 = wr := ⟨_, rfl⟩
    have hNl : N = l.length := HNN.out
    have hN4 : l.length ≤ 2513169434900 := HLB.out
    by_cases hiN : i < N
    · obtain ⟨x, hx⟩ : ∃ x, l[i]? = some x := ⟨l[i]'(by omega), List.getElem?_eq_getElem (by omega)⟩
      obtain ⟨g, k, u, rfl, hc, hcall⟩ := HE.out i x hx
      have hc1 : w1.cell? ⟨g, k + i, none⟩ = some u := HI.out.2.cell hc (fun g => g)
      have HC : Hid (Calls Tryz.prog 30 #[u] w1 fun e w' => ∃ lv, e = .returned (.agg #[.int .i64 x.k, .int .i64 (x.n), .string (x.s), lv]) ∧ Hid (NuAt w' w1.heap.size d x lv ∧ Only (fun _ => False) w1 w')) := hcall w1 HI.out.2
      have HX : Hid (l.take i ++ [x] = l.take (i + 1) ∧ (l.take i).length = i) := by
        have hil : i < l.length := by omega
        refine ⟨?_, by simp; omega⟩
        rw [List.take_add_one, hx]
        rfl
      have HB : Hid (i < N ∧ N ≤ 2513169434900) := ⟨hiN, by omega⟩
      have i1 : (i : Int) < (N : Int) := by omega
      have i0 : (0 : Int) ≤ (i : Int) := by omega
      clear hc hcall HE hNl hN4 hx
      obtain ⟨x0, hx0⟩ : ∃ x0, x0 = x.k := ⟨_, rfl⟩
      obtain ⟨x1, hx1⟩ : ∃ x1, x1 = x.n := ⟨_, rfl⟩
      obtain ⟨x2, hx2⟩ : ∃ x2, x2 = x.s := ⟨_, rfl⟩
      have HXX : Hid (x0 = x.k ∧ x1 = x.n ∧ x2 = x.s) := ⟨hx0, hx1, hx2⟩
      rw [← hx0, ← hx1, ← hx2] at HC
      clear hx0 hx1 hx2
      go_wp2_with fail
      refine (show Calls Tryz.prog 30 _ _ _ from HC.out).mono ?_
      rintro e w2 ⟨lv, rfl, g2⟩
      obtain ⟨al, cl, hlv⟩ := g2.out.1.form
      have W4 : UrAt (w2.alloc (.cells #[.int .i64 x0, .int .i64 x1, .string x2, lv] 26)) w.heap.size d (.slice ao i cap) (l.take i) := (HI.out.1.only g2.out.2 (fun _ _ h => h)).only ((Only.refl (fun _ => False) w2).alloc _) (fun _ _ h => h)
      have N4 : NuAt (w2.alloc (.cells #[.int .i64 x0, .int .i64 x1, .string x2, lv] 26)) w1.heap.size d x lv := g2.out.1.only ((Only.refl (fun _ => False) w2).alloc _) (fun _ _ h => h)
      have O4 : Only (fun _ => False) w (w2.alloc (.cells #[.int .i64 x0, .int .i64 x1, .string x2, lv] 26)) := (HI.out.2.trans g2.out.2 (fun _ _ g => g)).alloc _
      have hlt : ∀ k, (Value.slice ao i cap).ownBlock = some k → k < w1.heap.size := fun k hk => by
        obtain ⟨us, S', hr, _⟩ := HI.out.1
        exact (hr.lt k hk).2
      have hsz1 : w.heap.size ≤ w1.heap.size := HI.out.2.size
      have hsz2 : w1.heap.size ≤ w2.heap.size := g2.out.2.size
      obtain ⟨us, SS, hown, htr, hSS⟩ := W4
      rw [HX.out.2] at hown
      have HOW : Hid ((w2.alloc (.cells #[.int .i64 x0, .int .i64 x1, .string x2, lv] 26)).ownsRow w.heap.size 26 4 (.slice ao i cap) i us) := hown
      have HAL : Hid (_ ∧ _ ∧ NuAt (w2.alloc (.cells #[.int .i64 x0, .int .i64 x1, .string x2, lv] 26)) w1.heap.size d x lv ∧ Only (fun _ => False) w (w2.alloc (.cells #[.int .i64 x0, .int .i64 x1, .string x2, lv] 26)) ∧ w.heap.size ≤ w1.heap.size ∧ (∀ k, (Value.slice ao i cap).ownBlock = some k → k < w1.heap.size)) := ⟨htr, hSS, N4, O4, hsz1, hlt⟩
      subst hlv
      obtain ⟨i0', z0, hi', hz0, hz1, hz2, hz3⟩ := uv_info
      obtain ⟨xl, hxl⟩ : ∃ xl, xl = x.l.length := ⟨_, rfl⟩
      rw [← hxl] at HOW HAL
      rw [← hxl]
      clear N4 O4 hown htr hSS hlt g2 HI HC hxl
      go_wp2_with (at_builtin; refine wpList_append_own_at _ rfl _ _ 22 rfl w.heap.size 26 i0' z0 4 56 Tryz.underlying22 hi' hz0 hz1 hz2 hz3 (by decide) _ i us rfl HOW.out ⟨w2.heap.size, 0, none⟩ 1 1 [.int .i64 x0, .int .i64 x1, .string x2, .slice al xl cl] rfl rfl ?c1 ?c2 ?c3 ?c4 ?c5 ?_)
      case c1 =>
        intro j u hj
        rcases j with _ | _ | _ | _ | j <;> simp at hj <;> subst hj <;> simp [Addr.add]
      case c2 =>
        intro u hu
        simp only [List.mem_cons, List.not_mem_nil, or_false] at hu
        rcases hu with rfl | rfl | rfl | rfl <;> rfl
      case c3 => have := HB.out; unfold maxLen; omega
      case c4 => have := HB.out; omega
      case c5 => simp; omega
      intro v' w4 hown' hgrow _ hat
      obtain ⟨a1, a2, a3, a4, a5, a6⟩ := HAL.out
      obtain ⟨e0, e1, e2⟩ := HXX.out
      have W5 : UrAt w4 w.heap.size d v' (l.take i ++ [x]) := UrAt.snoc hgrow (by rw [HX.out.2]; exact HOW.out) a1 a2 a3 a5 a6 (by rw [HX.out.2, ← e0, ← e1, ← e2]; exact hown') (by simpa using hat)
      rw [HX.out.1] at W5
      have og : Only (fun k => (Value.slice ao i cap).ownBlock = some k) (w2.alloc (.cells #[.int .i64 x0, .int .i64 x1, .string x2, .slice al xl cl] 26)) w4 := (Only.refl _ _).grown hgrow (fun k e _ => e)
      have O5 : Only (fun _ => False) w w4 := a4.trans og (fun k hk e => by have := (HOW.out.lt k e).1; omega)
      obtain ⟨ao', cap', hv'⟩ := W5.form
      have hlen : (l.take (i + 1)).length = i + 1 := by have : N = l.length := HNN.out; have := HB.out; simp; omega
      rw [hlen] at hv'
      subst hv'
      have HK5 : Hid (UrAt w4 w.heap.size d (.slice ao' (i + 1) cap') (l.take (i + 1)) ∧ Only (fun _ => False) w w4) := ⟨W5, O5⟩
      clear W5 O5 og HAL HOW hown' hgrow hat a1 a2 a3 a4 a5 a6 hi' hz0 hz1 hz2 hz3 hsz1 hsz2 e0 e1 e2 HXX hlen
      have hi4 : i ≤ 2513169434900 := by have := HB.out; omega
      go_wp2
      go_roundw
      case rel => exact ⟨i + 1, ao', cap', rfl, by go_num, by omega, HK5⟩
      case measure => simp only [vuOf]; have := HB.out; omega
    · obtain rfl : i = N := by omega
      have i1 : ¬ (i : Int) < (i : Int) := by omega
      have HK : Hid (UrAt w1 w.heap.size d (.slice ao i cap) l ∧ Only (fun _ => False) w w1) := by
        have := HI.out
        rw [hNl, List.take_length, ← hNl] at this
        exact this
      clear HI hNl hN4
      go_wp2
      go_ret
      exact ⟨ao, cap, rfl, HK⟩
theorem utrees_any : ∀ (d d' : Nat), d' < d → TuE d' 39 false ∧ TuE d' 30 true
  | 0, d', h => by omega
  | d + 1, d', h => by
    have ih := utrees_any d
    by_cases hd : d' < d
    · exact ih d' hd
    · obtain rfl : d' = d := by omega
      cases d' with
      | zero => exact ⟨fun v t w S h => h.elim, fun v t w S h => h.elim⟩
      | succ e => exact ⟨utree_of e (utrees_of e (ih e (by omega)).1) (uitrees_of e (ih e (by omega)).2), uitree_of e (ih e (by omega)).1⟩
theorem uitrees_any (d : Nat) : TuS d 15 true := uitrees_of d (utrees_any (d + 1) d (by omega)).2
end Go.Proofs.YtodbkihobgdpdaaGreatDoor
namespace Go.Proofs.YtodbkihobgdpdaaGreatDoor
open Go.RowKit Go.Lib
set_option linter.unusedSimpArgs false
set_option linter.unusedVariables false
theorem eql_iface (U T1 T2 : TypeId) (x y : Value) (w : World) : (binOp .eql U (.iface T1 x) (.iface T2 y)).run Tryz.prog w = ((Op.equalIn Op.maxDepth U (.iface T1 x) (.iface T2 y)).run Tryz.prog w).andThen fun b w' => .ok (.bool b) w' := by
  simp only [binOp]
  simp [Op.equal]
theorem eq_iface {U T : TypeId} {m} {i : TypeInfo} (d : Nat) (x y : Value) (w : World) (hU : Tryz.prog.underlying U = some (.interface m)) (hi : Tryz.prog.info? T = some i) (hc : i.comparable = true) : (Op.equalIn (d + 1) U (.iface T x) (.iface T y)).run Tryz.prog w = (Op.equalIn d T x y).run Tryz.prog w := by
  simp [Op.equalIn, run_underlying hU, typeInfo, hi, hc]
set_option maxRecDepth 100000 in
theorem eq_int (d : Nat) (n m : Int) (w : World) : (Op.equalIn (d + 2) 87 (.agg #[.int .i64 n]) (.agg #[.int .i64 m])).run Tryz.prog w = .ok (n == m) w := by
  have hS : Tryz.prog.underlying 87 = some (.struct (Tryz.prog.fieldsOf 87)) := by kernel_rfl
  have hp : Tryz.prog.stoodInHeld 87 = false := by kernel_rfl
  have u := Tryz.underlying2
  have a := Tryz.isAgg2
  have z := Tryz.sizeOf2
  rw [run_equalIn_agg w (d + 1) 87 _ _ hS hp]
  simp only [Program.fieldsOf, Tryz.underlying87]
  go_simp
  all_goals (cases h : (n == m) <;> simp_all)
theorem eqv_int (U : TypeId) {q} (hU : Tryz.prog.underlying U = some (.interface q)) (n m : Int) (w : World) : (binOp .eql U (.iface 87 (.agg #[.int .i64 n])) (.iface 87 (.agg #[.int .i64 m]))).run Tryz.prog w = .ok (.bool (n == m)) w := by
  obtain ⟨D, hD⟩ : ∃ D, Op.maxDepth = D + 2 + 1 := ⟨9997, rfl⟩
  have h1 := eq_iface (D + 2) (.agg #[.int .i64 n]) (.agg #[.int .i64 m]) w hU (T := 87) (i := Tryz.t87) (by kernel_rfl) (by kernel_rfl)
  rw [eql_iface, hD, h1, eq_int D n m w]
  rfl
set_option maxRecDepth 100000 in
theorem eq_str (d : Nat) (n m : ByteArray) (w : World) : (Op.equalIn (d + 2) 89 (.agg #[.string n]) (.agg #[.string m])).run Tryz.prog w = .ok (n.toList == m.toList) w := by
  have hS : Tryz.prog.underlying 89 = some (.struct (Tryz.prog.fieldsOf 89)) := by kernel_rfl
  have hp : Tryz.prog.stoodInHeld 89 = false := by kernel_rfl
  have u := Tryz.underlying9
  have a := Tryz.isAgg9
  have z := Tryz.sizeOf9
  rw [run_equalIn_agg w (d + 1) 89 _ _ hS hp]
  simp only [Program.fieldsOf, Tryz.underlying89]
  go_simp
  all_goals (cases h : (n.toList == m.toList) <;> simp_all)
theorem eqv_str (U : TypeId) {q} (hU : Tryz.prog.underlying U = some (.interface q)) (n m : ByteArray) (w : World) : (binOp .eql U (.iface 89 (.agg #[.string n])) (.iface 89 (.agg #[.string m]))).run Tryz.prog w = .ok (.bool (n.toList == m.toList)) w := by
  obtain ⟨D, hD⟩ : ∃ D, Op.maxDepth = D + 2 + 1 := ⟨9997, rfl⟩
  have h1 := eq_iface (D + 2) (.agg #[.string n]) (.agg #[.string m]) w hU (T := 89) (i := Tryz.t89) (by kernel_rfl) (by kernel_rfl)
  rw [eql_iface, hD, h1, eq_str D n m w]
  rfl
set_option maxRecDepth 100000 in
theorem eq_bool (d : Nat) (n m : Bool) (w : World) : (Op.equalIn (d + 2) 91 (.agg #[.bool n]) (.agg #[.bool m])).run Tryz.prog w = .ok (n == m) w := by
  have hS : Tryz.prog.underlying 91 = some (.struct (Tryz.prog.fieldsOf 91)) := by kernel_rfl
  have hp : Tryz.prog.stoodInHeld 91 = false := by kernel_rfl
  have u := Tryz.underlying4
  have a := Tryz.isAgg4
  have z := Tryz.sizeOf4
  rw [run_equalIn_agg w (d + 1) 91 _ _ hS hp]
  simp only [Program.fieldsOf, Tryz.underlying91]
  go_simp
  all_goals (cases h : (n == m) <;> simp_all)
theorem eqv_bool (U : TypeId) {q} (hU : Tryz.prog.underlying U = some (.interface q)) (n m : Bool) (w : World) : (binOp .eql U (.iface 91 (.agg #[.bool n])) (.iface 91 (.agg #[.bool m]))).run Tryz.prog w = .ok (.bool (n == m)) w := by
  obtain ⟨D, hD⟩ : ∃ D, Op.maxDepth = D + 2 + 1 := ⟨9997, rfl⟩
  have h1 := eq_iface (D + 2) (.agg #[.bool n]) (.agg #[.bool m]) w hU (T := 91) (i := Tryz.t91) (by kernel_rfl) (by kernel_rfl)
  rw [eql_iface, hD, h1, eq_bool D n m w]
  rfl
set_option maxRecDepth 100000 in
theorem eq_box (d : Nat) (n m : Int) (w : World) : (Op.equalIn (d + 2) 97 (.agg #[.int .i64 n]) (.agg #[.int .i64 m])).run Tryz.prog w = .ok (n == m) w := by
  have hS : Tryz.prog.underlying 97 = some (.struct (Tryz.prog.fieldsOf 97)) := by kernel_rfl
  have hp : Tryz.prog.stoodInHeld 97 = false := by kernel_rfl
  have u := Tryz.underlying3
  have a := Tryz.isAgg3
  have z := Tryz.sizeOf3
  rw [run_equalIn_agg w (d + 1) 97 _ _ hS hp]
  simp only [Program.fieldsOf, Tryz.underlying97]
  go_simp
  all_goals (cases h : (n == m) <;> simp_all)
theorem eqv_box (U : TypeId) {q} (hU : Tryz.prog.underlying U = some (.interface q)) (n m : Int) (w : World) : (binOp .eql U (.iface 97 (.agg #[.int .i64 n])) (.iface 97 (.agg #[.int .i64 m]))).run Tryz.prog w = .ok (.bool (n == m)) w := by
  obtain ⟨D, hD⟩ : ∃ D, Op.maxDepth = D + 2 + 1 := ⟨9997, rfl⟩
  have h1 := eq_iface (D + 2) (.agg #[.int .i64 n]) (.agg #[.int .i64 m]) w hU (T := 97) (i := Tryz.t97) (by kernel_rfl) (by kernel_rfl)
  rw [eql_iface, hD, h1, eq_box D n m w]
  rfl
set_option maxRecDepth 100000 in
theorem eq_call (d : Nat) (n m : ByteArray) (w : World) : (Op.equalIn (d + 2) 40 (.agg #[.string n]) (.agg #[.string m])).run Tryz.prog w = .ok (n.toList == m.toList) w := by
  have hS : Tryz.prog.underlying 40 = some (.struct (Tryz.prog.fieldsOf 40)) := by kernel_rfl
  have hp : Tryz.prog.stoodInHeld 40 = false := by kernel_rfl
  have u := Tryz.underlying9
  have a := Tryz.isAgg9
  have z := Tryz.sizeOf9
  rw [run_equalIn_agg w (d + 1) 40 _ _ hS hp]
  simp only [Program.fieldsOf, Tryz.underlying40]
  go_simp
  all_goals (cases h : (n.toList == m.toList) <;> simp_all)
theorem eqv_call (U : TypeId) {q} (hU : Tryz.prog.underlying U = some (.interface q)) (n m : ByteArray) (w : World) : (binOp .eql U (.iface 40 (.agg #[.string n])) (.iface 40 (.agg #[.string m]))).run Tryz.prog w = .ok (.bool (n.toList == m.toList)) w := by
  obtain ⟨D, hD⟩ : ∃ D, Op.maxDepth = D + 2 + 1 := ⟨9997, rfl⟩
  have h1 := eq_iface (D + 2) (.agg #[.string n]) (.agg #[.string m]) w hU (T := 40) (i := Tryz.t40) (by kernel_rfl) (by kernel_rfl)
  rw [eql_iface, hD, h1, eq_call D n m w]
  rfl
theorem eqv_ne (U T1 T2 : TypeId) {q} (hU : Tryz.prog.underlying U = some (.interface q)) (x y : Value) (h : T1 ≠ T2) (w : World) : (binOp .eql U (.iface T1 x) (.iface T2 y)).run Tryz.prog w = .ok (.bool false) w := by
  obtain ⟨D, hD⟩ : ∃ D, Op.maxDepth = D + 1 := ⟨9999, rfl⟩
  have h1 : (Op.equalIn (D + 1) U (.iface T1 x) (.iface T2 y)).run Tryz.prog w = .ok false w := by
    simp only [Op.equalIn, Sem.run_bind, run_underlying hU, Result.andThen_ok]
    simp [h]
  rw [eql_iface, hD, h1]
  rfl
end Go.Proofs.YtodbkihobgdpdaaGreatDoor
namespace Go.Proofs.YtodbkihobgdpdaaGreatDoor
open Go.RowKit Go.Lib
set_option linter.unusedSimpArgs false
set_option linter.unusedVariables false
def smL (f : Vt → Vt → Bool) : List Vt → List Vt → Bool
  | [], [] => true
  | x :: a, y :: b => f x y && smL f a b
  | _, _ => false
/-- are two values (items) the same? -/
def smV : Nat → Bool → Vt → Vt → Bool
  | 0, _, _, _ => false
  | d + 1, true, a, b => if a.k = 7 ∨ b.k = 7 then decide (a.k = 7) && decide (b.k = 7) && (a.s.toList == b.s.toList) else smV d false a b
  | d + 1, false, a, b => decide (a.k = b.k) && (if a.k = 1 ∨ a.k = 6 then a.n == b.n else if a.k = 2 then a.s.toList == b.s.toList else if a.k = 3 then (a.n != 0) == (b.n != 0) else smL (smV d (decide (a.k = 5))) a.l b.l)
theorem smL_len (f : Vt → Vt → Bool) : ∀ a b : List Vt, a.length ≠ b.length → smL f a b = false
  | [], [], h => absurd rfl h
  | [], y :: b, _ => rfl
  | x :: a, [], _ => rfl
  | x :: a, y :: b, h => by
    unfold smL
    rw [smL_len f a b (by simpa using h), Bool.and_false]
theorem drop_at {l : List Vt} {j : Nat} {x : Vt} (hx : l[j]? = some x) : l.drop j = x :: l.drop (j + 1) := by
  obtain ⟨hlt, he⟩ := List.getElem?_eq_some_iff.1 hx
  rw [List.drop_eq_getElem_cons hlt, he]
/-- what same, sameItem answer of what is what it may be -/
def SaV (d : Nat) (i : Bool) (F : Nat) : Prop := ∀ (a b : Vt) (va vb : Value) (w : World) (S : Nat → Prop), TiAt w S d i a va → TiAt w S d i b vb → (okV d i a = true ∧ ∃ e, SmT e a) → (okV d i b = true ∧ ∃ e, SmT e b) → Calls Tryz.prog F #[va, vb] w fun e w' => e = .returned (.bool (smV d i a b)) ∧ Only (fun _ => False) w w'
def EfV (d : Nat) (i : Bool) (F Fm : Nat) : Prop := ∀ (la lb : List Vt) (ao bo : Option Addr) (ca cb : Nat) (w : World) (S : Nat → Prop), (∀ (j : Nat) (x : Vt), la[j]? = some x → ∃ g q u, ao = some ⟨g, q, none⟩ ∧ S g ∧ w.cell? ⟨g, q + j, none⟩ = some u ∧ TiAt w S d i x u) → (∀ (j : Nat) (x : Vt), lb[j]? = some x → ∃ g q u, bo = some ⟨g, q, none⟩ ∧ S g ∧ w.cell? ⟨g, q + j, none⟩ = some u ∧ TiAt w S d i x u) → (∀ x ∈ la, okV d i x = true ∧ ∃ e, SmT e x) → (∀ x ∈ lb, okV d i x = true ∧ ∃ e, SmT e x) → la.length ≤ 2513169434900 → lb.length ≤ 2513169434900 → Calls Tryz.prog F #[.slice ao la.length ca, .slice bo lb.length cb, .func (.func Fm) #[] #[]] w fun e w' => e = .returned (.bool (smL (smV d i) la lb)) ∧ Only (fun _ => False) w w'
end Go.Proofs.YtodbkihobgdpdaaGreatDoor
