/- Values as trees: Tree, ItemTree. -/
import Derived.Test.YthlloenonjagbaaGreatDoorGar
import Derived.Test.YthlloenonjagbaaGreatDoorGap
namespace Go.Proofs.YthlloenonjagbaaGreatDoor
open Go.RowKit
set_option linter.unusedSimpArgs false
set_option linter.unusedVariables false
/-- what the trees of many are -/
def TuS (d F : Nat) (i : Bool) : Prop := ∀ (v : Value) (l : List Vt) (w : World) (S : Nat → Prop), QiAt w S d i v l → l.length ≤ 1048576 → (∀ x ∈ l, ∃ e, NfT e x) → Calls Tryz.prog F #[v] w fun e w' => ∃ ao cap, e = .returned (.slice ao l.length cap) ∧ Hid (UrAt w' w.heap.size d (.slice ao l.length cap) l ∧ Only (fun _ => False) w w')
/-- what the tree of one is -/
def TuE (d F : Nat) (i : Bool) : Prop := ∀ (v : Value) (t : Vt) (w : World) (S : Nat → Prop), TiAt w S d i t v → (∃ e, NfT e t) → Calls Tryz.prog F #[v] w fun e w' => ∃ lv, e = .returned (.agg #[.int .i64 t.k, .int .i64 (t.n), .string (t.s), lv]) ∧ Hid (NuAt w' w.heap.size d t lv ∧ Only (fun _ => False) w w')
theorem uresults_v {fn : Func} {u : Tmp} (h : fn.results = #[.cell u 24]) (tmps : Array Value) (w : World) (B : Nat) {x y z r : Value} (h0 : w.cell? ⟨B, 0, none⟩ = some x) (h1 : w.cell? ⟨B, 1, none⟩ = some y) (h2 : w.cell? ⟨B, 2, none⟩ = some z) (h3 : w.cell? ⟨B, 3, none⟩ = some r) (ha : tmps.getD u undef = .pointer (some ⟨B, 0, none⟩)) :
    (results fn tmps).run Tryz.prog w = .ok (.agg #[x, y, z, r]) w := by
  have ha' : tmps[u]?.getD undef = .pointer (some ⟨B, 0, none⟩) := by simpa using ha
  simp [results, h, ha', asAddr, go_sem, loadVar, isAgg, Tryz.underlying24, h0, h1, h2, h3]
theorem uonly4 {w : World} {B : Nat} (x0 x1 x2 x3 : Value) : Only (fun b => b = B) w ((((w.setCell ⟨B, 0, none⟩ x0).setCell ⟨B, 1, none⟩ x1).setCell ⟨B, 2, none⟩ x2).setCell ⟨B, 3, none⟩ x3) :=
  ((((Only.refl (fun b => b = B) w).setCell ⟨B, 0, none⟩ _ (fun _ => rfl)).setCell ⟨B, 1, none⟩ _ (fun _ => rfl)).setCell ⟨B, 2, none⟩ _ (fun _ => rfl)).setCell ⟨B, 3, none⟩ _ (fun _ => rfl)
set_option maxRecDepth 100000 in
theorem uzero_Int (W : World) : (zeroValue 59).run Tryz.prog W = .ok (.agg #[.int .i64 0]) W := by rfl
set_option maxRecDepth 100000 in
theorem uzero_Str (W : World) : (zeroValue 76).run Tryz.prog W = .ok (.agg #[.string ⟨#[]⟩]) W := by rfl
set_option maxRecDepth 100000 in
theorem uzero_Bool (W : World) : (zeroValue 78).run Tryz.prog W = .ok (.agg #[.bool false]) W := by rfl
set_option maxRecDepth 100000 in
theorem uzero_List (W : World) : (zeroValue 80).run Tryz.prog W = .ok (.agg #[.slice none 0 0]) W := by rfl
set_option maxRecDepth 100000 in
theorem uzero_Quot (W : World) : (zeroValue 82).run Tryz.prog W = .ok (.agg #[.slice none 0 0]) W := by rfl
set_option maxRecDepth 100000 in
theorem uzero_Push (W : World) : (zeroValue 108).run Tryz.prog W = .ok (.agg #[.nilIface]) W := by rfl
set_option maxRecDepth 100000 in
theorem uzero_Call (W : World) : (zeroValue 111).run Tryz.prog W = .ok (.agg #[.string ⟨#[]⟩]) W := by rfl
set_option maxRecDepth 100000 in
theorem utree_int (n : Int) (w : World) : Calls Tryz.prog 10 #[.iface 59 (.agg #[.int .i64 n])] w fun e w' => e = .returned (.agg #[.int .i64 1, .int .i64 n, .string ⟨#[]⟩, .slice none 0 0]) ∧ Only (fun _ => False) w w' := by
  have hInt := uas_hit 59 27 _ Tryz.underlying59 (by intro m h; cases h)
  have O0 : Hid (Only (fun _ => False) w w) := Only.refl _ _
  go_enter Tryz.func10, Tryz.ntmps10
  go_wp2
  refine bodyPost_ret (uresults_v rfl _ _ w.heap.size (x := _) (y := _) (z := _) (r := _) ?_ ?_ ?_ ?_ rfl) rfl ⟨rfl, ?_⟩
  · simp [go_sem]
  · simp [go_sem]
  · simp [go_sem]
  · simp [go_sem]
  · first
      | exact ((O0.out.alloc _).alloc _)
      | exact (((((O0.out.alloc _).alloc _).setCell _ _ (fun h => absurd h (by simp))).setCell _ _ (fun h => absurd h (by simp))).setCell _ _ (fun h => absurd h (by simp))).setCell _ _ (fun h => absurd h (by simp))
set_option maxRecDepth 100000 in
theorem utree_str (x : ByteArray) (w : World) : Calls Tryz.prog 10 #[.iface 76 (.agg #[.string x])] w fun e w' => e = .returned (.agg #[.int .i64 2, .int .i64 0, .string x, .slice none 0 0]) ∧ Only (fun _ => False) w w' := by
  have mInt := uas_miss 76 59 27 _ Tryz.underlying59 (by intro m h; cases h) (by decide) _ uzero_Int
  have hStr := uas_hit 76 27 _ Tryz.underlying76 (by intro m h; cases h)
  have O0 : Hid (Only (fun _ => False) w w) := Only.refl _ _
  go_enter Tryz.func10, Tryz.ntmps10
  go_wp2
  refine bodyPost_ret (uresults_v rfl _ _ w.heap.size (x := _) (y := _) (z := _) (r := _) ?_ ?_ ?_ ?_ rfl) rfl ⟨rfl, ?_⟩
  · simp [go_sem]
  · simp [go_sem]
  · simp [go_sem]
  · simp [go_sem]
  · first
      | exact ((O0.out.alloc _).alloc _)
      | exact (((((O0.out.alloc _).alloc _).setCell _ _ (fun h => absurd h (by simp))).setCell _ _ (fun h => absurd h (by simp))).setCell _ _ (fun h => absurd h (by simp))).setCell _ _ (fun h => absurd h (by simp))
set_option maxRecDepth 100000 in
theorem utree_yes  (w : World) : Calls Tryz.prog 10 #[.iface 78 (.agg #[.bool true])] w fun e w' => e = .returned (.agg #[.int .i64 3, .int .i64 1, .string ⟨#[]⟩, .slice none 0 0]) ∧ Only (fun _ => False) w w' := by
  have mInt := uas_miss 78 59 27 _ Tryz.underlying59 (by intro m h; cases h) (by decide) _ uzero_Int
  have mStr := uas_miss 78 76 27 _ Tryz.underlying76 (by intro m h; cases h) (by decide) _ uzero_Str
  have hBool := uas_hit 78 27 _ Tryz.underlying78 (by intro m h; cases h)
  have O0 : Hid (Only (fun _ => False) w w) := Only.refl _ _
  go_enter Tryz.func10, Tryz.ntmps10
  go_wp2
  refine bodyPost_ret (uresults_v rfl _ _ w.heap.size (x := _) (y := _) (z := _) (r := _) ?_ ?_ ?_ ?_ rfl) rfl ⟨rfl, ?_⟩
  · simp [go_sem]
  · simp [go_sem]
  · simp [go_sem]
  · simp [go_sem]
  · first
      | exact ((O0.out.alloc _).alloc _)
      | exact (((((O0.out.alloc _).alloc _).setCell _ _ (fun h => absurd h (by simp))).setCell _ _ (fun h => absurd h (by simp))).setCell _ _ (fun h => absurd h (by simp))).setCell _ _ (fun h => absurd h (by simp))
set_option maxRecDepth 100000 in
theorem utree_no  (w : World) : Calls Tryz.prog 10 #[.iface 78 (.agg #[.bool false])] w fun e w' => e = .returned (.agg #[.int .i64 3, .int .i64 0, .string ⟨#[]⟩, .slice none 0 0]) ∧ Only (fun _ => False) w w' := by
  have mInt := uas_miss 78 59 27 _ Tryz.underlying59 (by intro m h; cases h) (by decide) _ uzero_Int
  have mStr := uas_miss 78 76 27 _ Tryz.underlying76 (by intro m h; cases h) (by decide) _ uzero_Str
  have hBool := uas_hit 78 27 _ Tryz.underlying78 (by intro m h; cases h)
  have O0 : Hid (Only (fun _ => False) w w) := Only.refl _ _
  go_enter Tryz.func10, Tryz.ntmps10
  go_wp2
  refine bodyPost_ret (uresults_v rfl _ _ w.heap.size (x := _) (y := _) (z := _) (r := _) ?_ ?_ ?_ ?_ rfl) rfl ⟨rfl, ?_⟩
  · simp [go_sem]
  · simp [go_sem]
  · simp [go_sem]
  · simp [go_sem]
  · first
      | exact ((O0.out.alloc _).alloc _)
      | exact (((((O0.out.alloc _).alloc _).setCell _ _ (fun h => absurd h (by simp))).setCell _ _ (fun h => absurd h (by simp))).setCell _ _ (fun h => absurd h (by simp))).setCell _ _ (fun h => absurd h (by simp))
set_option maxRecDepth 100000 in
theorem utree_call (x : ByteArray) (w : World) : Calls Tryz.prog 40 #[.iface 111 (.agg #[.string x])] w fun e w' => e = .returned (.agg #[.int .i64 7, .int .i64 0, .string x, .slice none 0 0]) ∧ Only (fun _ => False) w w' := by
  have mPush := uas_miss 111 108 94 _ Tryz.underlying108 (by intro m h; cases h) (by decide) _ uzero_Push
  have hCall := uas_hit 111 94 _ Tryz.underlying111 (by intro m h; cases h)
  have O0 : Hid (Only (fun _ => False) w w) := Only.refl _ _
  go_enter Tryz.func40, Tryz.ntmps40
  go_wp2
  refine bodyPost_ret (uresults_v rfl _ _ w.heap.size (x := _) (y := _) (z := _) (r := _) ?_ ?_ ?_ ?_ rfl) rfl ⟨rfl, ?_⟩
  · simp [go_sem]
  · simp [go_sem]
  · simp [go_sem]
  · simp [go_sem]
  · first
      | exact ((O0.out.alloc _).alloc _)
      | exact (((((O0.out.alloc _).alloc _).setCell _ _ (fun h => absurd h (by simp))).setCell _ _ (fun h => absurd h (by simp))).setCell _ _ (fun h => absurd h (by simp))).setCell _ _ (fun h => absurd h (by simp))
set_option maxRecDepth 100000 in
theorem utree_list (d : Nat) (l : List Vt) (ao : Option Addr) (cap : Nat) (w : World) (S : Nat → Prop) (HT : TuS d 31 false) (h : QiAt w S d false (.slice ao l.length cap) l) (hl : l.length ≤ 1048576) (hw : ∀ x ∈ l, ∃ e, NfT e x) : Calls Tryz.prog 10 #[.iface 80 (.agg #[.slice ao l.length cap])] w fun e w' => ∃ ao' cap', e = .returned (.agg #[.int .i64 4, .int .i64 0, .string ⟨#[]⟩, .slice ao' l.length cap']) ∧ Hid (UrAt w' w.heap.size d (.slice ao' l.length cap') l ∧ Only (fun _ => False) w w') := by
  have HC : Hid (∀ w1, Only (fun _ => False) w w1 → Calls Tryz.prog 31 #[.slice ao l.length cap] w1 fun e w' => ∃ ao cap, e = .returned (.slice ao l.length cap) ∧ Hid (UrAt w' w1.heap.size d (.slice ao l.length cap) l ∧ Only (fun _ => False) w1 w')) := fun w1 o1 => HT _ _ _ S (h.step (fun _ g => g) (fun a u _ hc => o1.cell hc (fun g => g)) (Nat.le_refl _)) hl hw
  have mInt := uas_miss 80 59 27 _ Tryz.underlying59 (by intro m h; cases h) (by decide) _ uzero_Int
  have mStr := uas_miss 80 76 27 _ Tryz.underlying76 (by intro m h; cases h) (by decide) _ uzero_Str
  have mBool := uas_miss 80 78 27 _ Tryz.underlying78 (by intro m h; cases h) (by decide) _ uzero_Bool
  have hList := uas_hit 80 27 _ Tryz.underlying80 (by intro m h; cases h)
  have O0 : Hid (Only (fun _ => False) w w) := Only.refl _ _
  clear HT h hl hw
  obtain ⟨L, hL⟩ : ∃ L, L = l.length := ⟨_, rfl⟩
  have HL : Hid (L = l.length) := hL
  rw [← hL] at HC
  rw [← hL]
  clear hL
  go_enter Tryz.func10, Tryz.ntmps10
  go_wp2_with fail
  refine (show Calls Tryz.prog 31 _ _ _ from HC.out _ ((O0.out.alloc _).alloc _)).mono ?_
  rintro e w1 ⟨ao', cap', rfl, g1⟩
  have R3 : w1.heap[w.heap.size]? = some (.cells #[.int .i64 0, .int .i64 0, .string ⟨#[]⟩, .slice none 0 0] 24) := (g1.out.2.block w.heap.size (by simp; omega) (fun h => h)).trans ((((Only.refl (fun _ => False) (w.alloc (.cells #[.int .i64 0, .int .i64 0, .string ⟨#[]⟩, .slice none 0 0] 24))).alloc _).block w.heap.size (by simp) (fun h => h)).trans (valloc_at _ _ _ rfl))
  have G1 : Hid (UrAt w1 (w.heap.size + 1) d (.slice ao' L cap') l ∧ Only (fun _ => False) w w1) := by
    obtain ⟨us, SS, ho, ht, hS⟩ := g1.out.1
    have e1 : L = l.length := HL.out
    refine ⟨⟨us, SS, ⟨ho.1, ?_⟩, ht, fun b hb => ⟨by have := (hS b hb).1; simp at this; omega, (hS b hb).2⟩⟩, ((O0.out.alloc _).alloc _).trans g1.out.2 (fun _ _ g => g)⟩
    rcases ho.2 with g | ⟨g, cc, cur, h1, h2, h3⟩
    · exact .inl g
    · exact .inr ⟨g, cc, cur, h1, by simp at h2; omega, h3⟩
  clear g1 HC O0
  obtain ⟨B, hBe⟩ : ∃ B, B = w.heap.size := ⟨_, rfl⟩
  have HE : Hid (B = w.heap.size) := hBe
  rw [← hBe] at R3 ⊢
  have c0 := blk_cells R3 0
  have c1 := blk_cells R3 1
  have c2 := blk_cells R3 2
  have c3 := blk_cells R3 3
  have z0 := blk_froz R3 0
  have z1 := blk_froz R3 1
  have z2 := blk_froz R3 2
  have z3 := blk_froz R3 3
  have HR3 : Hid (w1.heap[B]? = some (.cells #[.int .i64 0, .int .i64 0, .string ⟨#[]⟩, .slice none 0 0] 24)) := R3
  simp only [List.getElem?_toArray, List.getElem?_cons_zero, List.getElem?_cons_succ] at c0 c1 c2 c3
  clear R3 hBe
  go_wp2
  obtain ⟨p0, p1, p2, p3⟩ := set4 HR3.out rfl (.int .i64 4) (.int .i64 0) (.string ⟨#[]⟩) (.slice ao' L cap')
  have e1 : L = l.length := HL.out
  have hBe : B = w.heap.size := HE.out
  have OB := @uonly4 w1 B (.int .i64 4) (.int .i64 0) (.string ⟨#[]⟩) (.slice ao' L cap')
  refine bodyPost_ret (uresults_v rfl _ _ B p0 p1 p2 p3 rfl) rfl ⟨ao', cap', rfl, ?_, G1.out.2.trans OB (fun b h e => by omega)⟩
  obtain ⟨us, SS, ho, ht, hS⟩ := G1.out.1.only OB (fun b h e => by omega)
  refine ⟨us, SS, ⟨ho.1, ?_⟩, ht, fun b hb => ⟨by have := (hS b hb).1; omega, (hS b hb).2⟩⟩
  rcases ho.2 with g | ⟨g, cc, cur, h1, h2, h3⟩
  · exact .inl g
  · exact .inr ⟨g, cc, cur, h1, by omega, h3⟩
set_option maxRecDepth 100000 in
theorem utree_quot (d : Nat) (l : List Vt) (ao : Option Addr) (cap : Nat) (w : World) (S : Nat → Prop) (HT : TuS d 21 true) (h : QiAt w S d true (.slice ao l.length cap) l) (hl : l.length ≤ 1048576) (hw : ∀ x ∈ l, ∃ e, NfT e x) : Calls Tryz.prog 10 #[.iface 82 (.agg #[.slice ao l.length cap])] w fun e w' => ∃ ao' cap', e = .returned (.agg #[.int .i64 5, .int .i64 0, .string ⟨#[]⟩, .slice ao' l.length cap']) ∧ Hid (UrAt w' w.heap.size d (.slice ao' l.length cap') l ∧ Only (fun _ => False) w w') := by
  have HC : Hid (∀ w1, Only (fun _ => False) w w1 → Calls Tryz.prog 21 #[.slice ao l.length cap] w1 fun e w' => ∃ ao cap, e = .returned (.slice ao l.length cap) ∧ Hid (UrAt w' w1.heap.size d (.slice ao l.length cap) l ∧ Only (fun _ => False) w1 w')) := fun w1 o1 => HT _ _ _ S (h.step (fun _ g => g) (fun a u _ hc => o1.cell hc (fun g => g)) (Nat.le_refl _)) hl hw
  have mInt := uas_miss 82 59 27 _ Tryz.underlying59 (by intro m h; cases h) (by decide) _ uzero_Int
  have mStr := uas_miss 82 76 27 _ Tryz.underlying76 (by intro m h; cases h) (by decide) _ uzero_Str
  have mBool := uas_miss 82 78 27 _ Tryz.underlying78 (by intro m h; cases h) (by decide) _ uzero_Bool
  have mList := uas_miss 82 80 27 _ Tryz.underlying80 (by intro m h; cases h) (by decide) _ uzero_List
  have hQuot := uas_hit 82 27 _ Tryz.underlying82 (by intro m h; cases h)
  have O0 : Hid (Only (fun _ => False) w w) := Only.refl _ _
  clear HT h hl hw
  obtain ⟨L, hL⟩ : ∃ L, L = l.length := ⟨_, rfl⟩
  have HL : Hid (L = l.length) := hL
  rw [← hL] at HC
  rw [← hL]
  clear hL
  go_enter Tryz.func10, Tryz.ntmps10
  go_wp2_with fail
  refine (show Calls Tryz.prog 21 _ _ _ from HC.out _ ((O0.out.alloc _).alloc _)).mono ?_
  rintro e w1 ⟨ao', cap', rfl, g1⟩
  have R3 : w1.heap[w.heap.size]? = some (.cells #[.int .i64 0, .int .i64 0, .string ⟨#[]⟩, .slice none 0 0] 24) := (g1.out.2.block w.heap.size (by simp; omega) (fun h => h)).trans ((((Only.refl (fun _ => False) (w.alloc (.cells #[.int .i64 0, .int .i64 0, .string ⟨#[]⟩, .slice none 0 0] 24))).alloc _).block w.heap.size (by simp) (fun h => h)).trans (valloc_at _ _ _ rfl))
  have G1 : Hid (UrAt w1 (w.heap.size + 1) d (.slice ao' L cap') l ∧ Only (fun _ => False) w w1) := by
    obtain ⟨us, SS, ho, ht, hS⟩ := g1.out.1
    have e1 : L = l.length := HL.out
    refine ⟨⟨us, SS, ⟨ho.1, ?_⟩, ht, fun b hb => ⟨by have := (hS b hb).1; simp at this; omega, (hS b hb).2⟩⟩, ((O0.out.alloc _).alloc _).trans g1.out.2 (fun _ _ g => g)⟩
    rcases ho.2 with g | ⟨g, cc, cur, h1, h2, h3⟩
    · exact .inl g
    · exact .inr ⟨g, cc, cur, h1, by simp at h2; omega, h3⟩
  clear g1 HC O0
  obtain ⟨B, hBe⟩ : ∃ B, B = w.heap.size := ⟨_, rfl⟩
  have HE : Hid (B = w.heap.size) := hBe
  rw [← hBe] at R3 ⊢
  have c0 := blk_cells R3 0
  have c1 := blk_cells R3 1
  have c2 := blk_cells R3 2
  have c3 := blk_cells R3 3
  have z0 := blk_froz R3 0
  have z1 := blk_froz R3 1
  have z2 := blk_froz R3 2
  have z3 := blk_froz R3 3
  have HR3 : Hid (w1.heap[B]? = some (.cells #[.int .i64 0, .int .i64 0, .string ⟨#[]⟩, .slice none 0 0] 24)) := R3
  simp only [List.getElem?_toArray, List.getElem?_cons_zero, List.getElem?_cons_succ] at c0 c1 c2 c3
  clear R3 hBe
  go_wp2
  obtain ⟨p0, p1, p2, p3⟩ := set4 HR3.out rfl (.int .i64 5) (.int .i64 0) (.string ⟨#[]⟩) (.slice ao' L cap')
  have e1 : L = l.length := HL.out
  have hBe : B = w.heap.size := HE.out
  have OB := @uonly4 w1 B (.int .i64 5) (.int .i64 0) (.string ⟨#[]⟩) (.slice ao' L cap')
  refine bodyPost_ret (uresults_v rfl _ _ B p0 p1 p2 p3 rfl) rfl ⟨ao', cap', rfl, ?_, G1.out.2.trans OB (fun b h e => by omega)⟩
  obtain ⟨us, SS, ho, ht, hS⟩ := G1.out.1.only OB (fun b h e => by omega)
  refine ⟨us, SS, ⟨ho.1, ?_⟩, ht, fun b hb => ⟨by have := (hS b hb).1; omega, (hS b hb).2⟩⟩
  rcases ho.2 with g | ⟨g, cc, cur, h1, h2, h3⟩
  · exact .inl g
  · exact .inr ⟨g, cc, cur, h1, by omega, h3⟩
set_option maxRecDepth 100000 in
theorem uzero_Box (W : World) : (zeroValue 84).run Tryz.prog W = .ok (.agg #[.int .i64 0]) W := by rfl
set_option maxRecDepth 100000 in
theorem utree_box (n : Int) (h1 : -9223372036854775808 ≤ n) (h2 : n ≤ 9223372036854775807) (w : World) : Calls Tryz.prog 10 #[.iface 84 (.agg #[.int .i64 n])] w fun e w' => e = .returned (.agg #[.int .i64 6, .int .i64 n, .string ⟨#[]⟩, .slice none 0 0]) ∧ Only (fun _ => False) w w' := by
  have mInt := uas_miss 84 59 27 _ Tryz.underlying59 (by intro m h; cases h) (by decide) _ uzero_Int
  have mStr := uas_miss 84 76 27 _ Tryz.underlying76 (by intro m h; cases h) (by decide) _ uzero_Str
  have mBool := uas_miss 84 78 27 _ Tryz.underlying78 (by intro m h; cases h) (by decide) _ uzero_Bool
  have mList := uas_miss 84 80 27 _ Tryz.underlying80 (by intro m h; cases h) (by decide) _ uzero_List
  have mQuot := uas_miss 84 82 27 _ Tryz.underlying82 (by intro m h; cases h) (by decide) _ uzero_Quot
  have hBox := uas_hit 84 27 _ Tryz.underlying84 (by intro m h; cases h)
  have hw : IntKind.i64.wrap n = n := by rw [IntKind.wrap_i64]; omega
  clear h1 h2
  have O0 : Hid (Only (fun _ => False) w w) := Only.refl _ _
  go_enter Tryz.func10, Tryz.ntmps10
  go_wp2
  refine bodyPost_ret (uresults_v rfl _ _ w.heap.size (x := _) (y := _) (z := _) (r := _) ?_ ?_ ?_ ?_ rfl) rfl ⟨rfl, ?_⟩
  · simp [go_sem]
  · simp [go_sem]
  · simp [go_sem]
  · simp [go_sem]
  · first
      | exact O0.out.alloc _
      | exact ((O0.out.alloc _).alloc _)
      | exact ((((O0.out.alloc _).setCell _ _ (fun h => absurd h (by simp))).setCell _ _ (fun h => absurd h (by simp))).setCell _ _ (fun h => absurd h (by simp))).setCell _ _ (fun h => absurd h (by simp))
      | exact (((((O0.out.alloc _).alloc _).setCell _ _ (fun h => absurd h (by simp))).setCell _ _ (fun h => absurd h (by simp))).setCell _ _ (fun h => absurd h (by simp))).setCell _ _ (fun h => absurd h (by simp))
set_option maxRecDepth 100000 in
theorem utree_nil  (w : World) : Calls Tryz.prog 10 #[.nilIface] w fun e w' => e = .returned (.agg #[.int .i64 8, .int .i64 0, .string ⟨#[]⟩, .slice none 0 0]) ∧ Only (fun _ => False) w w' := by
  have mInt := uas_nil 59 27 _ Tryz.underlying59 (by intro m h; cases h) _ uzero_Int
  have mStr := uas_nil 76 27 _ Tryz.underlying76 (by intro m h; cases h) _ uzero_Str
  have mBool := uas_nil 78 27 _ Tryz.underlying78 (by intro m h; cases h) _ uzero_Bool
  have mList := uas_nil 80 27 _ Tryz.underlying80 (by intro m h; cases h) _ uzero_List
  have mQuot := uas_nil 82 27 _ Tryz.underlying82 (by intro m h; cases h) _ uzero_Quot
  have mBox := uas_nil 84 27 _ Tryz.underlying84 (by intro m h; cases h) _ uzero_Box
  have O0 : Hid (Only (fun _ => False) w w) := Only.refl _ _
  go_enter Tryz.func10, Tryz.ntmps10
  go_wp2
  refine bodyPost_ret (uresults_v rfl _ _ w.heap.size (x := _) (y := _) (z := _) (r := _) ?_ ?_ ?_ ?_ rfl) rfl ⟨rfl, ?_⟩
  · simp [go_sem]
  · simp [go_sem]
  · simp [go_sem]
  · simp [go_sem]
  · first
      | exact O0.out.alloc _
      | exact ((O0.out.alloc _).alloc _)
      | exact ((((O0.out.alloc _).setCell _ _ (fun h => absurd h (by simp))).setCell _ _ (fun h => absurd h (by simp))).setCell _ _ (fun h => absurd h (by simp))).setCell _ _ (fun h => absurd h (by simp))
      | exact (((((O0.out.alloc _).alloc _).setCell _ _ (fun h => absurd h (by simp))).setCell _ _ (fun h => absurd h (by simp))).setCell _ _ (fun h => absurd h (by simp))).setCell _ _ (fun h => absurd h (by simp))
set_option maxRecDepth 100000 in
theorem uitree_nil  (w : World) : Calls Tryz.prog 40 #[.nilIface] w fun e w' => e = .returned (.agg #[.int .i64 8, .int .i64 0, .string ⟨#[]⟩, .slice none 0 0]) ∧ Only (fun _ => False) w w' := by
  have mPush := uas_nil 108 94 _ Tryz.underlying108 (by intro m h; cases h) _ uzero_Push
  have mCall := uas_nil 111 94 _ Tryz.underlying111 (by intro m h; cases h) _ uzero_Call
  have O0 : Hid (Only (fun _ => False) w w) := Only.refl _ _
  go_enter Tryz.func40, Tryz.ntmps40
  go_wp2
  refine bodyPost_ret (uresults_v rfl _ _ w.heap.size (x := _) (y := _) (z := _) (r := _) ?_ ?_ ?_ ?_ rfl) rfl ⟨rfl, ?_⟩
  · simp [go_sem]
  · simp [go_sem]
  · simp [go_sem]
  · simp [go_sem]
  · first
      | exact O0.out.alloc _
      | exact ((O0.out.alloc _).alloc _)
      | exact ((((O0.out.alloc _).setCell _ _ (fun h => absurd h (by simp))).setCell _ _ (fun h => absurd h (by simp))).setCell _ _ (fun h => absurd h (by simp))).setCell _ _ (fun h => absurd h (by simp))
      | exact (((((O0.out.alloc _).alloc _).setCell _ _ (fun h => absurd h (by simp))).setCell _ _ (fun h => absurd h (by simp))).setCell _ _ (fun h => absurd h (by simp))).setCell _ _ (fun h => absurd h (by simp))
theorem utree_of (d : Nat) (H1 : TuS d 31 false) (H2 : TuS d 21 true) : TuE (d + 1) 10 false := by
  intro v t w S h hw
  obtain ⟨k, n, s, l⟩ := t
  obtain ⟨e, hw⟩ := hw
  cases e with
  | zero => exact hw.elim
  | succ e =>
  obtain ⟨hw1, hwb, hwn, hws, hw2⟩ := hw
  dsimp only at hw1 hwb hwn hws hw2
  rcases h with ⟨h1, h2, h3⟩ | ⟨h1, h2, h3⟩ | ⟨h1, h2, h3⟩ | ⟨h1, h2, h3⟩ | ⟨h1, h2, h3⟩ | ⟨h1, ao, cap, hv, hc, hl⟩
  · dsimp only at h1 h2 h3
    subst h1 h3
    have e2 : s = ⟨#[]⟩ := hws
    subst e2
    exact (utree_int n w).mono fun e w' g => ⟨_, g.1, nu_nil h2, g.2⟩
  · dsimp only at h1 h2 h3
    subst h1 h3
    have e2 : n = 0 := hwn
    subst e2
    exact (utree_str s w).mono fun e w' g => ⟨_, g.1, nu_nil h2, g.2⟩
  · dsimp only at h1 h2 h3
    subst h1 h3
    have e2 : s = ⟨#[]⟩ := hws
    have e3 : n = if n != 0 then 1 else 0 := hwn
    subst e2
    by_cases hn : n = 0
    · subst hn
      exact (utree_no w).mono fun e w' g => ⟨_, g.1, nu_nil h2, g.2⟩
    · have e1 : (n != 0) = true := by simp [hn]
      rw [e1] at e3
      rw [if_pos rfl] at e3
      subst e3
      exact (utree_yes w).mono fun e w' g => ⟨_, g.1, nu_nil h2, g.2⟩
  · dsimp only at h1 h2 h3
    subst h1 h3
    have e2 : s = ⟨#[]⟩ := hws
    subst e2
    exact (utree_box n hwb.1 hwb.2 w).mono fun e w' g => ⟨_, g.1, nu_nil h2, g.2⟩
  · dsimp only at h1 h2 h3
    subst h1 h3
    have e2 : s = ⟨#[]⟩ := hws
    have e3 : n = 0 := hwn
    subst e2 e3
    exact (utree_nil w).mono fun e w' g => ⟨_, g.1, nu_nil h2, g.2⟩
  · dsimp only at h1 hv hc hl
    rcases h1 with h1 | h1
    · subst h1
      rw [if_pos rfl] at hv
      subst hv
      have e2 : s = ⟨#[]⟩ := hws
      have e3 : n = 0 := hwn
      subst e2 e3
      exact (utree_list d l ao cap w S H1 ⟨ao, cap, rfl, hc, hl⟩ hw1 (fun x hx => ⟨e, hw2 x hx⟩)).mono fun e w' g => by
        obtain ⟨ao', cap', he, g⟩ := g
        exact ⟨_, he, g.out.1.tree rfl, g.out.2⟩
    · subst h1
      rw [if_neg (by omega)] at hv
      subst hv
      have e2 : s = ⟨#[]⟩ := hws
      have e3 : n = 0 := hwn
      subst e2 e3
      exact (utree_quot d l ao cap w S H2 ⟨ao, cap, rfl, hc, hl⟩ hw1 (fun x hx => ⟨e, hw2 x hx⟩)).mono fun e w' g => by
        obtain ⟨ao', cap', he, g⟩ := g
        exact ⟨_, he, g.out.1.tree rfl, g.out.2⟩
set_option maxRecDepth 100000 in
theorem uitree_push (u : Value) (hu : ∃ T y, u = .iface T y) (x0 x1 : Int) (x2 : ByteArray) (Q : Value → World → Prop) (w : World)
    (HC0 : ∀ w1, w.heap.size < w1.heap.size → Only (fun _ => False) w w1 → Calls Tryz.prog 10 #[u] w1 fun e w' => ∃ lv, e = .returned (.agg #[.int .i64 x0, .int .i64 x1, .string x2, lv]) ∧ (∃ ao n cap, lv = .slice ao n cap) ∧ Hid ((∀ w2, Only (fun b => b = w.heap.size) w' w2 → Q lv w2) ∧ Only (fun _ => False) w1 w')) :
    Calls Tryz.prog 40 #[.iface 108 (.agg #[u])] w fun e w' => ∃ lv, e = .returned (.agg #[.int .i64 x0, .int .i64 x1, .string x2, lv]) ∧ Hid (Q lv w' ∧ Only (fun _ => False) w w') := by
  have HC : Hid (∀ w1, w.heap.size < w1.heap.size → Only (fun _ => False) w w1 → Calls Tryz.prog 10 #[u] w1 fun e w' => ∃ lv, e = .returned (.agg #[.int .i64 x0, .int .i64 x1, .string x2, lv]) ∧ (∃ ao n cap, lv = .slice ao n cap) ∧ Hid ((∀ w2, Only (fun b => b = w.heap.size) w' w2 → Q lv w2) ∧ Only (fun _ => False) w1 w')) := HC0
  obtain ⟨T, y, rfl⟩ := hu
  have hPush := uas_hit 108 94 _ Tryz.underlying108 (by intro m h; cases h)
  have O0 : Hid (Only (fun _ => False) w w) := Only.refl _ _
  clear HC0
  go_enter Tryz.func40, Tryz.ntmps40
  go_wp2_with fail
  refine (show Calls Tryz.prog 10 _ _ _ from HC.out _ (by simp; omega) ((O0.out.alloc _).alloc _)).mono ?_
  rintro e w1 ⟨lv, rfl, ⟨ao, nn, cap, rfl⟩, g1⟩
  have R3 : w1.heap[w.heap.size]? = some (.cells #[.int .i64 0, .int .i64 0, .string ⟨#[]⟩, .slice none 0 0] 24) := (g1.out.2.block w.heap.size (by simp; omega) (fun h => h)).trans ((((Only.refl (fun _ => False) (w.alloc (.cells #[.int .i64 0, .int .i64 0, .string ⟨#[]⟩, .slice none 0 0] 24))).alloc _).block w.heap.size (by simp) (fun h => h)).trans (valloc_at _ _ _ rfl))
  have G1 : Hid ((∀ w2, Only (fun b => b = w.heap.size) w1 w2 → Q (.slice ao nn cap) w2) ∧ Only (fun _ => False) w w1) := ⟨g1.out.1, ((O0.out.alloc _).alloc _).trans g1.out.2 (fun _ _ g => g)⟩
  clear g1 HC O0
  obtain ⟨B, hBe⟩ : ∃ B, B = w.heap.size := ⟨_, rfl⟩
  have HE : Hid (B = w.heap.size) := hBe
  rw [← hBe] at R3 ⊢
  have c0 := blk_cells R3 0
  have c1 := blk_cells R3 1
  have c2 := blk_cells R3 2
  have c3 := blk_cells R3 3
  have z0 := blk_froz R3 0
  have z1 := blk_froz R3 1
  have z2 := blk_froz R3 2
  have z3 := blk_froz R3 3
  have HR3 : Hid (w1.heap[B]? = some (.cells #[.int .i64 0, .int .i64 0, .string ⟨#[]⟩, .slice none 0 0] 24)) := R3
  simp only [List.getElem?_toArray, List.getElem?_cons_zero, List.getElem?_cons_succ] at c0 c1 c2 c3
  clear R3 hBe
  go_wp2
  obtain ⟨p0, p1, p2, p3⟩ := set4 HR3.out rfl (.int .i64 x0) (.int .i64 x1) (.string x2) (.slice ao nn cap)
  have hBe : B = w.heap.size := HE.out
  have OB := @uonly4 w1 B (.int .i64 x0) (.int .i64 x1) (.string x2) (.slice ao nn cap)
  refine bodyPost_ret (uresults_v rfl _ _ B p0 p1 p2 p3 rfl) rfl ⟨_, rfl, G1.out.1 _ (by rw [← hBe]; exact OB), G1.out.2.trans OB (fun b h e => by omega)⟩
theorem uitree_of (d : Nat) (H : TuE d 10 false) : TuE (d + 1) 40 true := by
  intro v t w S h hw
  rcases h with ⟨h1, h2, h3⟩ | ⟨h1, h2, h3⟩ | ⟨h1, h8, u, h3, h4⟩
  · obtain ⟨k, n, s, l⟩ := t
    obtain ⟨e, hw⟩ := hw
    cases e with
    | zero => exact hw.elim
    | succ e =>
    obtain ⟨hw1, hwb, hwn, hws, hw2⟩ := hw
    dsimp only at h1 h2 h3 hwn
    subst h1 h3
    have e3 : n = 0 := hwn
    subst e3
    exact (utree_call s w).mono fun e w' g => ⟨_, g.1, nu_nil h2, g.2⟩
  · obtain ⟨k, n, s, l⟩ := t
    obtain ⟨e, hw⟩ := hw
    cases e with
    | zero => exact hw.elim
    | succ e =>
    obtain ⟨hw1, hwb, hwn, hws, hw2⟩ := hw
    dsimp only at h1 h2 h3 hwn hws
    subst h1 h3
    have e2 : s = ⟨#[]⟩ := hws
    have e3 : n = 0 := hwn
    subst e2 e3
    exact (uitree_nil w).mono fun e w' g => ⟨_, g.1, nu_nil h2, g.2⟩
  · subst h3
    refine (uitree_push u (h4.iface h8) t.k t.n t.s (fun lv w' => NuAt w' w.heap.size (d + 1) t lv) w fun w1 hlt o1 => ?_).mono fun e w' g => g
    have h5 : TiAt w1 S d false t u := h4.step (fun _ g => g) (fun a u _ hc => o1.cell hc (fun g => g)) (Nat.le_refl _)
    refine (H u t w1 S h5 hw).mono fun e w' g => ?_
    obtain ⟨lv, he, g⟩ := g
    obtain ⟨ao, cap, hf⟩ := g.out.1.form
    exact ⟨lv, he, ⟨ao, _, cap, hf⟩, fun w2 o2 => ((g.out.1.only o2 (fun b hb e => by omega)).lower (by omega)).deep (by omega), g.out.2⟩
end Go.Proofs.YthlloenonjagbaaGreatDoor
