/- Words that leave a flag. Words that compare numbers, and those that ask for a kind. -/
import Derived.Test.YtbhpjakjlfkfiabGreatDoorGap
import Derived.Test.YtbhpjakjlfkfiabGreatDoorGao
import Derived.Deep.RegionHeld3
namespace Go.Proofs.YtbhpjakjlfkfiabGreatDoor
open Go.RowKit Go.Lib
set_option linter.unusedSimpArgs false
set_option linter.unusedVariables false
/-- a flag as a value -/
def boT (b : Bool) : Vt := ⟨3, if b then 1 else 0, ⟨#[]⟩, []⟩
theorem bo_sm (b : Bool) : ∃ e, SmT e (boT b) := by
  refine ⟨1, Nat.zero_le _, Nat.zero_le _, ⟨(by decide : (-9223372036854775808 : Int) ≤ 3), (by decide : (3 : Int) ≤ 9223372036854775807)⟩, ?_, fun x hx => by cases hx⟩
  cases b
  · exact ⟨(by decide : (-9223372036854775808 : Int) ≤ 0), (by decide : (0 : Int) ≤ 9223372036854775807)⟩
  · exact ⟨(by decide : (-9223372036854775808 : Int) ≤ 1), (by decide : (1 : Int) ≤ 9223372036854775807)⟩
theorem bo_ti (w : World) (S : Nat → Prop) (d : Nat) (b : Bool) : TiAt w S (d + 1) false (boT b) (.iface 58 (.agg #[.bool b])) := by
  refine .inr (.inr (.inl ⟨rfl, rfl, ?_⟩))
  cases b <;> rfl
/-- what holds answers of values of its kinds -/
def HoC (name : ByteArray) (ks : List Int) (hb : List Vt → Bool) : Prop := ∀ (d : Nat) (l : List Vt) (G q : Nat) (w : World) (S : Nat → Prop), PsAt w S d false l (some ⟨G, q, none⟩) → (∀ b, S b → b < w.heap.size) → l.length = ks.length → (∀ x ∈ l, ∃ e, SmT e x) → l.all (sdB d) = true → fitB l ks = true → Tx w →
  Calls Tryz.prog 45 #[.string name, .slice (some ⟨G, q, none⟩) l.length l.length] w fun e w' => e = .returned (.bool (hb l)) ∧ Only (fun _ => False) w w'
theorem ti_1 {w : World} {S : Nat → Prop} {d : Nat} {t : Vt} {v : Value} (h : TiAt w S d false t v) (hk : t.k = 1) : v = .iface 27 (.agg #[.int .i64 t.n]) := by
  cases d with
  | zero => exact h.elim
  | succ d => rcases h with ⟨e, _, g⟩ | ⟨e, _, g⟩ | ⟨e, _, g⟩ | ⟨e, _, g⟩ | ⟨e, _, g⟩ | ⟨e, _⟩ <;> first | exact g | omega
theorem ti_2 {w : World} {S : Nat → Prop} {d : Nat} {t : Vt} {v : Value} (h : TiAt w S d false t v) (hk : t.k = 2) : v = .iface 56 (.agg #[.string t.s]) := by
  cases d with
  | zero => exact h.elim
  | succ d => rcases h with ⟨e, _, g⟩ | ⟨e, _, g⟩ | ⟨e, _, g⟩ | ⟨e, _, g⟩ | ⟨e, _, g⟩ | ⟨e, _⟩ <;> first | omega | exact g
theorem ti_3 {w : World} {S : Nat → Prop} {d : Nat} {t : Vt} {v : Value} (h : TiAt w S d false t v) (hk : t.k = 3) : v = .iface 58 (.agg #[.bool (t.n != 0)]) := by
  cases d with
  | zero => exact h.elim
  | succ d => rcases h with ⟨e, _, g⟩ | ⟨e, _, g⟩ | ⟨e, _, g⟩ | ⟨e, _, g⟩ | ⟨e, _, g⟩ | ⟨e, _⟩ <;> first | omega | exact g
set_option maxRecDepth 100000 in
theorem mh_not {ks : List Int} {hb : List Vt → Bool} (hH : HoC ⟨#[110, 111, 116]⟩ ks hb) : MdC ⟨#[110, 111, 116]⟩ ks (fun _ l => .ok (boT (hb l))) := by
  intro d l G q w S hl hS hlen hsm hsd hf hT
  have HH : Hid _ := hH d l G q w S hl hS hlen hsm hsd hf hT
  obtain ⟨b, hb0⟩ : ∃ b, b = hb l := ⟨_, rfl⟩
  have HP : Hid (∀ w', Only (fun _ => False) w w' → MdP (.ok (boT b)) (d + 2) w (.returned (.tuple #[.iface 58 (.agg #[.bool b]), .int .i64 0])) w') := fun w' o => ⟨_, rfl, ⟨fun _ => False, bo_ti w' _ (d + 1) b, fun _ g => g.elim⟩, bo_sm b, o⟩
  obtain ⟨L, hL⟩ : ∃ L, L = l.length := ⟨_, rfl⟩
  dsimp only
  rw [← hb0] at HH ⊢
  rw [← hL] at HH ⊢
  clear hl hS hlen hsm hsd hf hT hL hb0 hH
  go_enter Tryz.func32, Tryz.ntmps32
  go_wp2_with fail
  refine (show Calls Tryz.prog 45 _ _ _ from HH.out).mono ?_
  rintro e w1 ⟨rfl, o1⟩
  have O1 : Hid (Only (fun _ => False) w w1) := o1
  clear HH o1
  go_wp2
  go_ret2
  exact HP.out _ O1.out
set_option maxRecDepth 100000 in
theorem mh_and {ks : List Int} {hb : List Vt → Bool} (hH : HoC ⟨#[97, 110, 100]⟩ ks hb) : MdC ⟨#[97, 110, 100]⟩ ks (fun _ l => .ok (boT (hb l))) := by
  intro d l G q w S hl hS hlen hsm hsd hf hT
  have HH : Hid _ := hH d l G q w S hl hS hlen hsm hsd hf hT
  obtain ⟨b, hb0⟩ : ∃ b, b = hb l := ⟨_, rfl⟩
  have HP : Hid (∀ w', Only (fun _ => False) w w' → MdP (.ok (boT b)) (d + 2) w (.returned (.tuple #[.iface 58 (.agg #[.bool b]), .int .i64 0])) w') := fun w' o => ⟨_, rfl, ⟨fun _ => False, bo_ti w' _ (d + 1) b, fun _ g => g.elim⟩, bo_sm b, o⟩
  obtain ⟨L, hL⟩ : ∃ L, L = l.length := ⟨_, rfl⟩
  dsimp only
  rw [← hb0] at HH ⊢
  rw [← hL] at HH ⊢
  clear hl hS hlen hsm hsd hf hT hL hb0 hH
  go_enter Tryz.func32, Tryz.ntmps32
  go_wp2_with fail
  refine (show Calls Tryz.prog 45 _ _ _ from HH.out).mono ?_
  rintro e w1 ⟨rfl, o1⟩
  have O1 : Hid (Only (fun _ => False) w w1) := o1
  clear HH o1
  go_wp2
  go_ret2
  exact HP.out _ O1.out
set_option maxRecDepth 100000 in
theorem mh_or {ks : List Int} {hb : List Vt → Bool} (hH : HoC ⟨#[111, 114]⟩ ks hb) : MdC ⟨#[111, 114]⟩ ks (fun _ l => .ok (boT (hb l))) := by
  intro d l G q w S hl hS hlen hsm hsd hf hT
  have HH : Hid _ := hH d l G q w S hl hS hlen hsm hsd hf hT
  obtain ⟨b, hb0⟩ : ∃ b, b = hb l := ⟨_, rfl⟩
  have HP : Hid (∀ w', Only (fun _ => False) w w' → MdP (.ok (boT b)) (d + 2) w (.returned (.tuple #[.iface 58 (.agg #[.bool b]), .int .i64 0])) w') := fun w' o => ⟨_, rfl, ⟨fun _ => False, bo_ti w' _ (d + 1) b, fun _ g => g.elim⟩, bo_sm b, o⟩
  obtain ⟨L, hL⟩ : ∃ L, L = l.length := ⟨_, rfl⟩
  dsimp only
  rw [← hb0] at HH ⊢
  rw [← hL] at HH ⊢
  clear hl hS hlen hsm hsd hf hT hL hb0 hH
  go_enter Tryz.func32, Tryz.ntmps32
  go_wp2_with fail
  refine (show Calls Tryz.prog 45 _ _ _ from HH.out).mono ?_
  rintro e w1 ⟨rfl, o1⟩
  have O1 : Hid (Only (fun _ => False) w w1) := o1
  clear HH o1
  go_wp2
  go_ret2
  exact HP.out _ O1.out
set_option maxRecDepth 100000 in
theorem mh_lt {ks : List Int} {hb : List Vt → Bool} (hH : HoC ⟨#[60]⟩ ks hb) : MdC ⟨#[60]⟩ ks (fun _ l => .ok (boT (hb l))) := by
  intro d l G q w S hl hS hlen hsm hsd hf hT
  have HH : Hid _ := hH d l G q w S hl hS hlen hsm hsd hf hT
  obtain ⟨b, hb0⟩ : ∃ b, b = hb l := ⟨_, rfl⟩
  have HP : Hid (∀ w', Only (fun _ => False) w w' → MdP (.ok (boT b)) (d + 2) w (.returned (.tuple #[.iface 58 (.agg #[.bool b]), .int .i64 0])) w') := fun w' o => ⟨_, rfl, ⟨fun _ => False, bo_ti w' _ (d + 1) b, fun _ g => g.elim⟩, bo_sm b, o⟩
  obtain ⟨L, hL⟩ : ∃ L, L = l.length := ⟨_, rfl⟩
  dsimp only
  rw [← hb0] at HH ⊢
  rw [← hL] at HH ⊢
  clear hl hS hlen hsm hsd hf hT hL hb0 hH
  go_enter Tryz.func32, Tryz.ntmps32
  go_wp2_with fail
  refine (show Calls Tryz.prog 45 _ _ _ from HH.out).mono ?_
  rintro e w1 ⟨rfl, o1⟩
  have O1 : Hid (Only (fun _ => False) w w1) := o1
  clear HH o1
  go_wp2
  go_ret2
  exact HP.out _ O1.out
set_option maxRecDepth 100000 in
theorem mh_gt {ks : List Int} {hb : List Vt → Bool} (hH : HoC ⟨#[62]⟩ ks hb) : MdC ⟨#[62]⟩ ks (fun _ l => .ok (boT (hb l))) := by
  intro d l G q w S hl hS hlen hsm hsd hf hT
  have HH : Hid _ := hH d l G q w S hl hS hlen hsm hsd hf hT
  obtain ⟨b, hb0⟩ : ∃ b, b = hb l := ⟨_, rfl⟩
  have HP : Hid (∀ w', Only (fun _ => False) w w' → MdP (.ok (boT b)) (d + 2) w (.returned (.tuple #[.iface 58 (.agg #[.bool b]), .int .i64 0])) w') := fun w' o => ⟨_, rfl, ⟨fun _ => False, bo_ti w' _ (d + 1) b, fun _ g => g.elim⟩, bo_sm b, o⟩
  obtain ⟨L, hL⟩ : ∃ L, L = l.length := ⟨_, rfl⟩
  dsimp only
  rw [← hb0] at HH ⊢
  rw [← hL] at HH ⊢
  clear hl hS hlen hsm hsd hf hT hL hb0 hH
  go_enter Tryz.func32, Tryz.ntmps32
  go_wp2_with fail
  refine (show Calls Tryz.prog 45 _ _ _ from HH.out).mono ?_
  rintro e w1 ⟨rfl, o1⟩
  have O1 : Hid (Only (fun _ => False) w w1) := o1
  clear HH o1
  go_wp2
  go_ret2
  exact HP.out _ O1.out
set_option maxRecDepth 100000 in
theorem mh_eq {ks : List Int} {hb : List Vt → Bool} (hH : HoC ⟨#[61]⟩ ks hb) : MdC ⟨#[61]⟩ ks (fun _ l => .ok (boT (hb l))) := by
  intro d l G q w S hl hS hlen hsm hsd hf hT
  have HH : Hid _ := hH d l G q w S hl hS hlen hsm hsd hf hT
  obtain ⟨b, hb0⟩ : ∃ b, b = hb l := ⟨_, rfl⟩
  have HP : Hid (∀ w', Only (fun _ => False) w w' → MdP (.ok (boT b)) (d + 2) w (.returned (.tuple #[.iface 58 (.agg #[.bool b]), .int .i64 0])) w') := fun w' o => ⟨_, rfl, ⟨fun _ => False, bo_ti w' _ (d + 1) b, fun _ g => g.elim⟩, bo_sm b, o⟩
  obtain ⟨L, hL⟩ : ∃ L, L = l.length := ⟨_, rfl⟩
  dsimp only
  rw [← hb0] at HH ⊢
  rw [← hL] at HH ⊢
  clear hl hS hlen hsm hsd hf hT hL hb0 hH
  go_enter Tryz.func32, Tryz.ntmps32
  go_wp2_with fail
  refine (show Calls Tryz.prog 45 _ _ _ from HH.out).mono ?_
  rintro e w1 ⟨rfl, o1⟩
  have O1 : Hid (Only (fun _ => False) w w1) := o1
  clear HH o1
  go_wp2
  go_ret2
  exact HP.out _ O1.out
set_option maxRecDepth 100000 in
theorem mh_intQ {ks : List Int} {hb : List Vt → Bool} (hH : HoC ⟨#[105, 110, 116, 63]⟩ ks hb) : MdC ⟨#[105, 110, 116, 63]⟩ ks (fun _ l => .ok (boT (hb l))) := by
  intro d l G q w S hl hS hlen hsm hsd hf hT
  have HH : Hid _ := hH d l G q w S hl hS hlen hsm hsd hf hT
  obtain ⟨b, hb0⟩ : ∃ b, b = hb l := ⟨_, rfl⟩
  have HP : Hid (∀ w', Only (fun _ => False) w w' → MdP (.ok (boT b)) (d + 2) w (.returned (.tuple #[.iface 58 (.agg #[.bool b]), .int .i64 0])) w') := fun w' o => ⟨_, rfl, ⟨fun _ => False, bo_ti w' _ (d + 1) b, fun _ g => g.elim⟩, bo_sm b, o⟩
  obtain ⟨L, hL⟩ : ∃ L, L = l.length := ⟨_, rfl⟩
  dsimp only
  rw [← hb0] at HH ⊢
  rw [← hL] at HH ⊢
  clear hl hS hlen hsm hsd hf hT hL hb0 hH
  go_enter Tryz.func32, Tryz.ntmps32
  go_wp2_with fail
  refine (show Calls Tryz.prog 45 _ _ _ from HH.out).mono ?_
  rintro e w1 ⟨rfl, o1⟩
  have O1 : Hid (Only (fun _ => False) w w1) := o1
  clear HH o1
  go_wp2
  go_ret2
  exact HP.out _ O1.out
set_option maxRecDepth 100000 in
theorem mh_strQ {ks : List Int} {hb : List Vt → Bool} (hH : HoC ⟨#[115, 116, 114, 63]⟩ ks hb) : MdC ⟨#[115, 116, 114, 63]⟩ ks (fun _ l => .ok (boT (hb l))) := by
  intro d l G q w S hl hS hlen hsm hsd hf hT
  have HH : Hid _ := hH d l G q w S hl hS hlen hsm hsd hf hT
  obtain ⟨b, hb0⟩ : ∃ b, b = hb l := ⟨_, rfl⟩
  have HP : Hid (∀ w', Only (fun _ => False) w w' → MdP (.ok (boT b)) (d + 2) w (.returned (.tuple #[.iface 58 (.agg #[.bool b]), .int .i64 0])) w') := fun w' o => ⟨_, rfl, ⟨fun _ => False, bo_ti w' _ (d + 1) b, fun _ g => g.elim⟩, bo_sm b, o⟩
  obtain ⟨L, hL⟩ : ∃ L, L = l.length := ⟨_, rfl⟩
  dsimp only
  rw [← hb0] at HH ⊢
  rw [← hL] at HH ⊢
  clear hl hS hlen hsm hsd hf hT hL hb0 hH
  go_enter Tryz.func32, Tryz.ntmps32
  go_wp2_with fail
  refine (show Calls Tryz.prog 45 _ _ _ from HH.out).mono ?_
  rintro e w1 ⟨rfl, o1⟩
  have O1 : Hid (Only (fun _ => False) w w1) := o1
  clear HH o1
  go_wp2
  go_ret2
  exact HP.out _ O1.out
set_option maxRecDepth 100000 in
theorem mh_boolQ {ks : List Int} {hb : List Vt → Bool} (hH : HoC ⟨#[98, 111, 111, 108, 63]⟩ ks hb) : MdC ⟨#[98, 111, 111, 108, 63]⟩ ks (fun _ l => .ok (boT (hb l))) := by
  intro d l G q w S hl hS hlen hsm hsd hf hT
  have HH : Hid _ := hH d l G q w S hl hS hlen hsm hsd hf hT
  obtain ⟨b, hb0⟩ : ∃ b, b = hb l := ⟨_, rfl⟩
  have HP : Hid (∀ w', Only (fun _ => False) w w' → MdP (.ok (boT b)) (d + 2) w (.returned (.tuple #[.iface 58 (.agg #[.bool b]), .int .i64 0])) w') := fun w' o => ⟨_, rfl, ⟨fun _ => False, bo_ti w' _ (d + 1) b, fun _ g => g.elim⟩, bo_sm b, o⟩
  obtain ⟨L, hL⟩ : ∃ L, L = l.length := ⟨_, rfl⟩
  dsimp only
  rw [← hb0] at HH ⊢
  rw [← hL] at HH ⊢
  clear hl hS hlen hsm hsd hf hT hL hb0 hH
  go_enter Tryz.func32, Tryz.ntmps32
  go_wp2_with fail
  refine (show Calls Tryz.prog 45 _ _ _ from HH.out).mono ?_
  rintro e w1 ⟨rfl, o1⟩
  have O1 : Hid (Only (fun _ => False) w w1) := o1
  clear HH o1
  go_wp2
  go_ret2
  exact HP.out _ O1.out
set_option maxRecDepth 100000 in
theorem mh_listQ {ks : List Int} {hb : List Vt → Bool} (hH : HoC ⟨#[108, 105, 115, 116, 63]⟩ ks hb) : MdC ⟨#[108, 105, 115, 116, 63]⟩ ks (fun _ l => .ok (boT (hb l))) := by
  intro d l G q w S hl hS hlen hsm hsd hf hT
  have HH : Hid _ := hH d l G q w S hl hS hlen hsm hsd hf hT
  obtain ⟨b, hb0⟩ : ∃ b, b = hb l := ⟨_, rfl⟩
  have HP : Hid (∀ w', Only (fun _ => False) w w' → MdP (.ok (boT b)) (d + 2) w (.returned (.tuple #[.iface 58 (.agg #[.bool b]), .int .i64 0])) w') := fun w' o => ⟨_, rfl, ⟨fun _ => False, bo_ti w' _ (d + 1) b, fun _ g => g.elim⟩, bo_sm b, o⟩
  obtain ⟨L, hL⟩ : ∃ L, L = l.length := ⟨_, rfl⟩
  dsimp only
  rw [← hb0] at HH ⊢
  rw [← hL] at HH ⊢
  clear hl hS hlen hsm hsd hf hT hL hb0 hH
  go_enter Tryz.func32, Tryz.ntmps32
  go_wp2_with fail
  refine (show Calls Tryz.prog 45 _ _ _ from HH.out).mono ?_
  rintro e w1 ⟨rfl, o1⟩
  have O1 : Hid (Only (fun _ => False) w w1) := o1
  clear HH o1
  go_wp2
  go_ret2
  exact HP.out _ O1.out
set_option maxRecDepth 100000 in
theorem mh_quotQ {ks : List Int} {hb : List Vt → Bool} (hH : HoC ⟨#[113, 117, 111, 116, 63]⟩ ks hb) : MdC ⟨#[113, 117, 111, 116, 63]⟩ ks (fun _ l => .ok (boT (hb l))) := by
  intro d l G q w S hl hS hlen hsm hsd hf hT
  have HH : Hid _ := hH d l G q w S hl hS hlen hsm hsd hf hT
  obtain ⟨b, hb0⟩ : ∃ b, b = hb l := ⟨_, rfl⟩
  have HP : Hid (∀ w', Only (fun _ => False) w w' → MdP (.ok (boT b)) (d + 2) w (.returned (.tuple #[.iface 58 (.agg #[.bool b]), .int .i64 0])) w') := fun w' o => ⟨_, rfl, ⟨fun _ => False, bo_ti w' _ (d + 1) b, fun _ g => g.elim⟩, bo_sm b, o⟩
  obtain ⟨L, hL⟩ : ∃ L, L = l.length := ⟨_, rfl⟩
  dsimp only
  rw [← hb0] at HH ⊢
  rw [← hL] at HH ⊢
  clear hl hS hlen hsm hsd hf hT hL hb0 hH
  go_enter Tryz.func32, Tryz.ntmps32
  go_wp2_with fail
  refine (show Calls Tryz.prog 45 _ _ _ from HH.out).mono ?_
  rintro e w1 ⟨rfl, o1⟩
  have O1 : Hid (Only (fun _ => False) w w1) := o1
  clear HH o1
  go_wp2
  go_ret2
  exact HP.out _ O1.out
set_option maxRecDepth 100000 in
theorem mh_boxQ {ks : List Int} {hb : List Vt → Bool} (hH : HoC ⟨#[98, 111, 120, 63]⟩ ks hb) : MdC ⟨#[98, 111, 120, 63]⟩ ks (fun _ l => .ok (boT (hb l))) := by
  intro d l G q w S hl hS hlen hsm hsd hf hT
  have HH : Hid _ := hH d l G q w S hl hS hlen hsm hsd hf hT
  obtain ⟨b, hb0⟩ : ∃ b, b = hb l := ⟨_, rfl⟩
  have HP : Hid (∀ w', Only (fun _ => False) w w' → MdP (.ok (boT b)) (d + 2) w (.returned (.tuple #[.iface 58 (.agg #[.bool b]), .int .i64 0])) w') := fun w' o => ⟨_, rfl, ⟨fun _ => False, bo_ti w' _ (d + 1) b, fun _ g => g.elim⟩, bo_sm b, o⟩
  obtain ⟨L, hL⟩ : ∃ L, L = l.length := ⟨_, rfl⟩
  dsimp only
  rw [← hb0] at HH ⊢
  rw [← hL] at HH ⊢
  clear hl hS hlen hsm hsd hf hT hL hb0 hH
  go_enter Tryz.func32, Tryz.ntmps32
  go_wp2_with fail
  refine (show Calls Tryz.prog 45 _ _ _ from HH.out).mono ?_
  rintro e w1 ⟨rfl, o1⟩
  have O1 : Hid (Only (fun _ => False) w w1) := o1
  clear HH o1
  go_wp2
  go_ret2
  exact HP.out _ O1.out
/-- the flag of a value -/
def flB (t : Vt) : Bool := t.n != 0
set_option maxRecDepth 100000 in
theorem ho_not : HoC ⟨#[110, 111, 116]⟩ [4] (fun l => !flB (l.getD 0 zT)) := by
  intro d l G q w S hl hS hlen hsm hsd hf hT
  obtain ⟨x, rfl, hk⟩ := fit1 hlen hf
  obtain ⟨g, k, u, ha, hg, hc, ht⟩ := hl 0 x rfl
  cases ha
  have hu := ti_3 ht (fb_4 hk)
  subst hu
  show Calls Tryz.prog 45 #[_, .slice (some ⟨G, q, none⟩) 1 1] w fun e w' => e = .returned (.bool (!flB x)) ∧ _
  have hc0 : w.cell? ⟨G, q, none⟩ = some (.iface 58 (.agg #[.bool (flB x)])) := hc
  obtain ⟨b, hb⟩ : ∃ b, b = flB x := ⟨_, rfl⟩
  rw [← hb] at hc0 ⊢
  have HF : Hid _ := g_flag b w
  have O0 : Hid (Only (fun _ => False) w w) := Only.refl _ _
  clear hl hS hlen hsm hsd hf hT hk hg hc ht hb
  go_enter Tryz.func45, Tryz.ntmps45
  go_wp2_with fail
  refine (show Calls Tryz.prog 65 _ _ _ from HF.out).mono ?_
  rintro e w1 ⟨rfl, hw1⟩
  obtain rfl := hw1.symm
  go_wp2
  go_ret
  exact ⟨rfl, O0.out⟩
set_option maxRecDepth 100000 in
theorem ho_and : HoC ⟨#[97, 110, 100]⟩ [4, 4] (fun l => flB (l.getD 0 zT) && flB (l.getD 1 zT)) := by
  intro d l G q w S hl hS hlen hsm hsd hf hT
  obtain ⟨x, y, rfl, hk, hk2⟩ := fit2 hlen hf
  obtain ⟨g, k, u, ha, hg, hc, ht⟩ := hl 0 x rfl
  cases ha
  obtain ⟨g2, k2, u2, ha2, hg2, hc2, ht2⟩ := hl 1 y rfl
  cases ha2
  have hu := ti_3 ht (fb_4 hk)
  subst hu
  have hu2 := ti_3 ht2 (fb_4 hk2)
  subst hu2
  show Calls Tryz.prog 45 #[_, .slice (some ⟨G, q, none⟩) 2 2] w fun e w' => e = .returned (.bool (flB x && flB y)) ∧ _
  have hc0 : w.cell? ⟨G, q, none⟩ = some (.iface 58 (.agg #[.bool (flB x)])) := hc
  have hc1 : w.cell? ⟨G, q + 1, none⟩ = some (.iface 58 (.agg #[.bool (flB y)])) := hc2
  obtain ⟨b, hb⟩ : ∃ b, b = flB x := ⟨_, rfl⟩
  obtain ⟨c, hcc⟩ : ∃ c, c = flB y := ⟨_, rfl⟩
  rw [← hb] at hc0 ⊢
  rw [← hcc] at hc1 ⊢
  have HF : Hid _ := g_flag b w
  have HF2 : Hid _ := g_flag c w
  have O0 : Hid (Only (fun _ => False) w w) := Only.refl _ _
  clear hl hS hlen hsm hsd hf hT hk hg hc ht hb hk2 hg2 hc2 ht2 hcc
  cases b with
  | false =>
    go_enter Tryz.func45, Tryz.ntmps45
    go_wp2_with fail
    refine (show Calls Tryz.prog 65 _ _ _ from HF.out).mono ?_
    rintro e w1 ⟨rfl, hw1⟩
    obtain rfl := hw1.symm
    go_wp2
    go_ret
    exact ⟨rfl, O0.out⟩
  | true =>
    go_enter Tryz.func45, Tryz.ntmps45
    go_wp2_with fail
    refine (show Calls Tryz.prog 65 _ _ _ from HF.out).mono ?_
    rintro e w1 ⟨rfl, hw1⟩
    obtain rfl := hw1.symm
    go_wp2_with fail
    refine (show Calls Tryz.prog 65 _ _ _ from HF2.out).mono ?_
    rintro e w1 ⟨rfl, hw1⟩
    obtain rfl := hw1.symm
    go_wp2
    go_ret
    exact ⟨rfl, O0.out⟩
set_option maxRecDepth 100000 in
theorem ho_or : HoC ⟨#[111, 114]⟩ [4, 4] (fun l => flB (l.getD 0 zT) || flB (l.getD 1 zT)) := by
  intro d l G q w S hl hS hlen hsm hsd hf hT
  obtain ⟨x, y, rfl, hk, hk2⟩ := fit2 hlen hf
  obtain ⟨g, k, u, ha, hg, hc, ht⟩ := hl 0 x rfl
  cases ha
  obtain ⟨g2, k2, u2, ha2, hg2, hc2, ht2⟩ := hl 1 y rfl
  cases ha2
  have hu := ti_3 ht (fb_4 hk)
  subst hu
  have hu2 := ti_3 ht2 (fb_4 hk2)
  subst hu2
  show Calls Tryz.prog 45 #[_, .slice (some ⟨G, q, none⟩) 2 2] w fun e w' => e = .returned (.bool (flB x || flB y)) ∧ _
  have hc0 : w.cell? ⟨G, q, none⟩ = some (.iface 58 (.agg #[.bool (flB x)])) := hc
  have hc1 : w.cell? ⟨G, q + 1, none⟩ = some (.iface 58 (.agg #[.bool (flB y)])) := hc2
  obtain ⟨b, hb⟩ : ∃ b, b = flB x := ⟨_, rfl⟩
  obtain ⟨c, hcc⟩ : ∃ c, c = flB y := ⟨_, rfl⟩
  rw [← hb] at hc0 ⊢
  rw [← hcc] at hc1 ⊢
  have HF : Hid _ := g_flag b w
  have HF2 : Hid _ := g_flag c w
  have O0 : Hid (Only (fun _ => False) w w) := Only.refl _ _
  clear hl hS hlen hsm hsd hf hT hk hg hc ht hb hk2 hg2 hc2 ht2 hcc
  cases b with
  | true =>
    go_enter Tryz.func45, Tryz.ntmps45
    go_wp2_with fail
    refine (show Calls Tryz.prog 65 _ _ _ from HF.out).mono ?_
    rintro e w1 ⟨rfl, hw1⟩
    obtain rfl := hw1.symm
    go_wp2
    go_ret
    exact ⟨rfl, O0.out⟩
  | false =>
    go_enter Tryz.func45, Tryz.ntmps45
    go_wp2_with fail
    refine (show Calls Tryz.prog 65 _ _ _ from HF.out).mono ?_
    rintro e w1 ⟨rfl, hw1⟩
    obtain rfl := hw1.symm
    go_wp2_with fail
    refine (show Calls Tryz.prog 65 _ _ _ from HF2.out).mono ?_
    rintro e w1 ⟨rfl, hw1⟩
    obtain rfl := hw1.symm
    go_wp2
    go_ret
    exact ⟨rfl, O0.out⟩
end Go.Proofs.YtbhpjakjlfkfiabGreatDoor
namespace Go.Proofs.YtbhpjakjlfkfiabGreatDoor
open Go.RowKit Go.Lib
set_option linter.unusedSimpArgs false
set_option linter.unusedVariables false
set_option maxRecDepth 100000 in
set_option maxHeartbeats 4000000 in
theorem ho_lt : HoC ⟨#[60]⟩ [1, 1] (fun l => decide ((l.getD 0 zT).n < (l.getD 1 zT).n)) := by
  intro d l G q w S hl hS hlen hsm hsd hf hT
  obtain ⟨x, y, rfl, hk, hk2⟩ := fit2 hlen hf
  obtain ⟨g, k, u, ha, hg, hc, ht⟩ := hl 0 x rfl
  cases ha
  obtain ⟨g2, k2, u2, ha2, hg2, hc2, ht2⟩ := hl 1 y rfl
  cases ha2
  have hu := ti_1 ht (fb_1 hk)
  subst hu
  have hu2 := ti_1 ht2 (fb_1 hk2)
  subst hu2
  show Calls Tryz.prog 45 #[_, .slice (some ⟨G, q, none⟩) 2 2] w fun e w' => e = .returned (.bool (decide (x.n < y.n))) ∧ _
  obtain ⟨n, hn⟩ : ∃ n, n = x.n := ⟨_, rfl⟩
  obtain ⟨m, hm⟩ : ∃ m, m = y.n := ⟨_, rfl⟩
  have HC : Hid (∀ W, Only (fun _ => False) w W → W.cell? ⟨G, q, none⟩ = some (.iface 27 (.agg #[.int .i64 n])) ∧ W.cell? ⟨G, q + 1, none⟩ = some (.iface 27 (.agg #[.int .i64 m]))) := fun W o => ⟨o.cell (by rw [hn]; exact hc) (fun g => g), o.cell (by rw [hm]; exact hc2) (fun g => g)⟩
  rw [← hn, ← hm]
  have HN1 : Hid (∀ W, Calls Tryz.prog 44 #[.iface 27 (.agg #[.int .i64 n])] W fun e w' => e = .returned (.int .i64 n) ∧ w' = W) := g_number n
  have HN2 : Hid (∀ W, Calls Tryz.prog 44 #[.iface 27 (.agg #[.int .i64 m])] W fun e w' => e = .returned (.int .i64 m) ∧ w' = W) := g_number m
  have O0 : Hid (Only (fun _ => False) w w) := Only.refl _ _
  obtain ⟨c0, c1⟩ := HC.out w (Only.refl _ _)
  clear hl hS hlen hsm hsd hf hT hk hg hc ht hk2 hg2 hc2 ht2 hn hm
  go_enter Tryz.func45, Tryz.ntmps45
  go_wp2
  go_region_held3 (fun W => W.cell? ⟨G, q, none⟩ = some (.iface 27 (.agg #[.int .i64 n])) ∧ W.cell? ⟨G, q + 1, none⟩ = some (.iface 27 (.agg #[.int .i64 m])))
    (first | with_reducible exact HC.out _ O0.out | with_reducible exact HC.out _ O0.out.drew | with_reducible exact HC.out _ O0.out.drew.drew)
    (first
      | (go_at_call 44; refine (show Calls Tryz.prog 44 _ _ _ from HN1.out _).mono ?_; rintro ex w4 ⟨rfl, rfl⟩)
      | (go_at_call 44; refine (show Calls Tryz.prog 44 _ _ _ from HN2.out _).mono ?_; rintro ex w4 ⟨rfl, rfl⟩))
  all_goals
    go_wp2
    go_ret
    refine ⟨rfl, ?_⟩
    repeat (first | exact O0.out | refine Only.drew ?_)
set_option maxRecDepth 100000 in
set_option maxHeartbeats 4000000 in
theorem ho_gt : HoC ⟨#[62]⟩ [1, 1] (fun l => decide ((l.getD 0 zT).n > (l.getD 1 zT).n)) := by
  intro d l G q w S hl hS hlen hsm hsd hf hT
  obtain ⟨x, y, rfl, hk, hk2⟩ := fit2 hlen hf
  obtain ⟨g, k, u, ha, hg, hc, ht⟩ := hl 0 x rfl
  cases ha
  obtain ⟨g2, k2, u2, ha2, hg2, hc2, ht2⟩ := hl 1 y rfl
  cases ha2
  have hu := ti_1 ht (fb_1 hk)
  subst hu
  have hu2 := ti_1 ht2 (fb_1 hk2)
  subst hu2
  show Calls Tryz.prog 45 #[_, .slice (some ⟨G, q, none⟩) 2 2] w fun e w' => e = .returned (.bool (decide (x.n > y.n))) ∧ _
  obtain ⟨n, hn⟩ : ∃ n, n = x.n := ⟨_, rfl⟩
  obtain ⟨m, hm⟩ : ∃ m, m = y.n := ⟨_, rfl⟩
  have HC : Hid (∀ W, Only (fun _ => False) w W → W.cell? ⟨G, q, none⟩ = some (.iface 27 (.agg #[.int .i64 n])) ∧ W.cell? ⟨G, q + 1, none⟩ = some (.iface 27 (.agg #[.int .i64 m]))) := fun W o => ⟨o.cell (by rw [hn]; exact hc) (fun g => g), o.cell (by rw [hm]; exact hc2) (fun g => g)⟩
  rw [← hn, ← hm]
  have HN1 : Hid (∀ W, Calls Tryz.prog 44 #[.iface 27 (.agg #[.int .i64 n])] W fun e w' => e = .returned (.int .i64 n) ∧ w' = W) := g_number n
  have HN2 : Hid (∀ W, Calls Tryz.prog 44 #[.iface 27 (.agg #[.int .i64 m])] W fun e w' => e = .returned (.int .i64 m) ∧ w' = W) := g_number m
  have O0 : Hid (Only (fun _ => False) w w) := Only.refl _ _
  obtain ⟨c0, c1⟩ := HC.out w (Only.refl _ _)
  clear hl hS hlen hsm hsd hf hT hk hg hc ht hk2 hg2 hc2 ht2 hn hm
  go_enter Tryz.func45, Tryz.ntmps45
  go_wp2
  go_region_held3 (fun W => W.cell? ⟨G, q, none⟩ = some (.iface 27 (.agg #[.int .i64 n])) ∧ W.cell? ⟨G, q + 1, none⟩ = some (.iface 27 (.agg #[.int .i64 m])))
    (first | with_reducible exact HC.out _ O0.out | with_reducible exact HC.out _ O0.out.drew | with_reducible exact HC.out _ O0.out.drew.drew)
    (first
      | (go_at_call 44; refine (show Calls Tryz.prog 44 _ _ _ from HN1.out _).mono ?_; rintro ex w4 ⟨rfl, rfl⟩)
      | (go_at_call 44; refine (show Calls Tryz.prog 44 _ _ _ from HN2.out _).mono ?_; rintro ex w4 ⟨rfl, rfl⟩))
  all_goals
    go_wp2
    go_ret
    refine ⟨rfl, ?_⟩
    repeat (first | exact O0.out | refine Only.drew ?_)
set_option maxRecDepth 100000 in
theorem asked_int (w : World) : Calls Tryz.prog 66 #[.string ⟨#[105, 110, 116, 63]⟩] w fun e w' => e = .returned (.int .i64 1) ∧ w' = w := by
  go_enter Tryz.func66, Tryz.ntmps66
  go_wp2
  go_ret
  exact ⟨rfl, rfl⟩
set_option maxRecDepth 100000 in
theorem ho_intQ : HoC ⟨#[105, 110, 116, 63]⟩ [63] (fun l => kd (l.getD 0 zT) == 1) := by
  intro d l G q w S hl hS hlen hsm hsd hf hT
  obtain ⟨x, rfl, hk⟩ := fit1 hlen hf
  obtain ⟨g, k, u, ha, hg, hc, ht⟩ := hl 0 x rfl
  cases ha
  have HK : Hid _ := kind_any ht w
  have HA : Hid _ := asked_int w
  have hsh := ht.shape2
  show Calls Tryz.prog 45 #[_, .slice (some ⟨G, q, none⟩) 1 1] w fun e w' => e = .returned (.bool (kd x == 1)) ∧ _
  have hc0 : w.cell? ⟨G, q, none⟩ = some u := hc
  obtain ⟨y, hy⟩ : ∃ y, y = kd x := ⟨_, rfl⟩
  rw [← hy] at HK ⊢
  have O0 : Hid (Only (fun _ => False) w w) := Only.refl _ _
  clear hl hS hlen hsm hsd hf hT hk hg hc ht hy
  rcases hsh with rfl | ⟨T, z, rfl⟩
  all_goals
    go_enter Tryz.func45, Tryz.ntmps45
    go_wp2_with fail
    refine (show Calls Tryz.prog 27 _ _ _ from HK.out).mono ?_
    rintro e w1 ⟨rfl, hw1⟩
    obtain rfl := hw1.symm
    go_wp2_with fail
    refine (show Calls Tryz.prog 66 _ _ _ from HA.out).mono ?_
    rintro e w1 ⟨rfl, hw1⟩
    obtain rfl := hw1.symm
    go_wp2
    go_ret
    exact ⟨rfl, O0.out⟩
set_option maxRecDepth 100000 in
theorem asked_str (w : World) : Calls Tryz.prog 66 #[.string ⟨#[115, 116, 114, 63]⟩] w fun e w' => e = .returned (.int .i64 2) ∧ w' = w := by
  go_enter Tryz.func66, Tryz.ntmps66
  go_wp2
  go_ret
  exact ⟨rfl, rfl⟩
set_option maxRecDepth 100000 in
theorem ho_strQ : HoC ⟨#[115, 116, 114, 63]⟩ [63] (fun l => kd (l.getD 0 zT) == 2) := by
  intro d l G q w S hl hS hlen hsm hsd hf hT
  obtain ⟨x, rfl, hk⟩ := fit1 hlen hf
  obtain ⟨g, k, u, ha, hg, hc, ht⟩ := hl 0 x rfl
  cases ha
  have HK : Hid _ := kind_any ht w
  have HA : Hid _ := asked_str w
  have hsh := ht.shape2
  show Calls Tryz.prog 45 #[_, .slice (some ⟨G, q, none⟩) 1 1] w fun e w' => e = .returned (.bool (kd x == 2)) ∧ _
  have hc0 : w.cell? ⟨G, q, none⟩ = some u := hc
  obtain ⟨y, hy⟩ : ∃ y, y = kd x := ⟨_, rfl⟩
  rw [← hy] at HK ⊢
  have O0 : Hid (Only (fun _ => False) w w) := Only.refl _ _
  clear hl hS hlen hsm hsd hf hT hk hg hc ht hy
  rcases hsh with rfl | ⟨T, z, rfl⟩
  all_goals
    go_enter Tryz.func45, Tryz.ntmps45
    go_wp2_with fail
    refine (show Calls Tryz.prog 27 _ _ _ from HK.out).mono ?_
    rintro e w1 ⟨rfl, hw1⟩
    obtain rfl := hw1.symm
    go_wp2_with fail
    refine (show Calls Tryz.prog 66 _ _ _ from HA.out).mono ?_
    rintro e w1 ⟨rfl, hw1⟩
    obtain rfl := hw1.symm
    go_wp2
    go_ret
    exact ⟨rfl, O0.out⟩
set_option maxRecDepth 100000 in
theorem asked_bool (w : World) : Calls Tryz.prog 66 #[.string ⟨#[98, 111, 111, 108, 63]⟩] w fun e w' => e = .returned (.int .i64 4) ∧ w' = w := by
  go_enter Tryz.func66, Tryz.ntmps66
  go_wp2
  go_ret
  exact ⟨rfl, rfl⟩
set_option maxRecDepth 100000 in
theorem ho_boolQ : HoC ⟨#[98, 111, 111, 108, 63]⟩ [63] (fun l => kd (l.getD 0 zT) == 4) := by
  intro d l G q w S hl hS hlen hsm hsd hf hT
  obtain ⟨x, rfl, hk⟩ := fit1 hlen hf
  obtain ⟨g, k, u, ha, hg, hc, ht⟩ := hl 0 x rfl
  cases ha
  have HK : Hid _ := kind_any ht w
  have HA : Hid _ := asked_bool w
  have hsh := ht.shape2
  show Calls Tryz.prog 45 #[_, .slice (some ⟨G, q, none⟩) 1 1] w fun e w' => e = .returned (.bool (kd x == 4)) ∧ _
  have hc0 : w.cell? ⟨G, q, none⟩ = some u := hc
  obtain ⟨y, hy⟩ : ∃ y, y = kd x := ⟨_, rfl⟩
  rw [← hy] at HK ⊢
  have O0 : Hid (Only (fun _ => False) w w) := Only.refl _ _
  clear hl hS hlen hsm hsd hf hT hk hg hc ht hy
  rcases hsh with rfl | ⟨T, z, rfl⟩
  all_goals
    go_enter Tryz.func45, Tryz.ntmps45
    go_wp2_with fail
    refine (show Calls Tryz.prog 27 _ _ _ from HK.out).mono ?_
    rintro e w1 ⟨rfl, hw1⟩
    obtain rfl := hw1.symm
    go_wp2_with fail
    refine (show Calls Tryz.prog 66 _ _ _ from HA.out).mono ?_
    rintro e w1 ⟨rfl, hw1⟩
    obtain rfl := hw1.symm
    go_wp2
    go_ret
    exact ⟨rfl, O0.out⟩
set_option maxRecDepth 100000 in
theorem asked_list (w : World) : Calls Tryz.prog 66 #[.string ⟨#[108, 105, 115, 116, 63]⟩] w fun e w' => e = .returned (.int .i64 8) ∧ w' = w := by
  go_enter Tryz.func66, Tryz.ntmps66
  go_wp2
  go_ret
  exact ⟨rfl, rfl⟩
set_option maxRecDepth 100000 in
theorem ho_listQ : HoC ⟨#[108, 105, 115, 116, 63]⟩ [63] (fun l => kd (l.getD 0 zT) == 8) := by
  intro d l G q w S hl hS hlen hsm hsd hf hT
  obtain ⟨x, rfl, hk⟩ := fit1 hlen hf
  obtain ⟨g, k, u, ha, hg, hc, ht⟩ := hl 0 x rfl
  cases ha
  have HK : Hid _ := kind_any ht w
  have HA : Hid _ := asked_list w
  have hsh := ht.shape2
  show Calls Tryz.prog 45 #[_, .slice (some ⟨G, q, none⟩) 1 1] w fun e w' => e = .returned (.bool (kd x == 8)) ∧ _
  have hc0 : w.cell? ⟨G, q, none⟩ = some u := hc
  obtain ⟨y, hy⟩ : ∃ y, y = kd x := ⟨_, rfl⟩
  rw [← hy] at HK ⊢
  have O0 : Hid (Only (fun _ => False) w w) := Only.refl _ _
  clear hl hS hlen hsm hsd hf hT hk hg hc ht hy
  rcases hsh with rfl | ⟨T, z, rfl⟩
  all_goals
    go_enter Tryz.func45, Tryz.ntmps45
    go_wp2_with fail
    refine (show Calls Tryz.prog 27 _ _ _ from HK.out).mono ?_
    rintro e w1 ⟨rfl, hw1⟩
    obtain rfl := hw1.symm
    go_wp2_with fail
    refine (show Calls Tryz.prog 66 _ _ _ from HA.out).mono ?_
    rintro e w1 ⟨rfl, hw1⟩
    obtain rfl := hw1.symm
    go_wp2
    go_ret
    exact ⟨rfl, O0.out⟩
set_option maxRecDepth 100000 in
theorem asked_quot (w : World) : Calls Tryz.prog 66 #[.string ⟨#[113, 117, 111, 116, 63]⟩] w fun e w' => e = .returned (.int .i64 16) ∧ w' = w := by
  go_enter Tryz.func66, Tryz.ntmps66
  go_wp2
  go_ret
  exact ⟨rfl, rfl⟩
set_option maxRecDepth 100000 in
theorem ho_quotQ : HoC ⟨#[113, 117, 111, 116, 63]⟩ [63] (fun l => kd (l.getD 0 zT) == 16) := by
  intro d l G q w S hl hS hlen hsm hsd hf hT
  obtain ⟨x, rfl, hk⟩ := fit1 hlen hf
  obtain ⟨g, k, u, ha, hg, hc, ht⟩ := hl 0 x rfl
  cases ha
  have HK : Hid _ := kind_any ht w
  have HA : Hid _ := asked_quot w
  have hsh := ht.shape2
  show Calls Tryz.prog 45 #[_, .slice (some ⟨G, q, none⟩) 1 1] w fun e w' => e = .returned (.bool (kd x == 16)) ∧ _
  have hc0 : w.cell? ⟨G, q, none⟩ = some u := hc
  obtain ⟨y, hy⟩ : ∃ y, y = kd x := ⟨_, rfl⟩
  rw [← hy] at HK ⊢
  have O0 : Hid (Only (fun _ => False) w w) := Only.refl _ _
  clear hl hS hlen hsm hsd hf hT hk hg hc ht hy
  rcases hsh with rfl | ⟨T, z, rfl⟩
  all_goals
    go_enter Tryz.func45, Tryz.ntmps45
    go_wp2_with fail
    refine (show Calls Tryz.prog 27 _ _ _ from HK.out).mono ?_
    rintro e w1 ⟨rfl, hw1⟩
    obtain rfl := hw1.symm
    go_wp2_with fail
    refine (show Calls Tryz.prog 66 _ _ _ from HA.out).mono ?_
    rintro e w1 ⟨rfl, hw1⟩
    obtain rfl := hw1.symm
    go_wp2
    go_ret
    exact ⟨rfl, O0.out⟩
set_option maxRecDepth 100000 in
theorem asked_box (w : World) : Calls Tryz.prog 66 #[.string ⟨#[98, 111, 120, 63]⟩] w fun e w' => e = .returned (.int .i64 32) ∧ w' = w := by
  go_enter Tryz.func66, Tryz.ntmps66
  go_wp2
  go_ret
  exact ⟨rfl, rfl⟩
set_option maxRecDepth 100000 in
theorem ho_boxQ : HoC ⟨#[98, 111, 120, 63]⟩ [63] (fun l => kd (l.getD 0 zT) == 32) := by
  intro d l G q w S hl hS hlen hsm hsd hf hT
  obtain ⟨x, rfl, hk⟩ := fit1 hlen hf
  obtain ⟨g, k, u, ha, hg, hc, ht⟩ := hl 0 x rfl
  cases ha
  have HK : Hid _ := kind_any ht w
  have HA : Hid _ := asked_box w
  have hsh := ht.shape2
  show Calls Tryz.prog 45 #[_, .slice (some ⟨G, q, none⟩) 1 1] w fun e w' => e = .returned (.bool (kd x == 32)) ∧ _
  have hc0 : w.cell? ⟨G, q, none⟩ = some u := hc
  obtain ⟨y, hy⟩ : ∃ y, y = kd x := ⟨_, rfl⟩
  rw [← hy] at HK ⊢
  have O0 : Hid (Only (fun _ => False) w w) := Only.refl _ _
  clear hl hS hlen hsm hsd hf hT hk hg hc ht hy
  rcases hsh with rfl | ⟨T, z, rfl⟩
  all_goals
    go_enter Tryz.func45, Tryz.ntmps45
    go_wp2_with fail
    refine (show Calls Tryz.prog 27 _ _ _ from HK.out).mono ?_
    rintro e w1 ⟨rfl, hw1⟩
    obtain rfl := hw1.symm
    go_wp2_with fail
    refine (show Calls Tryz.prog 66 _ _ _ from HA.out).mono ?_
    rintro e w1 ⟨rfl, hw1⟩
    obtain rfl := hw1.symm
    go_wp2
    go_ret
    exact ⟨rfl, O0.out⟩
end Go.Proofs.YtbhpjakjlfkfiabGreatDoor
