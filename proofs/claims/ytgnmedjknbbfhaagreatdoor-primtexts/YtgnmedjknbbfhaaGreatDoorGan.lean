/- Lists of one and of two, and what is in one of two. Words that leave a flag. value.Text of the number 7. The text of an item that pushes a value without parts; value.word. -/
import Derived.Test.YtgnmedjknbbfhaaGreatDoorGam
import Derived.Test.YtgnmedjknbbfhaaGreatDoorGag
namespace Go.Proofs.YtgnmedjknbbfhaaGreatDoor
open Go.RowKit Go.Lib
set_option linter.unusedSimpArgs false
set_option linter.unusedVariables false
theorem kd_cases (t : Vt) : (t.k = 1 ∧ kd t = 1) ∨ (t.k = 2 ∧ kd t = 2) ∨ (t.k = 3 ∧ kd t = 4) ∨ (t.k = 4 ∧ kd t = 8) ∨ (t.k = 5 ∧ kd t = 16) ∨ (t.k = 6 ∧ kd t = 32) ∨ ((t.k ≠ 1 ∧ t.k ≠ 2 ∧ t.k ≠ 3 ∧ t.k ≠ 4 ∧ t.k ≠ 5 ∧ t.k ≠ 6) ∧ kd t = 0) := by
  unfold kd
  by_cases h1 : t.k = 1
  · exact .inl ⟨h1, by rw [if_pos h1]⟩
  by_cases h2 : t.k = 2
  · exact .inr (.inl ⟨h2, by rw [if_neg h1, if_pos h2]⟩)
  by_cases h3 : t.k = 3
  · exact .inr (.inr (.inl ⟨h3, by rw [if_neg h1, if_neg h2, if_pos h3]⟩))
  by_cases h4 : t.k = 4
  · exact .inr (.inr (.inr (.inl ⟨h4, by rw [if_neg h1, if_neg h2, if_neg h3, if_pos h4]⟩)))
  by_cases h5 : t.k = 5
  · exact .inr (.inr (.inr (.inr (.inl ⟨h5, by rw [if_neg h1, if_neg h2, if_neg h3, if_neg h4, if_pos h5]⟩))))
  by_cases h6 : t.k = 6
  · exact .inr (.inr (.inr (.inr (.inr (.inl ⟨h6, by rw [if_neg h1, if_neg h2, if_neg h3, if_neg h4, if_neg h5, if_pos h6]⟩)))))
  · exact .inr (.inr (.inr (.inr (.inr (.inr ⟨⟨h1, h2, h3, h4, h5, h6⟩, by rw [if_neg h1, if_neg h2, if_neg h3, if_neg h4, if_neg h5, if_neg h6]⟩)))))
theorem fb_1 {t : Vt} (h : fb t 1 = true) : t.k = 1 := by
  unfold fb at h
  rcases kd_cases t with ⟨e, k⟩ | ⟨e, k⟩ | ⟨e, k⟩ | ⟨e, k⟩ | ⟨e, k⟩ | ⟨e, k⟩ | ⟨e, k⟩ <;> rw [k] at h <;> first | exact e | (exfalso; revert h; decide)
theorem fb_2 {t : Vt} (h : fb t 2 = true) : t.k = 2 := by
  unfold fb at h
  rcases kd_cases t with ⟨e, k⟩ | ⟨e, k⟩ | ⟨e, k⟩ | ⟨e, k⟩ | ⟨e, k⟩ | ⟨e, k⟩ | ⟨e, k⟩ <;> rw [k] at h <;> first | exact e | (exfalso; revert h; decide)
theorem fb_4 {t : Vt} (h : fb t 4 = true) : t.k = 3 := by
  unfold fb at h
  rcases kd_cases t with ⟨e, k⟩ | ⟨e, k⟩ | ⟨e, k⟩ | ⟨e, k⟩ | ⟨e, k⟩ | ⟨e, k⟩ | ⟨e, k⟩ <;> rw [k] at h <;> first | exact e | (exfalso; revert h; decide)
theorem fb_8 {t : Vt} (h : fb t 8 = true) : t.k = 4 := by
  unfold fb at h
  rcases kd_cases t with ⟨e, k⟩ | ⟨e, k⟩ | ⟨e, k⟩ | ⟨e, k⟩ | ⟨e, k⟩ | ⟨e, k⟩ | ⟨e, k⟩ <;> rw [k] at h <;> first | exact e | (exfalso; revert h; decide)
theorem fb_16 {t : Vt} (h : fb t 16 = true) : t.k = 5 := by
  unfold fb at h
  rcases kd_cases t with ⟨e, k⟩ | ⟨e, k⟩ | ⟨e, k⟩ | ⟨e, k⟩ | ⟨e, k⟩ | ⟨e, k⟩ | ⟨e, k⟩ <;> rw [k] at h <;> first | exact e | (exfalso; revert h; decide)
theorem fb_63 (t : Vt) : fb t 63 = decide (t.k = 1 ∨ t.k = 2 ∨ t.k = 3 ∨ t.k = 4 ∨ t.k = 5 ∨ t.k = 6) := by
  unfold fb
  rcases kd_cases t with ⟨e, k⟩ | ⟨e, k⟩ | ⟨e, k⟩ | ⟨e, k⟩ | ⟨e, k⟩ | ⟨e, k⟩ | ⟨e, k⟩ <;> rw [k] <;> simp [e] <;> decide
theorem fit1 {l : List Vt} {a : Int} (hl : l.length = [a].length) (h : fitB l [a] = true) : ∃ x, l = [x] ∧ fb x a = true := by
  match l, hl with
  | [x], _ => exact ⟨x, rfl, by simpa [fitB] using h⟩
theorem fit2 {l : List Vt} {a b : Int} (hl : l.length = [a, b].length) (h : fitB l [a, b] = true) : ∃ x y, l = [x, y] ∧ fb x a = true ∧ fb y b = true := by
  match l, hl with
  | [x, y], _ => exact ⟨x, y, rfl, by simpa [fitB] using h⟩
theorem fit3 {l : List Vt} {a b c : Int} (hl : l.length = [a, b, c].length) (h : fitB l [a, b, c] = true) : ∃ x y z, l = [x, y, z] ∧ fb x a = true ∧ fb y b = true ∧ fb z c = true := by
  match l, hl with
  | [x, y, z], _ => exact ⟨x, y, z, rfl, by simpa [fitB] using h⟩
theorem sm_all : ∀ (l : List Vt), (∀ x ∈ l, ∃ e, SmT e x) → ∃ e, ∀ x ∈ l, SmT e x
  | [], _ => ⟨0, fun x hx => by cases hx⟩
  | t :: l, h => by
    obtain ⟨e1, h1⟩ := h t (List.mem_cons_self ..)
    obtain ⟨e2, h2⟩ := sm_all l (fun x hx => h x (List.mem_cons_of_mem _ hx))
    refine ⟨e1 + e2, fun x hx => ?_⟩
    rcases List.mem_cons.1 hx with rfl | hx
    · exact h1.mono (by omega)
    · exact (h2 x hx).mono (by omega)
/-- a list of values -/
def lisT (l : List Vt) : Vt := ⟨4, 0, ⟨#[]⟩, l⟩
theorem lis_sm {l : List Vt} (h : ∀ x ∈ l, ∃ e, SmT e x) (hl : l.length ≤ 1048576) : ∃ e, SmT e (lisT l) := by
  obtain ⟨e, he⟩ := sm_all l h
  exact ⟨e + 1, Nat.zero_le _, hl, ⟨(by decide : (-9223372036854775808 : Int) ≤ 4), (by decide : (4 : Int) ≤ 9223372036854775807)⟩, ⟨(by decide : (-9223372036854775808 : Int) ≤ 0), (by decide : (0 : Int) ≤ 9223372036854775807)⟩, he⟩
/-- the parts of a row as a list -/
theorem ps_list {w : World} {S : Nat → Prop} {d : Nat} {l : List Vt} {ao : Option Addr} {cap : Nat} (h : PsAt w S d false l ao) (hc : l.length ≤ cap) : TiAt w S (d + 1) false (lisT l) (.iface 81 (.agg #[.slice ao l.length cap])) :=
  .inr (.inr (.inr (.inr (.inr ⟨.inl rfl, ao, cap, rfl, hc, h⟩))))
set_option maxRecDepth 100000 in
theorem md_wrap : MdC ⟨#[119, 114, 97, 112]⟩ [63] (fun _ l => .ok (lisT l)) := by
  intro d l G q w S hl hS hlen hsm hsd hf hT
  have HP : Hid (MdP (.ok (lisT l)) (d + 2) w (.returned (.tuple #[.iface 81 (.agg #[.slice (some ⟨G, q, none⟩) l.length l.length]), .int .i64 0])) w) := ⟨_, rfl, ⟨S, (ps_list hl (Nat.le_refl _)).step (fun _ g => g) (fun _ _ _ g => g) (by omega), hS⟩, lis_sm hsm (by simp at hlen; omega), Only.refl _ _⟩
  obtain ⟨L, hL⟩ : ∃ L, L = l.length := ⟨_, rfl⟩
  rw [← hL] at HP
  rw [← hL]
  clear hl hS hlen hsm hsd hf hT hL
  go_enter Tryz.func51, Tryz.ntmps51
  go_wp2
  go_ret2
  exact HP.out
set_option maxRecDepth 100000 in
theorem md_pair : MdC ⟨#[112, 97, 105, 114]⟩ [63, 63] (fun _ l => .ok (lisT l)) := by
  intro d l G q w S hl hS hlen hsm hsd hf hT
  have HP : Hid (MdP (.ok (lisT l)) (d + 2) w (.returned (.tuple #[.iface 81 (.agg #[.slice (some ⟨G, q, none⟩) l.length l.length]), .int .i64 0])) w) := ⟨_, rfl, ⟨S, (ps_list hl (Nat.le_refl _)).step (fun _ g => g) (fun _ _ _ g => g) (by omega), hS⟩, lis_sm hsm (by simp at hlen; omega), Only.refl _ _⟩
  obtain ⟨L, hL⟩ : ∃ L, L = l.length := ⟨_, rfl⟩
  rw [← hL] at HP
  rw [← hL]
  clear hl hS hlen hsm hsd hf hT hL
  go_enter Tryz.func51, Tryz.ntmps51
  go_wp2
  go_ret2
  exact HP.out
theorem pas_hit (T xt : TypeId) (D : TypeDesc) (hD : Tryz.prog.underlying T = some D) (hn : ∀ m, D ≠ .interface m) (x : Value) (W : World) : (Instr.typeAssert (.iface T x) xt T false).run Tryz.prog W = .ok x W := by
  simp only [Instr.typeAssert, Sem.run_bind, run_underlying hD, Result.andThen_ok]
  cases D <;> simp_all
theorem pf_number (W : World) (n : Int) : (Instr.field 55 (.agg #[.int .i64 n]) 0).run Tryz.prog W = .ok (.int .i64 n) W := by kernel_rfl
set_option maxRecDepth 100000 in
theorem g_number (n : Int) (w : World) : Calls Tryz.prog 70 #[.iface 55 (.agg #[.int .i64 n])] w fun e w' => e = .returned (.int .i64 n) ∧ w' = w := by
  have h1 := pas_hit 55 51 _ Tryz.underlying55 (by intro m h; cases h)
  have h2 := fun W => pf_number W n
  go_enter Tryz.func70, Tryz.ntmps70
  go_wp2
  go_ret
  exact ⟨rfl, rfl⟩
theorem pf_text (W : World) (s : ByteArray) : (Instr.field 79 (.agg #[.string s]) 0).run Tryz.prog W = .ok (.string s) W := by kernel_rfl
set_option maxRecDepth 100000 in
theorem g_text (s : ByteArray) (w : World) : Calls Tryz.prog 79 #[.iface 79 (.agg #[.string s])] w fun e w' => e = .returned (.string s) ∧ w' = w := by
  have h1 := pas_hit 79 51 _ Tryz.underlying79 (by intro m h; cases h)
  have h2 := fun W => pf_text W s
  go_enter Tryz.func79, Tryz.ntmps79
  go_wp2
  go_ret
  exact ⟨rfl, rfl⟩
theorem pf_flag (W : World) (b : Bool) : (Instr.field 59 (.agg #[.bool b]) 0).run Tryz.prog W = .ok (.bool b) W := by kernel_rfl
set_option maxRecDepth 100000 in
theorem g_flag (b : Bool) (w : World) : Calls Tryz.prog 99 #[.iface 59 (.agg #[.bool b])] w fun e w' => e = .returned (.bool b) ∧ w' = w := by
  have h1 := pas_hit 59 51 _ Tryz.underlying59 (by intro m h; cases h)
  have h2 := fun W => pf_flag W b
  go_enter Tryz.func99, Tryz.ntmps99
  go_wp2
  go_ret
  exact ⟨rfl, rfl⟩
theorem pf_list (W : World) (ao : Option Addr) (L c : Nat) : (Instr.field 81 (.agg #[.slice ao L c]) 0).run Tryz.prog W = .ok (.slice ao L c) W := by kernel_rfl
set_option maxRecDepth 100000 in
theorem g_list (ao : Option Addr) (L c : Nat) (w : World) : Calls Tryz.prog 50 #[.iface 81 (.agg #[.slice ao L c])] w fun e w' => e = .returned (.slice ao L c) ∧ w' = w := by
  have h1 := pas_hit 81 51 _ Tryz.underlying81 (by intro m h; cases h)
  have h2 := fun W => pf_list W ao L c
  go_enter Tryz.func50, Tryz.ntmps50
  go_wp2
  go_ret
  exact ⟨rfl, rfl⟩
theorem pf_items (W : World) (ao : Option Addr) (L c : Nat) : (Instr.field 85 (.agg #[.slice ao L c]) 0).run Tryz.prog W = .ok (.slice ao L c) W := by kernel_rfl
set_option maxRecDepth 100000 in
theorem g_items (ao : Option Addr) (L c : Nat) (w : World) : Calls Tryz.prog 103 #[.iface 85 (.agg #[.slice ao L c])] w fun e w' => e = .returned (.slice ao L c) ∧ w' = w := by
  have h1 := pas_hit 85 51 _ Tryz.underlying85 (by intro m h; cases h)
  have h2 := fun W => pf_items W ao L c
  go_enter Tryz.func103, Tryz.ntmps103
  go_wp2
  go_ret
  exact ⟨rfl, rfl⟩
/-- what unpair leaves -/
def unR (l : List Vt) : Except Int (List Vt) :=
  match l with
  | [t] => if t.l.length = 2 then .ok t.l else .error 4
  | _ => .error 4
theorem unpair_yes (ao : Option Addr) (c : Nat) (w : World) : Calls Tryz.prog 49 #[.slice ao 2 c] w fun e w' => e = .returned (.tuple #[.slice ao 2 c, .int .i64 0]) ∧ w' = w := by
  go_enter Tryz.func49, Tryz.ntmps49
  go_wp2
  go_ret2
  exact ⟨rfl, rfl⟩
theorem unpair_no (ao : Option Addr) (L c : Nat) (w : World) (h : ((L : Int) == 2) = false) : Calls Tryz.prog 49 #[.slice ao L c] w fun e w' => e = .returned (.tuple #[.slice none 0 0, .int .i64 4]) ∧ w' = w := by
  have h2 : ¬ (L : Int) = 2 := by simpa using h
  go_enter Tryz.func49, Tryz.ntmps49
  go_wp2
  go_ret2
  exact ⟨rfl, rfl⟩
set_option maxRecDepth 100000 in
theorem cy_unpair (hM : MnC ⟨#[117, 110, 112, 97, 105, 114]⟩) : CyC ⟨#[117, 110, 112, 97, 105, 114]⟩ [8] (fun _ => unR) := by
  intro d l G q w S hl hS hlen hsm hsd hf hT
  obtain ⟨t, rfl, hk⟩ := fit1 hlen hf
  have hk4 := fb_8 hk
  obtain ⟨g, k, u, ha, hg, hc, ht⟩ := hl 0 t rfl
  cases ha
  cases d with
  | zero => exact ht.elim
  | succ d =>
    rcases ht with ⟨e, _⟩ | ⟨e, _⟩ | ⟨e, _⟩ | ⟨e, _⟩ | ⟨e, _⟩ | ⟨_, ao, cap, rfl, hcap, hp⟩
    · omega
    · omega
    · omega
    · omega
    · omega
    · rw [if_pos hk4] at hc
      rw [show decide (t.k = 5) = false from by rw [hk4]; rfl] at hp
      have HM : Hid _ := hM
      have HL : Hid _ := g_list ao t.l.length cap w
      have hc0 : w.cell? ⟨G, q, none⟩ = some (.iface 81 (.agg #[.slice ao t.l.length cap])) := hc
      obtain ⟨L, hL⟩ : ∃ L, L = t.l.length := ⟨_, rfl⟩
      rw [← hL] at HL hc0
      have hll : [t].length = 1 := rfl
      rw [hll]
      by_cases h2 : t.l.length = 2
      · have e : unR [t] = .ok t.l := by unfold unR; dsimp only; rw [if_pos h2]
        dsimp only
        rw [e]
        obtain rfl : L = 2 := by omega
        have HP : Hid (CyP (.ok t.l) (d + 1 + 2) w (.returned (.tuple #[.slice ao 2 cap, .int .i64 0])) w) := ⟨ao, cap, by rw [h2], ⟨S, fun j x hx => by
          obtain ⟨g, k, u, p1, p2, p3, p4⟩ := hp j x hx
          exact ⟨g, k, u, p1, p2, p3, p4.step (fun _ g => g) (fun _ _ _ g => g) (by omega)⟩, hS⟩, fun x hx => by
          obtain ⟨e, he⟩ := hsm t (List.mem_cons_self ..)
          cases e with
          | zero => exact he.elim
          | succ e => exact ⟨e, he.2.2.2.2 x hx⟩, by omega, Only.refl _ _⟩
        have HU : Hid _ := unpair_yes ao cap w
        clear hM hl hS hlen hsm hsd hf hT hk hk4 hg hc hp h2 e hL hcap hll
        go_enter Tryz.func31, Tryz.ntmps31
        go_wp2_with fail
        refine (show Calls Tryz.prog 47 _ _ _ from HM.out _).mono ?_
        rintro e w1 ⟨rfl, hw1⟩
        obtain rfl := hw1.symm
        go_wp2_with fail
        refine (show Calls Tryz.prog 50 _ _ _ from HL.out).mono ?_
        rintro e w1 ⟨rfl, hw1⟩
        obtain rfl := hw1.symm
        go_wp2_with fail
        refine (show Calls Tryz.prog 49 _ _ _ from HU.out).mono ?_
        rintro e w1 ⟨rfl, hw1⟩
        obtain rfl := hw1.symm
        go_wp2
        go_ret2
        exact HP.out
      · have e : unR [t] = .error 4 := by unfold unR; dsimp only; rw [if_neg h2]
        dsimp only
        rw [e]
        have HP : Hid (CyP (.error 4) (d + 1 + 2) w (.returned (.tuple #[.slice none 0 0, .int .i64 4])) w) := ⟨_, rfl, rfl, Only.refl _ _⟩
        have HU : Hid _ := unpair_no ao L cap w (by rw [beq_eq_false_iff_ne]; omega)
        clear hM hl hS hlen hsm hsd hf hT hk hk4 hg hc hp h2 e hL hcap hll
        go_enter Tryz.func31, Tryz.ntmps31
        go_wp2_with fail
        refine (show Calls Tryz.prog 47 _ _ _ from HM.out _).mono ?_
        rintro e w1 ⟨rfl, hw1⟩
        obtain rfl := hw1.symm
        go_wp2_with fail
        refine (show Calls Tryz.prog 50 _ _ _ from HL.out).mono ?_
        rintro e w1 ⟨rfl, hw1⟩
        obtain rfl := hw1.symm
        go_wp2_with fail
        refine (show Calls Tryz.prog 49 _ _ _ from HU.out).mono ?_
        rintro e w1 ⟨rfl, hw1⟩
        obtain rfl := hw1.symm
        go_wp2
        go_ret2
        exact HP.out
end Go.Proofs.YtgnmedjknbbfhaaGreatDoor
namespace Go.Proofs.YtgnmedjknbbfhaaGreatDoor
open Go.RowKit Go.Lib
set_option linter.unusedSimpArgs false
set_option linter.unusedVariables false
/-- a flag as a value -/
def boT (b : Bool) : Vt := ⟨3, if b then 1 else 0, ⟨#[]⟩, []⟩
theorem bo_sm (b : Bool) : ∃ e, SmT e (boT b) := by
  refine ⟨1, Nat.zero_le _, Nat.zero_le _, ⟨(by decide : (-9223372036854775808 : Int) ≤ 3), (by decide : (3 : Int) ≤ 9223372036854775807)⟩, ?_, fun x hx => by cases hx⟩
  cases b
  · exact ⟨(by decide : (-9223372036854775808 : Int) ≤ 0), (by decide : (0 : Int) ≤ 9223372036854775807)⟩
  · exact ⟨(by decide : (-9223372036854775808 : Int) ≤ 1), (by decide : (1 : Int) ≤ 9223372036854775807)⟩
theorem bo_ti (w : World) (S : Nat → Prop) (d : Nat) (b : Bool) : TiAt w S (d + 1) false (boT b) (.iface 59 (.agg #[.bool b])) := by
  refine .inr (.inr (.inl ⟨rfl, rfl, ?_⟩))
  cases b <;> rfl
/-- what holds answers of values of its kinds -/
def HoC (name : ByteArray) (ks : List Int) (hb : List Vt → Bool) : Prop := ∀ (d : Nat) (l : List Vt) (G q : Nat) (w : World) (S : Nat → Prop), PsAt w S d false l (some ⟨G, q, none⟩) → (∀ b, S b → b < w.heap.size) → l.length = ks.length → (∀ x ∈ l, ∃ e, SmT e x) → l.all (sdB d) = true → fitB l ks = true → Tx w →
  Calls Tryz.prog 71 #[.string name, .slice (some ⟨G, q, none⟩) l.length l.length] w fun e w' => e = .returned (.bool (hb l)) ∧ Only (fun _ => False) w w'
theorem ti_1 {w : World} {S : Nat → Prop} {d : Nat} {t : Vt} {v : Value} (h : TiAt w S d false t v) (hk : t.k = 1) : v = .iface 55 (.agg #[.int .i64 t.n]) := by
  cases d with
  | zero => exact h.elim
  | succ d => rcases h with ⟨e, _, g⟩ | ⟨e, _, g⟩ | ⟨e, _, g⟩ | ⟨e, _, g⟩ | ⟨e, _, g⟩ | ⟨e, _⟩ <;> first | exact g | omega
theorem ti_2 {w : World} {S : Nat → Prop} {d : Nat} {t : Vt} {v : Value} (h : TiAt w S d false t v) (hk : t.k = 2) : v = .iface 79 (.agg #[.string t.s]) := by
  cases d with
  | zero => exact h.elim
  | succ d => rcases h with ⟨e, _, g⟩ | ⟨e, _, g⟩ | ⟨e, _, g⟩ | ⟨e, _, g⟩ | ⟨e, _, g⟩ | ⟨e, _⟩ <;> first | omega | exact g
theorem ti_3 {w : World} {S : Nat → Prop} {d : Nat} {t : Vt} {v : Value} (h : TiAt w S d false t v) (hk : t.k = 3) : v = .iface 59 (.agg #[.bool (t.n != 0)]) := by
  cases d with
  | zero => exact h.elim
  | succ d => rcases h with ⟨e, _, g⟩ | ⟨e, _, g⟩ | ⟨e, _, g⟩ | ⟨e, _, g⟩ | ⟨e, _, g⟩ | ⟨e, _⟩ <;> first | omega | exact g
set_option maxRecDepth 100000 in
theorem mh_not {ks : List Int} {hb : List Vt → Bool} (hH : HoC ⟨#[110, 111, 116]⟩ ks hb) : MdC ⟨#[110, 111, 116]⟩ ks (fun _ l => .ok (boT (hb l))) := by
  intro d l G q w S hl hS hlen hsm hsd hf hT
  have HH : Hid _ := hH d l G q w S hl hS hlen hsm hsd hf hT
  obtain ⟨b, hb0⟩ : ∃ b, b = hb l := ⟨_, rfl⟩
  have HP : Hid (∀ w', Only (fun _ => False) w w' → MdP (.ok (boT b)) (d + 2) w (.returned (.tuple #[.iface 59 (.agg #[.bool b]), .int .i64 0])) w') := fun w' o => ⟨_, rfl, ⟨fun _ => False, bo_ti w' _ (d + 1) b, fun _ g => g.elim⟩, bo_sm b, o⟩
  obtain ⟨L, hL⟩ : ∃ L, L = l.length := ⟨_, rfl⟩
  dsimp only
  rw [← hb0] at HH ⊢
  rw [← hL] at HH ⊢
  clear hl hS hlen hsm hsd hf hT hL hb0 hH
  go_enter Tryz.func51, Tryz.ntmps51
  go_wp2_with fail
  refine (show Calls Tryz.prog 71 _ _ _ from HH.out).mono ?_
  rintro e w1 ⟨rfl, o1⟩
  have O1 : Hid (Only (fun _ => False) w w1) := o1
  clear HH o1
  go_wp2
  go_ret2
  exact HP.out _ O1.out
set_option maxRecDepth 100000 in
theorem mh_and {ks : List Int} {hb : List Vt → Bool} (hH : HoC ⟨#[97, 110, 100]⟩ ks hb) : MdC ⟨#[97, 110, 100]⟩ ks (fun _ l => .ok (boT (hb l))) := by
  intro d l G q w S hl hS hlen hsm hsd hf hT
  have HH : Hid _ := hH d l G q w S hl hS hlen hsm hsd hf hT
  obtain ⟨b, hb0⟩ : ∃ b, b = hb l := ⟨_, rfl⟩
  have HP : Hid (∀ w', Only (fun _ => False) w w' → MdP (.ok (boT b)) (d + 2) w (.returned (.tuple #[.iface 59 (.agg #[.bool b]), .int .i64 0])) w') := fun w' o => ⟨_, rfl, ⟨fun _ => False, bo_ti w' _ (d + 1) b, fun _ g => g.elim⟩, bo_sm b, o⟩
  obtain ⟨L, hL⟩ : ∃ L, L = l.length := ⟨_, rfl⟩
  dsimp only
  rw [← hb0] at HH ⊢
  rw [← hL] at HH ⊢
  clear hl hS hlen hsm hsd hf hT hL hb0 hH
  go_enter Tryz.func51, Tryz.ntmps51
  go_wp2_with fail
  refine (show Calls Tryz.prog 71 _ _ _ from HH.out).mono ?_
  rintro e w1 ⟨rfl, o1⟩
  have O1 : Hid (Only (fun _ => False) w w1) := o1
  clear HH o1
  go_wp2
  go_ret2
  exact HP.out _ O1.out
set_option maxRecDepth 100000 in
theorem mh_or {ks : List Int} {hb : List Vt → Bool} (hH : HoC ⟨#[111, 114]⟩ ks hb) : MdC ⟨#[111, 114]⟩ ks (fun _ l => .ok (boT (hb l))) := by
  intro d l G q w S hl hS hlen hsm hsd hf hT
  have HH : Hid _ := hH d l G q w S hl hS hlen hsm hsd hf hT
  obtain ⟨b, hb0⟩ : ∃ b, b = hb l := ⟨_, rfl⟩
  have HP : Hid (∀ w', Only (fun _ => False) w w' → MdP (.ok (boT b)) (d + 2) w (.returned (.tuple #[.iface 59 (.agg #[.bool b]), .int .i64 0])) w') := fun w' o => ⟨_, rfl, ⟨fun _ => False, bo_ti w' _ (d + 1) b, fun _ g => g.elim⟩, bo_sm b, o⟩
  obtain ⟨L, hL⟩ : ∃ L, L = l.length := ⟨_, rfl⟩
  dsimp only
  rw [← hb0] at HH ⊢
  rw [← hL] at HH ⊢
  clear hl hS hlen hsm hsd hf hT hL hb0 hH
  go_enter Tryz.func51, Tryz.ntmps51
  go_wp2_with fail
  refine (show Calls Tryz.prog 71 _ _ _ from HH.out).mono ?_
  rintro e w1 ⟨rfl, o1⟩
  have O1 : Hid (Only (fun _ => False) w w1) := o1
  clear HH o1
  go_wp2
  go_ret2
  exact HP.out _ O1.out
set_option maxRecDepth 100000 in
theorem mh_lt {ks : List Int} {hb : List Vt → Bool} (hH : HoC ⟨#[60]⟩ ks hb) : MdC ⟨#[60]⟩ ks (fun _ l => .ok (boT (hb l))) := by
  intro d l G q w S hl hS hlen hsm hsd hf hT
  have HH : Hid _ := hH d l G q w S hl hS hlen hsm hsd hf hT
  obtain ⟨b, hb0⟩ : ∃ b, b = hb l := ⟨_, rfl⟩
  have HP : Hid (∀ w', Only (fun _ => False) w w' → MdP (.ok (boT b)) (d + 2) w (.returned (.tuple #[.iface 59 (.agg #[.bool b]), .int .i64 0])) w') := fun w' o => ⟨_, rfl, ⟨fun _ => False, bo_ti w' _ (d + 1) b, fun _ g => g.elim⟩, bo_sm b, o⟩
  obtain ⟨L, hL⟩ : ∃ L, L = l.length := ⟨_, rfl⟩
  dsimp only
  rw [← hb0] at HH ⊢
  rw [← hL] at HH ⊢
  clear hl hS hlen hsm hsd hf hT hL hb0 hH
  go_enter Tryz.func51, Tryz.ntmps51
  go_wp2_with fail
  refine (show Calls Tryz.prog 71 _ _ _ from HH.out).mono ?_
  rintro e w1 ⟨rfl, o1⟩
  have O1 : Hid (Only (fun _ => False) w w1) := o1
  clear HH o1
  go_wp2
  go_ret2
  exact HP.out _ O1.out
set_option maxRecDepth 100000 in
theorem mh_gt {ks : List Int} {hb : List Vt → Bool} (hH : HoC ⟨#[62]⟩ ks hb) : MdC ⟨#[62]⟩ ks (fun _ l => .ok (boT (hb l))) := by
  intro d l G q w S hl hS hlen hsm hsd hf hT
  have HH : Hid _ := hH d l G q w S hl hS hlen hsm hsd hf hT
  obtain ⟨b, hb0⟩ : ∃ b, b = hb l := ⟨_, rfl⟩
  have HP : Hid (∀ w', Only (fun _ => False) w w' → MdP (.ok (boT b)) (d + 2) w (.returned (.tuple #[.iface 59 (.agg #[.bool b]), .int .i64 0])) w') := fun w' o => ⟨_, rfl, ⟨fun _ => False, bo_ti w' _ (d + 1) b, fun _ g => g.elim⟩, bo_sm b, o⟩
  obtain ⟨L, hL⟩ : ∃ L, L = l.length := ⟨_, rfl⟩
  dsimp only
  rw [← hb0] at HH ⊢
  rw [← hL] at HH ⊢
  clear hl hS hlen hsm hsd hf hT hL hb0 hH
  go_enter Tryz.func51, Tryz.ntmps51
  go_wp2_with fail
  refine (show Calls Tryz.prog 71 _ _ _ from HH.out).mono ?_
  rintro e w1 ⟨rfl, o1⟩
  have O1 : Hid (Only (fun _ => False) w w1) := o1
  clear HH o1
  go_wp2
  go_ret2
  exact HP.out _ O1.out
set_option maxRecDepth 100000 in
theorem mh_eq {ks : List Int} {hb : List Vt → Bool} (hH : HoC ⟨#[61]⟩ ks hb) : MdC ⟨#[61]⟩ ks (fun _ l => .ok (boT (hb l))) := by
  intro d l G q w S hl hS hlen hsm hsd hf hT
  have HH : Hid _ := hH d l G q w S hl hS hlen hsm hsd hf hT
  obtain ⟨b, hb0⟩ : ∃ b, b = hb l := ⟨_, rfl⟩
  have HP : Hid (∀ w', Only (fun _ => False) w w' → MdP (.ok (boT b)) (d + 2) w (.returned (.tuple #[.iface 59 (.agg #[.bool b]), .int .i64 0])) w') := fun w' o => ⟨_, rfl, ⟨fun _ => False, bo_ti w' _ (d + 1) b, fun _ g => g.elim⟩, bo_sm b, o⟩
  obtain ⟨L, hL⟩ : ∃ L, L = l.length := ⟨_, rfl⟩
  dsimp only
  rw [← hb0] at HH ⊢
  rw [← hL] at HH ⊢
  clear hl hS hlen hsm hsd hf hT hL hb0 hH
  go_enter Tryz.func51, Tryz.ntmps51
  go_wp2_with fail
  refine (show Calls Tryz.prog 71 _ _ _ from HH.out).mono ?_
  rintro e w1 ⟨rfl, o1⟩
  have O1 : Hid (Only (fun _ => False) w w1) := o1
  clear HH o1
  go_wp2
  go_ret2
  exact HP.out _ O1.out
set_option maxRecDepth 100000 in
theorem mh_intQ {ks : List Int} {hb : List Vt → Bool} (hH : HoC ⟨#[105, 110, 116, 63]⟩ ks hb) : MdC ⟨#[105, 110, 116, 63]⟩ ks (fun _ l => .ok (boT (hb l))) := by
  intro d l G q w S hl hS hlen hsm hsd hf hT
  have HH : Hid _ := hH d l G q w S hl hS hlen hsm hsd hf hT
  obtain ⟨b, hb0⟩ : ∃ b, b = hb l := ⟨_, rfl⟩
  have HP : Hid (∀ w', Only (fun _ => False) w w' → MdP (.ok (boT b)) (d + 2) w (.returned (.tuple #[.iface 59 (.agg #[.bool b]), .int .i64 0])) w') := fun w' o => ⟨_, rfl, ⟨fun _ => False, bo_ti w' _ (d + 1) b, fun _ g => g.elim⟩, bo_sm b, o⟩
  obtain ⟨L, hL⟩ : ∃ L, L = l.length := ⟨_, rfl⟩
  dsimp only
  rw [← hb0] at HH ⊢
  rw [← hL] at HH ⊢
  clear hl hS hlen hsm hsd hf hT hL hb0 hH
  go_enter Tryz.func51, Tryz.ntmps51
  go_wp2_with fail
  refine (show Calls Tryz.prog 71 _ _ _ from HH.out).mono ?_
  rintro e w1 ⟨rfl, o1⟩
  have O1 : Hid (Only (fun _ => False) w w1) := o1
  clear HH o1
  go_wp2
  go_ret2
  exact HP.out _ O1.out
set_option maxRecDepth 100000 in
theorem mh_strQ {ks : List Int} {hb : List Vt → Bool} (hH : HoC ⟨#[115, 116, 114, 63]⟩ ks hb) : MdC ⟨#[115, 116, 114, 63]⟩ ks (fun _ l => .ok (boT (hb l))) := by
  intro d l G q w S hl hS hlen hsm hsd hf hT
  have HH : Hid _ := hH d l G q w S hl hS hlen hsm hsd hf hT
  obtain ⟨b, hb0⟩ : ∃ b, b = hb l := ⟨_, rfl⟩
  have HP : Hid (∀ w', Only (fun _ => False) w w' → MdP (.ok (boT b)) (d + 2) w (.returned (.tuple #[.iface 59 (.agg #[.bool b]), .int .i64 0])) w') := fun w' o => ⟨_, rfl, ⟨fun _ => False, bo_ti w' _ (d + 1) b, fun _ g => g.elim⟩, bo_sm b, o⟩
  obtain ⟨L, hL⟩ : ∃ L, L = l.length := ⟨_, rfl⟩
  dsimp only
  rw [← hb0] at HH ⊢
  rw [← hL] at HH ⊢
  clear hl hS hlen hsm hsd hf hT hL hb0 hH
  go_enter Tryz.func51, Tryz.ntmps51
  go_wp2_with fail
  refine (show Calls Tryz.prog 71 _ _ _ from HH.out).mono ?_
  rintro e w1 ⟨rfl, o1⟩
  have O1 : Hid (Only (fun _ => False) w w1) := o1
  clear HH o1
  go_wp2
  go_ret2
  exact HP.out _ O1.out
set_option maxRecDepth 100000 in
theorem mh_boolQ {ks : List Int} {hb : List Vt → Bool} (hH : HoC ⟨#[98, 111, 111, 108, 63]⟩ ks hb) : MdC ⟨#[98, 111, 111, 108, 63]⟩ ks (fun _ l => .ok (boT (hb l))) := by
  intro d l G q w S hl hS hlen hsm hsd hf hT
  have HH : Hid _ := hH d l G q w S hl hS hlen hsm hsd hf hT
  obtain ⟨b, hb0⟩ : ∃ b, b = hb l := ⟨_, rfl⟩
  have HP : Hid (∀ w', Only (fun _ => False) w w' → MdP (.ok (boT b)) (d + 2) w (.returned (.tuple #[.iface 59 (.agg #[.bool b]), .int .i64 0])) w') := fun w' o => ⟨_, rfl, ⟨fun _ => False, bo_ti w' _ (d + 1) b, fun _ g => g.elim⟩, bo_sm b, o⟩
  obtain ⟨L, hL⟩ : ∃ L, L = l.length := ⟨_, rfl⟩
  dsimp only
  rw [← hb0] at HH ⊢
  rw [← hL] at HH ⊢
  clear hl hS hlen hsm hsd hf hT hL hb0 hH
  go_enter Tryz.func51, Tryz.ntmps51
  go_wp2_with fail
  refine (show Calls Tryz.prog 71 _ _ _ from HH.out).mono ?_
  rintro e w1 ⟨rfl, o1⟩
  have O1 : Hid (Only (fun _ => False) w w1) := o1
  clear HH o1
  go_wp2
  go_ret2
  exact HP.out _ O1.out
set_option maxRecDepth 100000 in
theorem mh_listQ {ks : List Int} {hb : List Vt → Bool} (hH : HoC ⟨#[108, 105, 115, 116, 63]⟩ ks hb) : MdC ⟨#[108, 105, 115, 116, 63]⟩ ks (fun _ l => .ok (boT (hb l))) := by
  intro d l G q w S hl hS hlen hsm hsd hf hT
  have HH : Hid _ := hH d l G q w S hl hS hlen hsm hsd hf hT
  obtain ⟨b, hb0⟩ : ∃ b, b = hb l := ⟨_, rfl⟩
  have HP : Hid (∀ w', Only (fun _ => False) w w' → MdP (.ok (boT b)) (d + 2) w (.returned (.tuple #[.iface 59 (.agg #[.bool b]), .int .i64 0])) w') := fun w' o => ⟨_, rfl, ⟨fun _ => False, bo_ti w' _ (d + 1) b, fun _ g => g.elim⟩, bo_sm b, o⟩
  obtain ⟨L, hL⟩ : ∃ L, L = l.length := ⟨_, rfl⟩
  dsimp only
  rw [← hb0] at HH ⊢
  rw [← hL] at HH ⊢
  clear hl hS hlen hsm hsd hf hT hL hb0 hH
  go_enter Tryz.func51, Tryz.ntmps51
  go_wp2_with fail
  refine (show Calls Tryz.prog 71 _ _ _ from HH.out).mono ?_
  rintro e w1 ⟨rfl, o1⟩
  have O1 : Hid (Only (fun _ => False) w w1) := o1
  clear HH o1
  go_wp2
  go_ret2
  exact HP.out _ O1.out
set_option maxRecDepth 100000 in
theorem mh_quotQ {ks : List Int} {hb : List Vt → Bool} (hH : HoC ⟨#[113, 117, 111, 116, 63]⟩ ks hb) : MdC ⟨#[113, 117, 111, 116, 63]⟩ ks (fun _ l => .ok (boT (hb l))) := by
  intro d l G q w S hl hS hlen hsm hsd hf hT
  have HH : Hid _ := hH d l G q w S hl hS hlen hsm hsd hf hT
  obtain ⟨b, hb0⟩ : ∃ b, b = hb l := ⟨_, rfl⟩
  have HP : Hid (∀ w', Only (fun _ => False) w w' → MdP (.ok (boT b)) (d + 2) w (.returned (.tuple #[.iface 59 (.agg #[.bool b]), .int .i64 0])) w') := fun w' o => ⟨_, rfl, ⟨fun _ => False, bo_ti w' _ (d + 1) b, fun _ g => g.elim⟩, bo_sm b, o⟩
  obtain ⟨L, hL⟩ : ∃ L, L = l.length := ⟨_, rfl⟩
  dsimp only
  rw [← hb0] at HH ⊢
  rw [← hL] at HH ⊢
  clear hl hS hlen hsm hsd hf hT hL hb0 hH
  go_enter Tryz.func51, Tryz.ntmps51
  go_wp2_with fail
  refine (show Calls Tryz.prog 71 _ _ _ from HH.out).mono ?_
  rintro e w1 ⟨rfl, o1⟩
  have O1 : Hid (Only (fun _ => False) w w1) := o1
  clear HH o1
  go_wp2
  go_ret2
  exact HP.out _ O1.out
set_option maxRecDepth 100000 in
theorem mh_boxQ {ks : List Int} {hb : List Vt → Bool} (hH : HoC ⟨#[98, 111, 120, 63]⟩ ks hb) : MdC ⟨#[98, 111, 120, 63]⟩ ks (fun _ l => .ok (boT (hb l))) := by
  intro d l G q w S hl hS hlen hsm hsd hf hT
  have HH : Hid _ := hH d l G q w S hl hS hlen hsm hsd hf hT
  obtain ⟨b, hb0⟩ : ∃ b, b = hb l := ⟨_, rfl⟩
  have HP : Hid (∀ w', Only (fun _ => False) w w' → MdP (.ok (boT b)) (d + 2) w (.returned (.tuple #[.iface 59 (.agg #[.bool b]), .int .i64 0])) w') := fun w' o => ⟨_, rfl, ⟨fun _ => False, bo_ti w' _ (d + 1) b, fun _ g => g.elim⟩, bo_sm b, o⟩
  obtain ⟨L, hL⟩ : ∃ L, L = l.length := ⟨_, rfl⟩
  dsimp only
  rw [← hb0] at HH ⊢
  rw [← hL] at HH ⊢
  clear hl hS hlen hsm hsd hf hT hL hb0 hH
  go_enter Tryz.func51, Tryz.ntmps51
  go_wp2_with fail
  refine (show Calls Tryz.prog 71 _ _ _ from HH.out).mono ?_
  rintro e w1 ⟨rfl, o1⟩
  have O1 : Hid (Only (fun _ => False) w w1) := o1
  clear HH o1
  go_wp2
  go_ret2
  exact HP.out _ O1.out
/-- the flag of a value -/
def flB (t : Vt) : Bool := t.n != 0
set_option maxRecDepth 100000 in
theorem ho_not : HoC ⟨#[110, 111, 116]⟩ [4] (fun l => !flB (l.getD 0 zT)) := by
  intro d l G q w S hl hS hlen hsm hsd hf hT
  obtain ⟨x, rfl, hk⟩ := fit1 hlen hf
  obtain ⟨g, k, u, ha, hg, hc, ht⟩ := hl 0 x rfl
  cases ha
  have hu := ti_3 ht (fb_4 hk)
  subst hu
  show Calls Tryz.prog 71 #[_, .slice (some ⟨G, q, none⟩) 1 1] w fun e w' => e = .returned (.bool (!flB x)) ∧ _
  have hc0 : w.cell? ⟨G, q, none⟩ = some (.iface 59 (.agg #[.bool (flB x)])) := hc
  obtain ⟨b, hb⟩ : ∃ b, b = flB x := ⟨_, rfl⟩
  rw [← hb] at hc0 ⊢
  have HF : Hid _ := g_flag b w
  have O0 : Hid (Only (fun _ => False) w w) := Only.refl _ _
  clear hl hS hlen hsm hsd hf hT hk hg hc ht hb
  go_enter Tryz.func71, Tryz.ntmps71
  go_wp2_with fail
  refine (show Calls Tryz.prog 99 _ _ _ from HF.out).mono ?_
  rintro e w1 ⟨rfl, hw1⟩
  obtain rfl := hw1.symm
  go_wp2
  go_ret
  exact ⟨rfl, O0.out⟩
set_option maxRecDepth 100000 in
theorem ho_and : HoC ⟨#[97, 110, 100]⟩ [4, 4] (fun l => flB (l.getD 0 zT) && flB (l.getD 1 zT)) := by
  intro d l G q w S hl hS hlen hsm hsd hf hT
  obtain ⟨x, y, rfl, hk, hk2⟩ := fit2 hlen hf
  obtain ⟨g, k, u, ha, hg, hc, ht⟩ := hl 0 x rfl
  cases ha
  obtain ⟨g2, k2, u2, ha2, hg2, hc2, ht2⟩ := hl 1 y rfl
  cases ha2
  have hu := ti_3 ht (fb_4 hk)
  subst hu
  have hu2 := ti_3 ht2 (fb_4 hk2)
  subst hu2
  show Calls Tryz.prog 71 #[_, .slice (some ⟨G, q, none⟩) 2 2] w fun e w' => e = .returned (.bool (flB x && flB y)) ∧ _
  have hc0 : w.cell? ⟨G, q, none⟩ = some (.iface 59 (.agg #[.bool (flB x)])) := hc
  have hc1 : w.cell? ⟨G, q + 1, none⟩ = some (.iface 59 (.agg #[.bool (flB y)])) := hc2
  obtain ⟨b, hb⟩ : ∃ b, b = flB x := ⟨_, rfl⟩
  obtain ⟨c, hcc⟩ : ∃ c, c = flB y := ⟨_, rfl⟩
  rw [← hb] at hc0 ⊢
  rw [← hcc] at hc1 ⊢
  have HF : Hid _ := g_flag b w
  have HF2 : Hid _ := g_flag c w
  have O0 : Hid (Only (fun _ => False) w w) := Only.refl _ _
  clear hl hS hlen hsm hsd hf hT hk hg hc ht hb hk2 hg2 hc2 ht2 hcc
  cases b with
  | false =>
    go_enter Tryz.func71, Tryz.ntmps71
    go_wp2_with fail
    refine (show Calls Tryz.prog 99 _ _ _ from HF.out).mono ?_
    rintro e w1 ⟨rfl, hw1⟩
    obtain rfl := hw1.symm
    go_wp2
    go_ret
    exact ⟨rfl, O0.out⟩
  | true =>
    go_enter Tryz.func71, Tryz.ntmps71
    go_wp2_with fail
    refine (show Calls Tryz.prog 99 _ _ _ from HF.out).mono ?_
    rintro e w1 ⟨rfl, hw1⟩
    obtain rfl := hw1.symm
    go_wp2_with fail
    refine (show Calls Tryz.prog 99 _ _ _ from HF2.out).mono ?_
    rintro e w1 ⟨rfl, hw1⟩
    obtain rfl := hw1.symm
    go_wp2
    go_ret
    exact ⟨rfl, O0.out⟩
set_option maxRecDepth 100000 in
theorem ho_or : HoC ⟨#[111, 114]⟩ [4, 4] (fun l => flB (l.getD 0 zT) || flB (l.getD 1 zT)) := by
  intro d l G q w S hl hS hlen hsm hsd hf hT
  obtain ⟨x, y, rfl, hk, hk2⟩ := fit2 hlen hf
  obtain ⟨g, k, u, ha, hg, hc, ht⟩ := hl 0 x rfl
  cases ha
  obtain ⟨g2, k2, u2, ha2, hg2, hc2, ht2⟩ := hl 1 y rfl
  cases ha2
  have hu := ti_3 ht (fb_4 hk)
  subst hu
  have hu2 := ti_3 ht2 (fb_4 hk2)
  subst hu2
  show Calls Tryz.prog 71 #[_, .slice (some ⟨G, q, none⟩) 2 2] w fun e w' => e = .returned (.bool (flB x || flB y)) ∧ _
  have hc0 : w.cell? ⟨G, q, none⟩ = some (.iface 59 (.agg #[.bool (flB x)])) := hc
  have hc1 : w.cell? ⟨G, q + 1, none⟩ = some (.iface 59 (.agg #[.bool (flB y)])) := hc2
  obtain ⟨b, hb⟩ : ∃ b, b = flB x := ⟨_, rfl⟩
  obtain ⟨c, hcc⟩ : ∃ c, c = flB y := ⟨_, rfl⟩
  rw [← hb] at hc0 ⊢
  rw [← hcc] at hc1 ⊢
  have HF : Hid _ := g_flag b w
  have HF2 : Hid _ := g_flag c w
  have O0 : Hid (Only (fun _ => False) w w) := Only.refl _ _
  clear hl hS hlen hsm hsd hf hT hk hg hc ht hb hk2 hg2 hc2 ht2 hcc
  cases b with
  | true =>
    go_enter Tryz.func71, Tryz.ntmps71
    go_wp2_with fail
    refine (show Calls Tryz.prog 99 _ _ _ from HF.out).mono ?_
    rintro e w1 ⟨rfl, hw1⟩
    obtain rfl := hw1.symm
    go_wp2
    go_ret
    exact ⟨rfl, O0.out⟩
  | false =>
    go_enter Tryz.func71, Tryz.ntmps71
    go_wp2_with fail
    refine (show Calls Tryz.prog 99 _ _ _ from HF.out).mono ?_
    rintro e w1 ⟨rfl, hw1⟩
    obtain rfl := hw1.symm
    go_wp2_with fail
    refine (show Calls Tryz.prog 99 _ _ _ from HF2.out).mono ?_
    rintro e w1 ⟨rfl, hw1⟩
    obtain rfl := hw1.symm
    go_wp2
    go_ret
    exact ⟨rfl, O0.out⟩
end Go.Proofs.YtgnmedjknbbfhaaGreatDoor
namespace Go.Proofs.YtgnmedjknbbfhaaGreatDoor
open Go.RowKit Go.Lib
set_option linter.unusedSimpArgs false
set_option linter.unusedVariables false
set_option maxRecDepth 100000 in
theorem measured7 (w : World) : Calls Tryz.prog 93 #[i7] w fun e w' => e = .returned (.tuple #[.agg #[.int .i64 1, .int .i64 0], .int .i64 0]) ∧ Only (fun _ => False) w w' := by
  have HV : Hid (Calls Tryz.prog 120 #[.pointer (some ⟨w.heap.size + 1, 0, none⟩), i7, .int .i64 0] ((w.alloc (.cells #[.int .i64 0, .int .i64 0] 149)).alloc (.cells #[.int .i64 0, .int .i64 0] 149)) fun e w' => e = .returned (.bool true) ∧ Only (fun b => b = w.heap.size + 1) ((w.alloc (.cells #[.int .i64 0, .int .i64 0] 149)).alloc (.cells #[.int .i64 0, .int .i64 0] 149)) w' ∧ VmB w' (w.heap.size + 1) (0 + 1) 0) := vval_int 7 (by omega) (by omega) (w.heap.size + 1) 0 0 0 _ (va_at (w.alloc (.cells #[.int .i64 0, .int .i64 0] 149)) _ _ (Array.size_push ..).symm) (by omega) (by omega)
  have ca : ((w.alloc (.cells #[.int .i64 0, .int .i64 0] 149)).alloc (.cells #[.int .i64 0, .int .i64 0] 149)).heap[w.heap.size]? = some (.cells #[.int .i64 0, .int .i64 0] 149) := (((Only.refl (fun _ => False) (w.alloc (.cells #[.int .i64 0, .int .i64 0] 149))).alloc _).block w.heap.size (by rw [show (w.alloc (.cells #[.int .i64 0, .int .i64 0] 149)).heap.size = w.heap.size + 1 from Array.size_push ..]; omega) (fun h => h)).trans (va_at w _ _ rfl)
  have CA : Hid (((w.alloc (.cells #[.int .i64 0, .int .i64 0] 149)).alloc (.cells #[.int .i64 0, .int .i64 0] 149)).heap[w.heap.size]? = some (.cells #[.int .i64 0, .int .i64 0] 149)) := ca
  have CZ : Hid (((w.alloc (.cells #[.int .i64 0, .int .i64 0] 149)).alloc (.cells #[.int .i64 0, .int .i64 0] 149)).heap.size = w.heap.size + 2) := (Array.size_push ..).trans (congrArg (· + 1) (Array.size_push ..))
  clear ca
  go_enter Tryz.func93, Tryz.ntmps93
  go_wp2_with fail
  refine (show Calls Tryz.prog 120 _ _ _ from HV.out).mono ?_
  rintro e w1 ⟨rfl, o1, m1⟩
  have O1 : Hid (Only (fun _ => False) w w1) := (((Only.refl (fun _ => False) w).alloc _).alloc _).trans o1 (fun k hk e => by omega)
  have h0 := (o1.block w.heap.size (by rw [CZ.out]; omega) (by omega)).trans CA.out
  have c0 := wr_cell h0 0
  have c1 := wr_cell h0 1
  have f0 := wr_froz h0 0
  have f1 := wr_froz h0 1
  have d0 := wr_cell m1 0
  have d1 := wr_cell m1 1
  simp only [List.getElem?_toArray, List.getElem?_cons_succ, List.getElem?_cons_zero, Int.zero_add] at c0 c1 d0 d1
  have q := set2 c0 c1 (.int .i64 1) (.int .i64 0)
  have Q : Hid (((w1.setCell ⟨w.heap.size, 0, none⟩ (.int .i64 1)).setCell ⟨w.heap.size, 1, none⟩ (.int .i64 0)).cell? ⟨w.heap.size, 0, none⟩ = some (.int .i64 1) ∧ ((w1.setCell ⟨w.heap.size, 0, none⟩ (.int .i64 1)).setCell ⟨w.heap.size, 1, none⟩ (.int .i64 0)).cell? ⟨w.heap.size, 1, none⟩ = some (.int .i64 0)) := q
  clear h0 CA CZ HV o1 m1 q
  go_wp2
  refine bodyPost_ret (results_two rfl _ _ w.heap.size Q.out.1 Q.out.2 rfl) rfl ?_
  exact ⟨rfl, (O1.out.setCell _ _ (fun g => by simp only at g; omega)).setCell _ _ (fun g => by simp only at g; omega)⟩
set_option maxRecDepth 100000 in
theorem check7 (w : World) : Calls Tryz.prog 67 #[i7] w fun e w' => e = .returned (.int .i64 0) ∧ Only (fun _ => False) w w' := by
  have HV : Hid (Calls Tryz.prog 93 #[i7] w fun e w' => e = .returned (.tuple #[.agg #[.int .i64 1, .int .i64 0], .int .i64 0]) ∧ Only (fun _ => False) w w') := measured7 w
  go_enter Tryz.func67, Tryz.ntmps67
  go_wp2_with fail
  refine (show Calls Tryz.prog 93 _ _ _ from HV.out).mono ?_
  rintro e w1 ⟨rfl, o1⟩
  have O1 : Hid (Only (fun _ => False) w w1) := o1
  clear HV o1
  go_wp2
  go_ret
  exact ⟨rfl, O1.out.alloc _⟩
set_option maxRecDepth 100000 in
theorem word7 (w : World) : Calls Tryz.prog 135 #[p7] w fun e w' => e = .returned (.string ⟨#[55]⟩) ∧ Only (fun _ => False) w w' := by
  have HV : Hid (∀ w1 g, w1.cell? ⟨g, 0, none⟩ = some p7 → Calls Tryz.prog 156 #[.slice (some ⟨g, 0, none⟩) 1 1] w1 fun e w' => e = .returned (.tuple #[.string ⟨#[55]⟩, .int .i64 0]) ∧ Only (fun _ => False) w1 w') := fun w1 g => text7 g w1
  go_enter Tryz.func135, Tryz.ntmps135
  go_wp2_with fail
  have hc : (w.alloc (.cells #[p7] 112)).cell? ⟨w.heap.size, 0, none⟩ = some p7 := (wr_cell (va_at w (.cells #[p7] 112) _ rfl) 0).trans rfl
  refine (show Calls Tryz.prog 156 _ _ _ from HV.out _ _ hc).mono ?_
  rintro e w1 ⟨rfl, o1⟩
  have O1 : Hid (Only (fun _ => False) w w1) := ((Only.refl (fun _ => False) w).alloc _).trans o1 (fun _ _ g => g)
  clear HV o1 hc
  go_wp2
  go_ret
  exact ⟨rfl, O1.out⟩
set_option maxRecDepth 100000 in
theorem join1 (w : World) (g : Nat) (c : Int) (hc : 1 ≤ c) (s : ByteArray) (hg : w.cell? ⟨g, 0, none⟩ = some (.string s)) : Calls Tryz.prog 108 #[.slice (some ⟨g, 0, none⟩) 1 c.toNat, .string ⟨#[32]⟩] w fun e w' => e = .returned (.string s) ∧ w' = w := by
  go_enter Tryz.func108, Tryz.ntmps108
  go_wp2
  go_ret
  exact ⟨rfl, rfl⟩
end Go.Proofs.YtgnmedjknbbfhaaGreatDoor
namespace Go.Proofs.YtgnmedjknbbfhaaGreatDoor
open Go.RowKit Go.Lib
set_option linter.unusedSimpArgs false
set_option linter.unusedVariables false
/-- an item that pushes v -/
def pV (T : TypeId) (y : Value) : Value := .iface 125 (.agg #[.iface T y])
set_option maxRecDepth 100000 in
theorem pitemV {T : TypeId} {y : Value} (hv : PsV (.iface T y)) (M : Nat) (w : World) (hT : Tb w) (hg : Mg M) (h : MlB w M 1024) : Calls Tryz.prog 170 #[.pointer (some ⟨M, 0, none⟩), pV T y, .int .i64 32] w fun e w' => e = .returned (.bool true) ∧ Only (fun b => b = M) w w' := by
  have HV : Hid (∀ w1, Only (fun _ => False) w w1 → Calls Tryz.prog 174 #[.pointer (some ⟨M, 0, none⟩), .iface T y, .int .i64 32] w1 fun e w' => e = .returned (.bool true) ∧ Only (fun b => b = M) w1 w') := fun w1 o => hv M w1 (hT.frame o) (mlB_keep h o) hg
  have hP := va_hit 125 112 _ Tryz.underlying125 (by intro m h; cases h)
  have O0 : Hid (Only (fun _ => False) w w) := Only.refl _ _
  clear h hv hT hg
  unfold pV
  go_enter Tryz.func170, Tryz.ntmps170
  go_wp2_with fail
  refine (show Calls Tryz.prog 174 _ _ _ from HV.out _ (O0.out.alloc _)).mono ?_
  rintro e w1 ⟨rfl, o1⟩
  have O1 : Hid (Only (fun b => b = M) w w1) := ((Only.refl (fun b => b = M) w).alloc _).trans o1 (fun _ _ g => g)
  clear HV o1
  go_wp2
  go_ret
  exact ⟨rfl, O1.out⟩
set_option maxRecDepth 100000 in
theorem psoundV {T : TypeId} {y : Value} (hv : PsV (.iface T y)) (w : World) (hT : Tb w) : Calls Tryz.prog 167 #[pV T y] w fun e w' => e = .returned (.bool true) ∧ Only (fun _ => False) w w' := by
  have HI : Hid (Calls Tryz.prog 170 #[.pointer (some ⟨w.heap.size, 0, none⟩), pV T y, .int .i64 32] (w.alloc (.cells #[.int .i64 1024] 259)) fun e w' => e = .returned (.bool true) ∧ Only (fun b => b = w.heap.size) (w.alloc (.cells #[.int .i64 1024] 259)) w') := pitemV hv _ _ (hT.frame ((Only.refl _ w).alloc _)) (by have := hT.lt; exact ⟨by omega, by omega, by omega⟩) (va_at _ _ _ rfl)
  clear hv hT
  unfold pV at HI ⊢
  go_enter Tryz.func167, Tryz.ntmps167
  go_wp2_with fail
  refine (show Calls Tryz.prog 170 _ _ _ from HI.out).mono ?_
  rintro e w1 ⟨rfl, o1⟩
  have O1 : Hid (Only (fun _ => False) w w1) := ((Only.refl (fun _ => False) w).alloc _).trans o1 (fun k hk e => by omega)
  clear HI o1
  go_wp2
  go_ret
  exact ⟨rfl, O1.out⟩
set_option maxRecDepth 100000 in
theorem psoundsV {T : TypeId} {y : Value} (hv : PsV (.iface T y)) (w : World) (hT : Tb w) (g : Nat) (hg : w.cell? ⟨g, 0, none⟩ = some (pV T y)) : Calls Tryz.prog 162 #[.slice (some ⟨g, 0, none⟩) 1 1] w fun e w' => e = .returned (.bool true) ∧ Only (fun _ => False) w w' := by
  have HI : Hid (∀ w1, Only (fun _ => False) w w1 → Calls Tryz.prog 167 #[pV T y] w1 fun e w' => e = .returned (.bool true) ∧ Only (fun _ => False) w1 w') := fun w1 o => psoundV hv w1 (hT.frame o)
  clear hv hT
  unfold pV at HI hg
  go_enter Tryz.func162, Tryz.ntmps162
  go_wp2
  go_loopw [7] (fun r wr => ∃ i : Int, r = .int .i64 i ∧ (i = 0 ∨ i = 1) ∧ Hid (Only (fun _ => False) w wr)) (fun r _ => 1 - uOf r)
  case atStart => exact ⟨0, rfl, .inl rfl, Only.refl _ _⟩
  case round =>
    obtain ⟨i, rfl, hi, HO⟩ := hrel
    obtain ⟨w1, rfl⟩ : ∃ w1, w1 = wr := ⟨_, rfl⟩
    rcases hi with rfl | rfl
    · have hg1 := HO.out.cell hg (fun h => h)
      go_wp2_with fail
      refine (show Calls Tryz.prog 167 _ _ _ from HI.out _ HO.out).mono ?_
      rintro e w2 ⟨rfl, o2⟩
      have O2 : Hid (Only (fun _ => False) w w2) := HO.out.trans o2 (fun _ _ g => g)
      clear HI o2 hg1 HO
      go_wp2
      go_roundw
      case rel => exact ⟨1, rfl, .inr rfl, O2⟩
      case measure => simp [uOf]
    · go_wp2
      go_ret
      exact ⟨rfl, HO.out⟩
set_option maxRecDepth 100000 in
theorem witemV {T : TypeId} {y : Value} {t : ByteArray} (hv : WvV (.iface T y) t) (B b : Nat) (w : World) (hT : Tx w) (h : WrU B b [] false w) (hBw : B ≤ w.heap.size) : Calls Tryz.prog 168 #[.pointer (some ⟨b, 0, none⟩), pV T y] w fun e w' => e = .returned (.tuple #[]) ∧ Hid (WrU B b (strCells t) true w' ∧ Only (fun k => B ≤ k) w w') := by
  have HV : Hid (Calls Tryz.prog 171 #[.pointer (some ⟨b, 0, none⟩), .iface T y] (w.alloc (.cells #[.iface T y] 125)) fun e w' => e = .returned (.tuple #[]) ∧ Hid (WrU B b (strCells t) true w' ∧ Only (fun k => B ≤ k) (w.alloc (.cells #[.iface T y] 125)) w')) := hv B b _ (hT.frame ((Only.refl _ w).alloc _)) (h.alloc _) (by simp; omega)
  have hP := va_hit 125 112 _ Tryz.underlying125 (by intro m h; cases h)
  have O0 : Hid (Only (fun k => B ≤ k) w (w.alloc (.cells #[.iface T y] 125))) := (Only.refl (fun k => B ≤ k) w).alloc _
  clear h hBw hv hT
  unfold pV
  go_enter Tryz.func168, Tryz.ntmps168
  go_wp2_with fail
  refine (show Calls Tryz.prog 171 _ _ _ from HV.out).mono ?_
  rintro e w1 ⟨rfl, g1⟩
  clear HV
  go_wp2
  go_end0
  exact ⟨rfl, g1.out.1, O0.out.trans g1.out.2 (fun _ _ g => g)⟩
set_option maxRecDepth 100000 in
theorem witemsV {T : TypeId} {y : Value} {t : ByteArray} (hv : WvV (.iface T y) t) (B b g : Nat) (w : World) (hT : Tx w) (h : WrU B b [] false w) (hBw : B ≤ w.heap.size) (hg : w.cell? ⟨g, 0, none⟩ = some (pV T y)) : Calls Tryz.prog 163 #[.pointer (some ⟨b, 0, none⟩), .slice (some ⟨g, 0, none⟩) 1 1] w fun e w' => e = .returned (.tuple #[]) ∧ Hid (WrU B b (strCells t) true w' ∧ Only (fun k => B ≤ k) w w') := by
  have HI : Hid (Calls Tryz.prog 168 #[.pointer (some ⟨b, 0, none⟩), pV T y] w fun e w' => e = .returned (.tuple #[]) ∧ Hid (WrU B b (strCells t) true w' ∧ Only (fun k => B ≤ k) w w')) := witemV hv B b w hT h hBw
  clear h hBw hv hT
  unfold pV at HI hg
  go_enter Tryz.func163, Tryz.ntmps163
  go_wp2
  go_loopw [8] (fun r wr => (r = .int .i64 0 ∧ wr = w) ∨ (r = .int .i64 1 ∧ Hid (WrU B b (strCells t) true wr ∧ Only (fun k => B ≤ k) w wr))) (fun r _ => 1 - uOf r)
  case atStart => exact .inl ⟨rfl, rfl⟩
  case round =>
    rcases hrel with ⟨rfl, rfl⟩ | ⟨rfl, HO⟩
    · go_wp2_with fail
      refine (show Calls Tryz.prog 168 _ _ _ from HI.out).mono ?_
      rintro e w2 ⟨rfl, g2⟩
      clear HI hg
      go_wp2
      go_roundw
      case rel => exact .inr ⟨rfl, g2⟩
      case measure => simp [uOf]
    · obtain ⟨w1, rfl⟩ : ∃ w1, w1 = wr := ⟨_, rfl⟩
      go_wp2
      go_end0
      exact ⟨rfl, HO⟩
set_option maxRecDepth 100000 in
theorem textV {T : TypeId} {y : Value} {t : ByteArray} (hp : PsV (.iface T y)) (hv : WvV (.iface T y) t) (h0 : 0 < t.size) (h1 : t.size ≤ 65536) (g : Nat) (w : World) (hT : Tx w) (hg : w.cell? ⟨g, 0, none⟩ = some (pV T y)) : Calls Tryz.prog 156 #[.slice (some ⟨g, 0, none⟩) 1 1] w fun e w' => e = .returned (.tuple #[.string t, .int .i64 0]) ∧ Only (fun _ => False) w w' := by
  have HS : Hid (Calls Tryz.prog 162 #[.slice (some ⟨g, 0, none⟩) 1 1] w fun e w' => e = .returned (.bool true) ∧ Only (fun _ => False) w w') := psoundsV hp w hT.1 g hg
  have HG : Hid (w.cell? ⟨g, 0, none⟩ = some (pV T y)) := hg
  have HTx : Hid (Tx w) := hT
  have HZ : Hid (0 < t.size ∧ t.size ≤ 65536) := ⟨h0, h1⟩
  clear hg hp hT h0 h1
  go_enter Tryz.func156, Tryz.ntmps156
  go_wp2_with fail
  refine (show Calls Tryz.prog 162 _ _ _ from HS.out).mono ?_
  rintro e w1 ⟨rfl, o1⟩
  have O1 : Hid (Only (fun _ => False) w w1) := o1
  obtain ⟨b, hb⟩ : ∃ b, b = w1.heap.size := ⟨_, rfl⟩
  obtain ⟨W2, hW2⟩ : ∃ W2, W2 = w1.alloc (.cells #[.pointer none, .slice none 0 0, .bool false] 247) := ⟨_, rfl⟩
  have A2 : WrU b b [] false W2 := ⟨Nat.le_refl _, .pointer none, .slice none 0 0, by rw [hW2]; exact va_at _ _ _ hb, .inl rfl, ⟨rfl, .inl ⟨rfl, rfl⟩⟩, by simp [Value.ownBlock]⟩
  have o2 : Only (fun _ => False) w1 W2 := by rw [hW2]; exact (Only.refl _ w1).alloc _
  have HI : Hid (Calls Tryz.prog 163 #[.pointer (some ⟨b, 0, none⟩), .slice (some ⟨g, 0, none⟩) 1 1] W2 fun e w' => e = .returned (.tuple #[]) ∧ Hid (WrU b b (strCells t) true w' ∧ Only (fun k => b ≤ k) W2 w')) := witemsV hv b b g W2 (HTx.out.frame (O1.out.trans o2 (fun _ _ g => g))) A2 (by rw [hW2]; simp; omega) ((O1.out.trans o2 (fun _ _ g => g)).cell HG.out (fun h => h))
  have H2 : Hid (Only (fun _ => False) w W2 ∧ w.heap.size ≤ b) := ⟨O1.out.trans o2 (fun _ _ g => g), by rw [hb]; exact O1.out.size⟩
  clear HS o1 A2 o2 O1 HG
  go_wp2_with fail
  rw [← hb, ← hW2]
  refine (show Calls Tryz.prog 163 _ _ _ from HI.out).mono ?_
  rintro e w3 ⟨rfl, g3⟩
  have HW : Hid (Calls Tryz.prog 164 #[.pointer (some ⟨b, 0, none⟩)] w3 fun e w' => e = .returned (.tuple #[.string t, .int .i64 0]) ∧ Below b w3 w') := by
    have hne : t.data.toList ≠ [] := fun e => by
      have h4 : t.data.toList.length = 0 := by rw [e]; rfl
      rw [Array.length_toList] at h4
      have h2 : t.data.size = t.size := rfl
      have h3 := HZ.out.1
      omega
    have := wwhole_any b b t.data.toList true w3 (by rw [byteCells_str]; exact g3.out.1) hne (by rw [Array.length_toList]; exact HZ.out.2)
    rwa [show (⟨t.data.toList.toArray⟩ : ByteArray) = t from rfl] at this
  have O3 : Hid (Only (fun _ => False) w w3) := H2.out.1.trans g3.out.2 (fun k hk e => by have := H2.out.2; omega)
  clear HI g3 hW2 hb
  go_wp2_with fail
  refine (show Calls Tryz.prog 164 _ _ _ from HW.out).mono ?_
  rintro e w4 ⟨rfl, b4⟩
  have O4 : Hid (Only (fun _ => False) w w4) := O3.out.trans (⟨b4.os, b4.tape, b4.output, b4.size, fun k hk hn => b4.block k (by omega)⟩ : Only (fun k => b ≤ k) w3 w4) (fun k hk e => by have := H2.out.2; omega)
  clear HW b4 O3
  go_wp2
  go_ret2
  exact ⟨rfl, O4.out⟩
set_option maxRecDepth 100000 in
theorem wordV {T : TypeId} {y : Value} {t : ByteArray} (hp : PsV (.iface T y)) (hv : WvV (.iface T y) t) (h0 : 0 < t.size) (h1 : t.size ≤ 65536) (w : World) (hT : Tx w) : Calls Tryz.prog 135 #[pV T y] w fun e w' => e = .returned (.string t) ∧ Only (fun _ => False) w w' := by
  have HV : Hid (∀ w1 g, Only (fun _ => False) w w1 → w1.cell? ⟨g, 0, none⟩ = some (pV T y) → Calls Tryz.prog 156 #[.slice (some ⟨g, 0, none⟩) 1 1] w1 fun e w' => e = .returned (.tuple #[.string t, .int .i64 0]) ∧ Only (fun _ => False) w1 w') := fun w1 g o => textV hp hv h0 h1 g w1 (hT.frame o)
  clear hp hv h0 h1 hT
  unfold pV at HV ⊢
  go_enter Tryz.func135, Tryz.ntmps135
  go_wp2_with fail
  have hc : (w.alloc (.cells #[pV T y] 112)).cell? ⟨w.heap.size, 0, none⟩ = some (pV T y) := (wr_cell (va_at w (.cells #[pV T y] 112) _ rfl) 0).trans rfl
  refine (show Calls Tryz.prog 156 _ _ _ from HV.out _ _ ((Only.refl _ w).alloc _) hc).mono ?_
  rintro e w1 ⟨rfl, o1⟩
  have O1 : Hid (Only (fun _ => False) w w1) := ((Only.refl (fun _ => False) w).alloc _).trans o1 (fun _ _ g => g)
  clear HV o1 hc
  go_wp2
  go_ret
  exact ⟨rfl, O1.out⟩
set_option maxRecDepth 100000 in
theorem wordC (s : ByteArray) (hs : clB s = true) (w : World) (hN : Nog w) : Calls Tryz.prog 135 #[cV s] w fun e w' => e = .returned (.string s) ∧ Only (fun _ => False) w w' := by
  have HV : Hid (∀ w1 g, Only (fun _ => False) w w1 → w1.cell? ⟨g, 0, none⟩ = some (cV s) → Calls Tryz.prog 156 #[.slice (some ⟨g, 0, none⟩) 1 1] w1 fun e w' => e = .returned (.tuple #[.string s, .int .i64 0]) ∧ Only (fun _ => False) w1 w') := fun w1 g o hg => by
    have := textC s g w1 hg ⟨o.cell hN.1 (fun h => h), o.cell hN.2.1 (fun h => h), o.cell hN.2.2 (fun h => h)⟩
    rw [hs] at this
    exact this
  clear hs hN
  unfold cV at HV ⊢
  go_enter Tryz.func135, Tryz.ntmps135
  go_wp2_with fail
  have hc : (w.alloc (.cells #[cV s] 112)).cell? ⟨w.heap.size, 0, none⟩ = some (cV s) := (wr_cell (va_at w (.cells #[cV s] 112) _ rfl) 0).trans rfl
  refine (show Calls Tryz.prog 156 _ _ _ from HV.out _ _ ((Only.refl _ w).alloc _) hc).mono ?_
  rintro e w1 ⟨rfl, o1⟩
  have O1 : Hid (Only (fun _ => False) w w1) := ((Only.refl (fun _ => False) w).alloc _).trans o1 (fun _ _ g => g)
  clear HV o1 hc
  go_wp2
  go_ret
  exact ⟨rfl, O1.out⟩
end Go.Proofs.YtgnmedjknbbfhaaGreatDoor
