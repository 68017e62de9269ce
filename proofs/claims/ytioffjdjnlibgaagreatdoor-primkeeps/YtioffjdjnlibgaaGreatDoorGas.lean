/- The numbers by which the library's contracts on strings.Fields, slices.Contains and utf8.RuneCountInString stand over this program. length. A name that is none of the table's. A piece of a row of values. The document's Quoted, in a program without the document's reader. A number's text is the number's. Texts as rows of characters, and back. A piece of a text, and of a list. A piece of a text or a list. -/
import Derived.Shelf.Strings.Fields
import Derived.Shelf.Slices.Turned
import Derived.Shelf.Utf8.RuneCount
import Derived.Test.YtioffjdjnlibgaaGreatDoorProg
import Derived.Test.YtioffjdjnlibgaaGreatDoorGar
import Derived.Test.YtioffjdjnlibgaaGreatDoorGam
import Derived.Test.YtioffjdjnlibgaaGreatDoorGal
import Derived.Test.YtioffjdjnlibgaaGreatDoorGae
import Derived.Test.YtioffjdjnlibgaaGreatDoorGap
import Derived.Lib.ItoaMem
import Derived.Laws.IdiomStrings
import Derived.Laws.Cover4
namespace Go.Proofs
open Go.Shelf
def Tryz.laysFields_ren : Go.Shelf.Ren := ⟨fun | 157 => 31 | 229 => 47 | 199 => 48 | 261 => 68 | 311 => 88 | 312 => 89 | n => n, fun | 9 => 9 | 31 => 53 | 3 => 3 | 5 => 5 | 4 => 4 | 119 => 100 | 0 => 0 | 40 => 102 | 152 => 134 | 21 => 21 | 154 => 136 | 51 => 137 | 141 => 139 | 196 => 169 | 193 => 166 | 198 => 172 | 49 => 170 | 194 => 167 | 201 => 175 | 226 => 189 | 46 => 190 | 227 => 191 | n => n, fun | 0 => 0 | 6 => 1 | n => n⟩
theorem Tryz.laysFields : Go.Proofs.Lays.n157 Tryz.prog Tryz.laysFields_ren := {
  mixed := by kernel_rfl
  f157 := Tryz.func31.trans (congrArg some (by kernel_rfl))
  f199 := Tryz.func48.trans (congrArg some (by kernel_rfl))
  f229 := Tryz.func47.trans (congrArg some (by kernel_rfl))
  f261 := Tryz.func68.trans (congrArg some (by kernel_rfl))
  f311 := Tryz.func88.trans (congrArg some (by kernel_rfl))
  f312 := Tryz.func89.trans (congrArg some (by kernel_rfl))
  t0 := Tryz.underlying0
  a0 := Tryz.isAgg0
  z0 := Tryz.sizeOf0
  v0 := Tryz.zeroValue0
  t3 := Tryz.underlying3
  a3 := Tryz.isAgg3
  z3 := Tryz.sizeOf3
  v3 := Tryz.zeroValue3
  t4 := Tryz.underlying4
  a4 := Tryz.isAgg4
  z4 := Tryz.sizeOf4
  v4 := Tryz.zeroValue4
  t5 := Tryz.underlying5
  a5 := Tryz.isAgg5
  z5 := Tryz.sizeOf5
  v5 := Tryz.zeroValue5
  t9 := Tryz.underlying9
  a9 := Tryz.isAgg9
  z9 := Tryz.sizeOf9
  v9 := Tryz.zeroValue9
  t21 := Tryz.underlying21
  a21 := Tryz.isAgg21
  z21 := Tryz.sizeOf21
  v21 := Tryz.zeroValue21
  t31 := Tryz.underlying53
  a31 := Tryz.isAgg53
  z31 := Tryz.sizeOf53
  v31 := Tryz.zeroValue53
  t40 := Tryz.underlying102
  a40 := Tryz.isAgg102
  z40 := Tryz.sizeOf102
  v40 := Tryz.zeroValue102
  t46 := Tryz.underlying190
  a46 := Tryz.isAgg190
  z46 := Tryz.sizeOf190
  v46 := Tryz.zeroValue190
  t49 := Tryz.underlying170
  a49 := Tryz.isAgg170
  z49 := Tryz.sizeOf170
  v49 := Tryz.zeroValue170
  t51 := Tryz.underlying137
  a51 := Tryz.isAgg137
  z51 := Tryz.sizeOf137
  v51 := Tryz.zeroValue137
  t119 := Tryz.underlying100
  a119 := Tryz.isAgg100
  z119 := Tryz.sizeOf100
  t141 := Tryz.underlying139
  a141 := Tryz.isAgg139
  z141 := Tryz.sizeOf139
  v141 := Tryz.zeroValue139
  t152 := Tryz.underlying134
  a152 := Tryz.isAgg134
  z152 := Tryz.sizeOf134
  v152 := Tryz.zeroValue134
  t154 := Tryz.underlying136
  a154 := Tryz.isAgg136
  z154 := Tryz.sizeOf136
  v154 := Tryz.zeroValue136
  t193 := Tryz.underlying166
  a193 := Tryz.isAgg166
  z193 := Tryz.sizeOf166
  v193 := Tryz.zeroValue166
  t194 := Tryz.underlying167
  a194 := Tryz.isAgg167
  z194 := Tryz.sizeOf167
  v194 := Tryz.zeroValue167
  t196 := Tryz.underlying169
  a196 := Tryz.isAgg169
  z196 := Tryz.sizeOf169
  v196 := Tryz.zeroValue169
  t198 := Tryz.underlying172
  a198 := Tryz.isAgg172
  z198 := Tryz.sizeOf172
  v198 := Tryz.zeroValue172
  t201 := Tryz.underlying175
  a201 := Tryz.isAgg175
  z201 := Tryz.sizeOf175
  v201 := Tryz.zeroValue175
  t226 := Tryz.underlying189
  a226 := Tryz.isAgg189
  z226 := Tryz.sizeOf189
  v226 := Tryz.zeroValue189
  t227 := Tryz.underlying191
  a227 := Tryz.isAgg191
  z227 := Tryz.sizeOf191
  v227 := Tryz.zeroValue191
  g0 := by kernel_rfl
  g6 := by kernel_rfl }
def Tryz.laysContains_ren : Go.Shelf.Ren := ⟨fun | 110 => 18 | 109 => 30 | n => n, fun | 31 => 53 | 9 => 9 | 4 => 4 | 3 => 3 | 0 => 0 | n => n, fun | n => n⟩
theorem Tryz.laysContains : Go.Proofs.Lays.n110 Tryz.prog Tryz.laysContains_ren := {
  mixed := by kernel_rfl
  f109 := Tryz.func30.trans (congrArg some (by kernel_rfl))
  f110 := Tryz.func18.trans (congrArg some (by kernel_rfl))
  t0 := Tryz.underlying0
  a0 := Tryz.isAgg0
  z0 := Tryz.sizeOf0
  v0 := Tryz.zeroValue0
  t3 := Tryz.underlying3
  a3 := Tryz.isAgg3
  z3 := Tryz.sizeOf3
  v3 := Tryz.zeroValue3
  t4 := Tryz.underlying4
  a4 := Tryz.isAgg4
  z4 := Tryz.sizeOf4
  v4 := Tryz.zeroValue4
  t9 := Tryz.underlying9
  a9 := Tryz.isAgg9
  z9 := Tryz.sizeOf9
  v9 := Tryz.zeroValue9
  t31 := Tryz.underlying53
  a31 := Tryz.isAgg53
  z31 := Tryz.sizeOf53
  v31 := Tryz.zeroValue53 }
def Tryz.laysRunes_ren : Go.Shelf.Ren := ⟨fun | 195 => 57 | n => n, fun | 9 => 9 | 3 => 3 | 0 => 0 | 4 => 4 | n => n, fun | n => n⟩
theorem Tryz.laysRunes : Go.Proofs.Lays.n195 Tryz.prog Tryz.laysRunes_ren := {
  mixed := by kernel_rfl
  f195 := Tryz.func57.trans (congrArg some (by kernel_rfl))
  t0 := Tryz.underlying0
  a0 := Tryz.isAgg0
  z0 := Tryz.sizeOf0
  v0 := Tryz.zeroValue0
  t3 := Tryz.underlying3
  a3 := Tryz.isAgg3
  z3 := Tryz.sizeOf3
  v3 := Tryz.zeroValue3
  t4 := Tryz.underlying4
  a4 := Tryz.isAgg4
  z4 := Tryz.sizeOf4
  v4 := Tryz.zeroValue4
  t9 := Tryz.underlying9
  a9 := Tryz.isAgg9
  z9 := Tryz.sizeOf9
  v9 := Tryz.zeroValue9 }
end Go.Proofs
namespace Go.Proofs.YtioffjdjnlibgaaGreatDoor
open Go.RowKit Go.Lib
set_option linter.unusedSimpArgs false
set_option linter.unusedVariables false
theorem rc_le (s : ByteArray) : ∀ (f pos : Nat), runeCountFrom s f pos ≤ f
  | 0, _ => Nat.le_refl _
  | f + 1, pos => by
    unfold runeCountFrom
    split
    · have := rc_le s f (pos + (Utf8.decode s pos).2)
      omega
    · omega
set_option maxRecDepth 100000 in
theorem len_str (s : ByteArray) (hs : s.size ≤ 4096) (w : World) : Calls Tryz.prog 39 #[.iface 56 (.agg #[.string s])] w fun e w' => e = .returned (.int .i64 (runeCount s : Int)) ∧ Only (fun _ => False) w w' := by
  have hi := uas_hit 56 37 _ Tryz.underlying56 (by intro m h; cases h)
  have HR : Hid (∀ W, Calls Tryz.prog 57 #[.string s] W fun e w' => e = .returned (.int .i64 (runeCount s : Int)) ∧ Only (fun _ => False) W w') := fun W => by
    refine (Any.utf8_RuneCountInString Tryz.laysRunes s W (by omega)).mono fun e w' g => ?_
    obtain ⟨he, pos, hw⟩ := g
    rw [hw]
    exact ⟨he, (Only.refl _ W).iter s pos⟩
  obtain ⟨n, hn⟩ : ∃ n : Int, n = (runeCount s : Int) := ⟨_, rfl⟩
  rw [← hn] at HR ⊢
  have O0 : Hid (Only (fun _ => False) w w) := Only.refl _ _
  clear hn hs
  go_enter Tryz.func39, Tryz.ntmps39
  go_wp2_with fail
  refine (show Calls Tryz.prog 57 _ _ _ from HR.out _).mono ?_
  rintro e w1 ⟨rfl, o1⟩
  have O1 : Hid (Only (fun _ => False) w w1) := (O0.out.alloc _).trans o1 (fun _ _ g => g)
  clear HR o1
  go_wp2
  go_ret
  exact ⟨rfl, O1.out⟩
set_option maxRecDepth 100000 in
theorem len_list (ao : Option Addr) (L c : Nat) (w : World) : Calls Tryz.prog 39 #[.iface 34 (.agg #[.slice ao L c])] w fun e w' => e = .returned (.int .i64 (L : Int)) ∧ Only (fun _ => False) w w' := by
  have mStr := uas_miss 34 56 37 _ Tryz.underlying56 (by intro m h; cases h) (by decide) _ uzero_Str
  have hi := uas_hit 34 37 _ Tryz.underlying34 (by intro m h; cases h)
  have O0 : Hid (Only (fun _ => False) w w) := Only.refl _ _
  go_enter Tryz.func39, Tryz.ntmps39
  go_wp2
  go_ret
  exact ⟨rfl, O0.out.alloc _⟩
set_option maxRecDepth 100000 in
theorem len_quot (ao : Option Addr) (L c : Nat) (w : World) : Calls Tryz.prog 39 #[.iface 62 (.agg #[.slice ao L c])] w fun e w' => e = .returned (.int .i64 (L : Int)) ∧ Only (fun _ => False) w w' := by
  have mStr := uas_miss 62 56 37 _ Tryz.underlying56 (by intro m h; cases h) (by decide) _ uzero_Str
  have mList := uas_miss 62 34 37 _ Tryz.underlying34 (by intro m h; cases h) (by decide) _ uzero_List
  have hi := uas_hit 62 37 _ Tryz.underlying62 (by intro m h; cases h)
  have O0 : Hid (Only (fun _ => False) w w) := Only.refl _ _
  go_enter Tryz.func39, Tryz.ntmps39
  go_wp2
  go_ret
  exact ⟨rfl, O0.out.alloc _⟩
/-- how many characters, values or items -/
def lnT (t : Vt) : Nat := if t.k = 2 then runeCount t.s else t.l.length
theorem length_any {d : Nat} {t : Vt} {v : Value} {w0 : World} {S : Nat → Prop} (h : TiAt w0 S d false t v) (hk : t.k = 2 ∨ t.k = 4 ∨ t.k = 5) (hs : t.k = 2 → t.s.size ≤ 4096) (w : World) : Calls Tryz.prog 39 #[v] w fun e w' => e = .returned (.int .i64 (lnT t : Int)) ∧ Only (fun _ => False) w w' := by
  unfold lnT
  by_cases h2 : t.k = 2
  · rw [if_pos h2, ti_2 h h2]
    exact len_str t.s (hs h2) w
  · rw [if_neg h2]
    cases d with
    | zero => exact h.elim
    | succ d =>
      rcases h with ⟨e, _⟩ | ⟨e, _⟩ | ⟨e, _⟩ | ⟨e, _⟩ | ⟨e, _⟩ | ⟨e, a1, c1, rfl, q1, p1⟩
      · omega
      · omega
      · omega
      · omega
      · omega
      rcases e with e | e
      · rw [if_pos e]
        exact len_list a1 _ c1 w
      · rw [if_neg (by omega)]
        exact len_quot a1 _ c1 w
set_option maxRecDepth 100000 in
theorem md_length : MdC ⟨#[108, 101, 110, 103, 116, 104]⟩ [26] (fun _ l => .ok (inT (lnT (l.getD 0 zT)))) := by
  intro d l G q w S hl hS hlen hsm hsd hf hT
  obtain ⟨x, rfl, hk⟩ := fit1 hlen hf
  obtain ⟨g, k, u, ha, hg, hc, ht⟩ := hl 0 x rfl
  cases ha
  have hsx : sdB d x = true := by simpa using hsd
  have HL : Hid _ := length_any ht (fb_26 hk) (sd_str hsx) w
  show Calls Tryz.prog 28 #[_, .slice (some ⟨G, q, none⟩) 1 1] w fun e w' => MdP (.ok (inT (lnT x))) (d + 2) w e w'
  have hc0 : w.cell? ⟨G, q, none⟩ = some u := hc
  obtain ⟨T1, y1, rfl⟩ := ht.iface (by have := fb_26 hk; omega)
  have hb : lnT x ≤ 4096 := by
    unfold lnT
    split
    · rename_i h2
      have := rc_le x.s x.s.size 0
      have := sd_str hsx h2
      unfold runeCount
      omega
    · have := sd_len hsx
      omega
  obtain ⟨n, hn⟩ : ∃ n : Int, n = (lnT x : Int) := ⟨_, rfl⟩
  rw [← hn] at HL ⊢
  have HP : Hid (∀ w', Only (fun _ => False) w w' → MdP (.ok (inT n)) (d + 2) w (.returned (.tuple #[.iface 27 (.agg #[.int .i64 n]), .int .i64 0])) w') := fun w' o => ⟨_, rfl, ⟨fun _ => False, in_ti w' _ (d + 1) n, fun _ g => g.elim⟩, in_sm (by omega), o⟩
  clear hl hS hlen hsm hsd hf hT hk hg hc ht hsx hb hn
  go_enter Tryz.func28, Tryz.ntmps28
  go_wp2_with fail
  refine (show Calls Tryz.prog 39 _ _ _ from HL.out).mono ?_
  rintro e w1 ⟨rfl, o1⟩
  have O1 : Hid (Only (fun _ => False) w w1) := o1
  clear HL o1
  go_wp2
  go_ret2
  exact HP.out _ O1.out
end Go.Proofs.YtioffjdjnlibgaaGreatDoor
namespace Go.Proofs.YtioffjdjnlibgaaGreatDoor
open Go.RowKit Go.Lib
set_option linter.unusedSimpArgs false
set_option linter.unusedVariables false
/-- the names of the table -/
def tbL : List (List UInt8) := [[100, 117, 112], [100, 114, 111, 112], [115, 119, 97, 112], [111, 118, 101, 114], [114, 111, 116], [110, 105, 112], [116, 117, 99, 107], [43], [45], [42], [47], [109, 111, 100], [110, 101, 103], [97, 98, 115], [109, 105, 110], [109, 97, 120], [60], [62], [61], [97, 110, 100], [111, 114], [110, 111, 116], [105, 110, 116, 63], [115, 116, 114, 63], [98, 111, 111, 108, 63], [108, 105, 115, 116, 63], [113, 117, 111, 116, 63], [98, 111, 120, 63], [108, 101, 110, 103, 116, 104], [97, 112, 112, 101, 110, 100], [110, 116, 104], [115, 108, 105, 99, 101], [119, 114, 97, 112], [112, 97, 105, 114], [117, 110, 112, 97, 105, 114], [114, 101, 118, 101, 114, 115, 101], [99, 117, 114, 114, 121], [99, 111, 109, 112, 111, 115, 101], [62, 115, 116, 114], [62, 105, 110, 116]]
set_option maxRecDepth 100000 in
set_option maxHeartbeats 4000000 in
theorem wt_no {s : ByteArray} (h0 : (s.toList == [100, 117, 112]) = false) (h1 : (s.toList == [100, 114, 111, 112]) = false) (h2 : (s.toList == [115, 119, 97, 112]) = false) (h3 : (s.toList == [111, 118, 101, 114]) = false) (h4 : (s.toList == [114, 111, 116]) = false) (h5 : (s.toList == [110, 105, 112]) = false) (h6 : (s.toList == [116, 117, 99, 107]) = false) (h7 : (s.toList == [43]) = false) (h8 : (s.toList == [45]) = false) (h9 : (s.toList == [42]) = false) (h10 : (s.toList == [47]) = false) (h11 : (s.toList == [109, 111, 100]) = false) (h12 : (s.toList == [110, 101, 103]) = false) (h13 : (s.toList == [97, 98, 115]) = false) (h14 : (s.toList == [109, 105, 110]) = false) (h15 : (s.toList == [109, 97, 120]) = false) (h16 : (s.toList == [60]) = false) (h17 : (s.toList == [62]) = false) (h18 : (s.toList == [61]) = false) (h19 : (s.toList == [97, 110, 100]) = false) (h20 : (s.toList == [111, 114]) = false) (h21 : (s.toList == [110, 111, 116]) = false) (h22 : (s.toList == [105, 110, 116, 63]) = false) (h23 : (s.toList == [115, 116, 114, 63]) = false) (h24 : (s.toList == [98, 111, 111, 108, 63]) = false) (h25 : (s.toList == [108, 105, 115, 116, 63]) = false) (h26 : (s.toList == [113, 117, 111, 116, 63]) = false) (h27 : (s.toList == [98, 111, 120, 63]) = false) (h28 : (s.toList == [108, 101, 110, 103, 116, 104]) = false) (h29 : (s.toList == [97, 112, 112, 101, 110, 100]) = false) (h30 : (s.toList == [110, 116, 104]) = false) (h31 : (s.toList == [115, 108, 105, 99, 101]) = false) (h32 : (s.toList == [119, 114, 97, 112]) = false) (h33 : (s.toList == [112, 97, 105, 114]) = false) (h34 : (s.toList == [117, 110, 112, 97, 105, 114]) = false) (h35 : (s.toList == [114, 101, 118, 101, 114, 115, 101]) = false) (h36 : (s.toList == [99, 117, 114, 114, 121]) = false) (h37 : (s.toList == [99, 111, 109, 112, 111, 115, 101]) = false) (h38 : (s.toList == [62, 115, 116, 114]) = false) (h39 : (s.toList == [62, 105, 110, 116]) = false) (w : World) : Calls Tryz.prog 13 #[.string s] w fun e w' => e = .returned (.tuple #[.slice none 0 0, .bool false]) ∧ w' = w := by
  go_enter Tryz.func13, Tryz.ntmps13
  go_wp2
  go_ret2
  exact ⟨rfl, rfl⟩
theorem wt_none {s : ByteArray} (h : s.toList ∉ tbL) (w : World) : Calls Tryz.prog 13 #[.string s] w fun e w' => e = .returned (.tuple #[.slice none 0 0, .bool false]) ∧ w' = w := by
  have key : ∀ l ∈ tbL, (s.toList == l) = false := fun l hl => by
    rw [beq_eq_false_iff_ne]
    intro e
    rw [e] at h
    exact h hl
  exact wt_no (key _ (by simp [tbL])) (key _ (by simp [tbL])) (key _ (by simp [tbL])) (key _ (by simp [tbL])) (key _ (by simp [tbL])) (key _ (by simp [tbL])) (key _ (by simp [tbL])) (key _ (by simp [tbL])) (key _ (by simp [tbL])) (key _ (by simp [tbL])) (key _ (by simp [tbL])) (key _ (by simp [tbL])) (key _ (by simp [tbL])) (key _ (by simp [tbL])) (key _ (by simp [tbL])) (key _ (by simp [tbL])) (key _ (by simp [tbL])) (key _ (by simp [tbL])) (key _ (by simp [tbL])) (key _ (by simp [tbL])) (key _ (by simp [tbL])) (key _ (by simp [tbL])) (key _ (by simp [tbL])) (key _ (by simp [tbL])) (key _ (by simp [tbL])) (key _ (by simp [tbL])) (key _ (by simp [tbL])) (key _ (by simp [tbL])) (key _ (by simp [tbL])) (key _ (by simp [tbL])) (key _ (by simp [tbL])) (key _ (by simp [tbL])) (key _ (by simp [tbL])) (key _ (by simp [tbL])) (key _ (by simp [tbL])) (key _ (by simp [tbL])) (key _ (by simp [tbL])) (key _ (by simp [tbL])) (key _ (by simp [tbL])) (key _ (by simp [tbL])) w
set_option maxRecDepth 100000 in
theorem do_none {name : ByteArray} (hW : name.toList ∉ tbL) {d : Nat} {l : List Vt} {ao : Option Addr} {cap : Nat} {w : World} {S : Nat → Prop} (hl : PsAt w S d false l ao) (hS : ∀ b, S b → b < w.heap.size) (hsm : ∀ x ∈ l, ∃ e, SmT e x) (hlen : l.length ≤ 2513169434900) (hT : Tx w) :
    Calls Tryz.prog 7 #[.string name, .slice ao l.length cap] w fun e w' => e = .returned (.tuple #[.slice none 0 0, .int .i64 (if l.all (sdB d) then 10 else 1)]) ∧ Only (fun _ => False) w w' := by
  have HC1 : Hid _ := copies_any (cap := cap) hl hS hsm hlen hT.1
  have HW : Hid (∀ W, Calls Tryz.prog 13 #[.string name] W fun e w' => e = .returned (.tuple #[.slice none 0 0, .bool false]) ∧ w' = W) := wt_none hW
  obtain ⟨N, hN⟩ : ∃ N, N = l.length := ⟨_, rfl⟩
  rw [← hN]
  rw [← hN] at HC1
  have HN : Hid (N = l.length) := hN
  clear hW hl hS hsm hlen hT hN
  cases hZ : l.all (sdB d) with
  | false =>
    rw [hZ] at HC1
    clear hZ
    go_enter Tryz.func7, Tryz.ntmps7
    go_wp2_with fail
    refine (show Calls Tryz.prog 12 _ _ _ from HC1.out).mono ?_
    rintro e w1 ⟨v, rfl, _, hv, o1⟩
    obtain rfl := hv rfl
    have O1 : Hid (Only (fun _ => False) w w1) := o1
    clear HC1 o1 hv
    go_wp2
    go_ret2
    exact ⟨rfl, O1.out⟩
  | true =>
    rw [hZ] at HC1
    clear hZ
    go_enter Tryz.func7, Tryz.ntmps7
    go_wp2_with fail
    refine (show Calls Tryz.prog 12 _ _ _ from HC1.out).mono ?_
    rintro e w1 ⟨v, rfl, hv, _, o1⟩
    obtain ⟨G, rfl, hsk⟩ := hv rfl
    have O1 : Hid (Only (fun _ => False) w w1) := o1
    rw [← HN.out]
    clear HC1 o1 hv hsk
    go_wp2_with fail
    refine (show Calls Tryz.prog 13 _ _ _ from HW.out _).mono ?_
    rintro e w2 ⟨rfl, hw⟩
    obtain rfl := hw.symm
    go_wp2
    go_ret2
    exact ⟨rfl, O1.out⟩
end Go.Proofs.YtioffjdjnlibgaaGreatDoor
namespace Go.Proofs.YtioffjdjnlibgaaGreatDoor
open Go.RowKit Go.Lib
set_option linter.unusedSimpArgs false
set_option linter.unusedVariables false
theorem sl_mid (ao : Option Addr) (L c a b : Nat) (hab : a ≤ b) (hb : b ≤ L) (hc : L ≤ c) (hn : ao = none → L = 0) (hp : ∀ ad, ao = some ad → 0 < L → ∃ g q, ad = ⟨g, q, none⟩) : ∃ ao' c', (∀ w, (Instr.slice 24 (.slice ao L c) (some (.int .i64 (a : Int))) (some (.int .i64 (b : Int))) none).run Tryz.prog w = .ok (.slice ao' (b - a) c') w) ∧ b - a ≤ c' ∧ (∀ g q, ao = some ⟨g, q, none⟩ → a < b → ao' = some ⟨g, q + a, none⟩) := by
  have k0 : (0 : Int) ≤ (a : Int) := by omega
  have k1 : (a : Int) ≤ (b : Int) := by omega
  have k2 : (b : Int) ≤ (c : Int) := by omega
  have k3 : (0 : Int) ≤ (b : Int) := by omega
  have e1 : ((b : Int) - (a : Int)).toNat = b - a := by omega
  have e2 : ((c : Int) - (a : Int)).toNat = c - a := by omega
  cases ao with
  | none =>
    have h0 := hn rfl
    subst h0
    obtain rfl : b = 0 := by omega
    obtain rfl : a = 0 := by omega
    exact ⟨none, c, fun w => by go_simp, by omega, fun g q h => by cases h⟩
  | some ad =>
    by_cases hL0 : L = 0
    · obtain rfl : b = 0 := by omega
      obtain rfl : a = 0 := by omega
      refine ⟨some ad, c, fun w => ?_, by omega, fun g q _ h => by omega⟩
      by_cases hz0 : c = 0
      · subst hz0
        go_simp
      · have k6 : ¬ (c : Int) = 0 := by omega
        go_simp
    obtain ⟨g, q, rfl⟩ := hp ad rfl (by omega)
    by_cases hz : c - a = 0
    · have hca : c = a := by omega
      have hba : b = a := by omega
      subst hba
      refine ⟨some ⟨g, q, none⟩, 0, fun w => ?_, by omega, fun g q _ h => by omega⟩
      have k4 : ¬ ((c : Int) < (b : Int)) := by omega
      subst hca
      go_simp
    · refine ⟨some ⟨g, q + a, none⟩, c - a, fun w => ?_, by omega, fun g' q' h _ => by cases h; rfl⟩
      have e4 : ¬ c = a := by omega
      go_simp
/-- what cut answers: the values from n up to m -/
def CuP (d : Nat) (l : List Vt) (S : Nat → Prop) (n m : Int) (w : World) (e : Ending) (w' : World) : Prop :=
  w' = w ∧ if 0 ≤ n ∧ n ≤ m ∧ m ≤ (l.length : Int) then ∃ ao' c', e = .returned (.tuple #[.slice ao' (m.toNat - n.toNat) c', .int .i64 0]) ∧ Hid (m.toNat - n.toNat ≤ c' ∧ PsAt w S d false ((l.drop n.toNat).take (m.toNat - n.toNat)) ao') else e = .returned (.tuple #[.slice none 0 0, .int .i64 4])
set_option maxRecDepth 100000 in
theorem cut_v {d : Nat} {l : List Vt} {ao : Option Addr} {c : Nat} {w : World} {S : Nat → Prop} (hl : PsAt w S d false l ao) (hc : l.length ≤ c) (hnil : ao = none → l = []) (hb : l.length ≤ 10000) (n m : Int) : Calls Tryz.prog 61 #[.slice ao l.length c, .int .i64 n, .int .i64 m] w fun e w' => CuP d l S n m w e w' := by
  obtain ⟨L, hL⟩ : ∃ L, L = l.length := ⟨_, rfl⟩
  by_cases h : 0 ≤ n ∧ n ≤ m ∧ m ≤ (l.length : Int)
  · obtain ⟨h0, h1, h2⟩ := h
    obtain ⟨a, rfl⟩ : ∃ a : Nat, n = (a : Int) := ⟨n.toNat, by omega⟩
    obtain ⟨b, rfl⟩ : ∃ b : Nat, m = (b : Int) := ⟨m.toNat, by omega⟩
    obtain ⟨ao', c', hr, hcc, ha⟩ := sl_mid ao L c a b (by omega) (by omega) (by omega) (fun e => by rw [hL, hnil e]; rfl) (fun ad e h => by
      obtain ⟨g, q, u, p1, _⟩ := hl 0 l[0] (List.getElem?_eq_getElem (by omega))
      rw [e] at p1
      cases p1
      exact ⟨g, q, rfl⟩)
    have HP : Hid (CuP d l S (a : Int) (b : Int) w (.returned (.tuple #[.slice ao' (b - a) c', .int .i64 0])) w) := by
      refine ⟨rfl, ?_⟩
      rw [if_pos ⟨h0, h1, h2⟩]
      simp only [Int.toNat_natCast]
      refine ⟨ao', c', rfl, hcc, fun j x hx => ?_⟩
      have hj := (List.getElem?_eq_some_iff.1 hx).1
      simp only [List.length_take, List.length_drop] at hj
      rw [List.getElem?_take, if_pos (by omega), List.getElem?_drop] at hx
      obtain ⟨g, q, u, p1, p2, p3, p4⟩ := hl _ x hx
      refine ⟨g, q + a, u, ha g q p1 (by omega), p2, ?_, p4⟩
      rw [Nat.add_assoc]
      exact p3
    have i1 : ¬ (a : Int) < 0 := by omega
    have i2 : ¬ (b : Int) < (a : Int) := by omega
    have i3 : ¬ (b : Int) > (L : Int) := by omega
    have i4 : ¬ (L : Int) < (b : Int) := by omega
    rw [← hL]
    clear hl hc hnil hb h0 h1 h2 hcc ha hL
    go_enter Tryz.func61, Tryz.ntmps61
    go_wp2
    go_ret2
    exact HP.out
  · have HP : Hid (CuP d l S n m w (.returned (.tuple #[.slice none 0 0, .int .i64 4])) w) := by
      refine ⟨rfl, ?_⟩
      rw [if_neg h]
    have hh : n < 0 ∨ (¬ n < 0 ∧ m < n) ∨ (¬ n < 0 ∧ ¬ m < n ∧ m > (L : Int)) := by omega
    rw [← hL]
    clear hl hc hnil hb hL h
    rcases hh with i1 | ⟨i1, i2⟩ | ⟨i1, i2, i3⟩
    · go_enter Tryz.func61, Tryz.ntmps61
      go_wp2
      go_ret2
      exact HP.out
    · go_enter Tryz.func61, Tryz.ntmps61
      go_wp2
      go_ret2
      exact HP.out
    · go_enter Tryz.func61, Tryz.ntmps61
      go_wp2
      go_ret2
      exact HP.out
end Go.Proofs.YtioffjdjnlibgaaGreatDoor
namespace Go.Proofs.YtioffjdjnlibgaaGreatDoor
open Go.RowKit Go.Lib
set_option linter.unusedSimpArgs false
set_option linter.unusedVariables false
def byN (s : ByteArray) (a : Nat) : Nat := (s.get! a).toNat
theorem get_bang (s : ByteArray) (a : Nat) (h : a < s.size) : s[a]'h = s.get! a := by
  cases s with
  | mk d =>
    show d[a]'h = d[a]!
    exact (getElem!_pos d a h).symm
theorem rns_tx {q : List Nat} (h : VL q) : rns (tx q) = q := by
  unfold rns chs
  rw [crs_tx0 h]
  have : ∀ (q : List Nat) (a : Nat), (pl a q).map (·.2) = q := by
    intro q
    induction q with
    | nil => intro a; rfl
    | cons c q ih => intro a; simp only [pl, List.map_cons, ih]
  exact this q 0
/-- What stands for a byte. -/
def qB (b : UInt8) : List UInt8 := if b.toNat = 10 then [92, 110] else if b.toNat = 34 ∨ b.toNat = 92 then [92, b] else [b]
theorem qB_enc {c : Nat} (hc : Vr c) : (encodeRune (c : Int)).flatMap qB = enL (quC c) := by
  unfold Vr at hc
  have hi : ∀ n : Nat, 128 ≤ n → n < 256 → qB n.toUInt8 = [n.toUInt8] := fun n h1 h2 => by
    unfold qB
    rw [byte_of h2, if_neg (by omega), if_neg (by omega)]
  have hq : 128 ≤ c → quC c = [c] := fun h => by unfold quC; rw [if_neg (by omega), if_neg (by omega)]
  have hs : enL [c] = encodeRune (c : Int) := by simp [enL]
  by_cases h1 : c ≤ 127
  · rw [enc1 h1, List.flatMap_cons, List.flatMap_nil, List.append_nil]
    unfold qB quC
    rw [byte_of (by omega)]
    by_cases h10 : c = 10
    · rw [if_pos h10, if_pos h10]; rfl
    · rw [if_neg h10, if_neg h10]
      by_cases h2 : c = 34 ∨ c = 92
      · rw [if_pos h2, if_pos h2, show enL [92, c] = encodeRune ((92 : Nat) : Int) ++ encodeRune (c : Int) by simp [enL], enc1 h1, enc1 (by decide)]
        rfl
      · rw [if_neg h2, if_neg h2, hs, enc1 h1]
  · rw [hq (by omega), hs]
    by_cases h2 : c ≤ 2047
    · rw [enc2 (by omega) h2]
      simp only [List.flatMap_cons, List.flatMap_nil, hi _ (by omega : 128 ≤ 192 + c / 64) (by omega), hi _ (by omega : 128 ≤ 128 + c % 64) (by omega)]
      rfl
    · by_cases h3 : c ≤ 65535
      · rw [enc3 (by omega)]
        simp only [List.flatMap_cons, List.flatMap_nil, hi _ (by omega : 128 ≤ 224 + c / 4096) (by omega), hi _ (by omega : 128 ≤ 128 + c / 64 % 64) (by omega), hi _ (by omega : 128 ≤ 128 + c % 64) (by omega)]
        rfl
      · rw [enc4 (by omega) (by omega)]
        simp only [List.flatMap_cons, List.flatMap_nil, hi _ (by omega : 128 ≤ 240 + c / 262144) (by omega), hi _ (by omega : 128 ≤ 128 + c / 4096 % 64) (by omega), hi _ (by omega : 128 ≤ 128 + c / 64 % 64) (by omega), hi _ (by omega : 128 ≤ 128 + c % 64) (by omega)]
        rfl
theorem qB_all {l : List Nat} (hv : VL l) : (enL l).flatMap qB = enL (quo l) := by
  induction l with
  | nil => rfl
  | cons c l ih =>
    have e1 : enL (c :: l) = encodeRune (c : Int) ++ enL l := by simp [enL]
    have e2 : quo (c :: l) = quC c ++ quo l := by simp [quo]
    rw [e1, e2, List.flatMap_append, enL_app, ih (fun x hx => hv x (List.mem_cons_of_mem _ hx)), qB_enc (hv c (List.mem_cons_self ..))]
theorem new_cells1 (W : World) (t : TypeId) (a : Value) : ∀ (j : Nat) (u : Value), [a][j]? = some u → (W.alloc (.cells #[a] t)).cell? ((⟨W.heap.size, 0, none⟩ : Addr).add j) = some u := by
  intro j u hj
  rw [addr_add, blk_cells (alloc_at W _ _ rfl)]
  simpa using hj
theorem new_cells2 (W : World) (t : TypeId) (a b : Value) : ∀ (j : Nat) (u : Value), [a, b][j]? = some u → (W.alloc (.cells #[a, b] t)).cell? ((⟨W.heap.size, 0, none⟩ : Addr).add j) = some u := by
  intro j u hj
  rw [addr_add, blk_cells (alloc_at W _ _ rfl)]
  simpa using hj
theorem one_b1 (x : Int) : ∀ u ∈ [Value.int .u8 x], u.oneCell' = true := by
  intro u hu
  simp only [List.mem_cons, List.not_mem_nil, or_false] at hu
  subst hu
  rfl
theorem one_b2 (x y : Int) : ∀ u ∈ [Value.int .u8 x, .int .u8 y], u.oneCell' = true := by
  intro u hu
  simp only [List.mem_cons, List.not_mem_nil, or_false] at hu
  rcases hu with rfl | rfl <;> rfl
set_option maxRecDepth 100000 in
theorem conv_row {w : World} {N : Nat} {ao : Option Addr} {cap : Nat} {l : List UInt8} (hl : l ≠ []) (h : w.ownsRowF N 5 1 (.slice ao l.length cap) l.length (Lib.byteCells l)) :
    (convert 150 9 (.slice ao l.length cap)).run Tryz.prog w = .ok (.string ⟨l.toArray⟩) w := by
  rcases h.2 with ⟨_, h0⟩ | ⟨g, cap', cur, fz, hv, _⟩
  · exact absurd (List.eq_nil_of_length_eq_zero h0) hl
  · injection hv with e1 e2 e3
    subst e1
    refine run_convert_bytes_back w _ _ 5 ⟨g, 0, none⟩ cap l Tryz.underlying150 Tryz.underlying5 Tryz.underlying9 (fun j hj => ?_)
    exact h.cells (g := g) rfl j _ (by simp [Lib.byteCells, hj])
theorem quo_rest {s : ByteArray} {k : Nat} (hk : k < s.size) : s.data.toList.drop k = s.get! k :: s.data.toList.drop (k + 1) := by
  have hl : k < s.data.toList.length := by rw [Array.length_toList]; exact hk
  rw [List.drop_eq_getElem_cons hl, ← get_bang s k hk]
  rfl
theorem quo_bytes {s : ByteArray} (h : ¬ stR s < s.size) : tx ([34] ++ quo (rns s) ++ [34]) = ⟨([34] ++ s.data.toList.flatMap qB ++ [34] : List UInt8).toArray⟩ := by
  obtain ⟨l, hv, e⟩ := valid_tx h
  rw [e, rns_tx hv, tx_data, qB_all hv]
  unfold tx
  rw [enL_app, enL_app]
  rfl
end Go.Proofs.YtioffjdjnlibgaaGreatDoor
namespace Go.Proofs.YtioffjdjnlibgaaGreatDoor
open Go.RowKit Go.Lib
set_option linter.unusedSimpArgs false
set_option linter.unusedVariables false
theorem dd_small {u : Nat} (h : u < 10) : decDigits u = [(48 + u).toUInt8] := by
  rw [decDigits]
  simp [h]
theorem dd_big {u : Nat} (h : ¬ u < 10) : decDigits u = decDigits (u / 10) ++ [(48 + u % 10).toUInt8] := by
  rw [decDigits]
  simp [h]
/-- the digits of a number, as characters -/
def dgL : Nat → Nat → List Nat
  | 0, u => [48 + u % 10]
  | b + 1, u => if u < 10 then [48 + u] else dgL b (u / 10) ++ [48 + u % 10]
theorem dg_dd : ∀ (b u : Nat), u ≤ b → decDigits u = (dgL b u).map (·.toUInt8)
  | 0, u, h => by
    obtain rfl : u = 0 := by omega
    rw [dd_small (by omega)]
    rfl
  | b + 1, u, h => by
    unfold dgL
    by_cases h10 : u < 10
    · rw [if_pos h10, dd_small h10]
      rfl
    · rw [if_neg h10, dd_big h10, dg_dd b (u / 10) (by omega)]
      simp
theorem dg_digit : ∀ (b u : Nat), ∀ c ∈ dgL b u, 48 ≤ c ∧ c ≤ 57
  | 0, u => fun c hc => by
    simp only [dgL, List.mem_cons, List.not_mem_nil, or_false] at hc
    omega
  | b + 1, u => fun c hc => by
    unfold dgL at hc
    split at hc
    · simp only [List.mem_cons, List.not_mem_nil, or_false] at hc
      omega
    · rcases List.mem_append.1 hc with g | g
      · exact dg_digit b _ c g
      · simp only [List.mem_cons, List.not_mem_nil, or_false] at g
        omega
theorem natL_snoc (nt : Int) (c : Nat) (hc : inS c nt = true) : ∀ (l : List Nat) (n m : Nat), natL l nt true n = (m, true) → natL (l ++ [c]) nt true n = (dig m c nt, true)
  | [], n, m, h => by
    simp only [natL, Prod.mk.injEq, and_true] at h
    subst h
    simp only [List.nil_append, natL, hc, if_true]
  | x :: l, n, m, h => by
    simp only [natL] at h
    simp only [List.cons_append, natL]
    by_cases hx : inS x nt = true
    · rw [if_pos hx] at h ⊢
      exact natL_snoc nt c hc l _ m h
    · rw [if_neg hx] at h
      simp at h
theorem in48 {c : Nat} (h : 48 ≤ c ∧ c ≤ 57) : inS (c : Int) 48 = true := by
  unfold inS
  rw [decide_eq_true_eq]
  omega
theorem scr48 {c : Nat} (h : 48 ≤ c ∧ c ≤ 57) : scr (c : Int) = some 48 := by
  unfold scr
  rw [if_pos (in48 h)]
theorem natL_begin : ∀ (l : List Nat), l ≠ [] → (∀ c ∈ l, 48 ≤ c ∧ c ≤ 57) → natL l 0 false 0 = natL l 48 true 0
  | [], h, _ => absurd rfl h
  | c :: l, _, h => by
    have hc := h c (List.mem_cons_self ..)
    simp only [natL, scr48 hc, in48 hc, if_true]
theorem natL_dg : ∀ (b u : Nat), u ≤ b → u ≤ 1152921504606846976 → natL (dgL b u) 48 true 0 = (u, true)
  | 0, u, h, _ => by
    obtain rfl : u = 0 := by omega
    rfl
  | b + 1, u, h, hu => by
    unfold dgL
    by_cases h10 : u < 10
    · rw [if_pos h10]
      have hi : inS ((48 + u : Nat) : Int) 48 = true := in48 (by omega)
      simp only [natL, hi, if_true]
      unfold dig
      rw [if_pos (by omega)]
      simp
      omega
    · rw [if_neg h10, natL_snoc 48 (48 + u % 10) (in48 (by omega)) _ 0 (u / 10) (natL_dg b (u / 10) (by omega) (by omega))]
      unfold dig
      rw [if_pos (by omega)]
      have : (((48 + u % 10 : Nat) : Int) - 48).toNat = u % 10 := by omega
      rw [this]
      congr 1
      omega
theorem dg_ne : ∀ (b u : Nat), dgL b u ≠ []
  | 0, u => by simp [dgL]
  | b + 1, u => by
    unfold dgL
    split <;> simp
theorem tx_ascii : ∀ (q : List Nat), (∀ c ∈ q, c < 128) → enL q = q.map (·.toUInt8)
  | [], _ => rfl
  | c :: q, h => by
    have hc := h c (List.mem_cons_self ..)
    have ih := tx_ascii q (fun x hx => h x (List.mem_cons_of_mem _ hx))
    unfold enL at ih ⊢
    rw [List.flatMap_cons, ih, enc1 (by omega)]
    rfl
/-- what the text of a number is the word of -/
theorem num_itoa (n : Int) (h1 : -1152921504606846976 ≤ n) (h2 : n ≤ 1152921504606846975) : numR ⟨(itoa n).toArray⟩ = (n, 0) := by
  obtain ⟨u, mn, hn, hi, hu⟩ : ∃ (u : Nat) (mn : Bool), n = (if mn then -(u : Int) else (u : Int)) ∧ itoa n = (if mn then [45] else []) ++ decDigits u ∧ (mn = true → 1 ≤ u) := by
    by_cases h : n < 0
    · exact ⟨n.natAbs, true, by simp; omega, by unfold itoa; rw [if_pos h]; rfl, fun _ => by omega⟩
    · exact ⟨n.toNat, false, by simp; omega, by unfold itoa; rw [if_neg h]; rfl, fun e => by cases e⟩
  have hub : u ≤ 1152921504606846976 := by cases mn <;> simp at hn <;> omega
  obtain ⟨q, hq⟩ : ∃ q, q = (if mn then [45] else []) ++ dgL u u := ⟨_, rfl⟩
  have hd := dg_digit u u
  have hasc : ∀ c ∈ q, c < 128 := fun c hc => by
    rw [hq] at hc
    rcases List.mem_append.1 hc with g | g
    · cases mn <;> simp at g
      omega
    · have := hd c g; omega
  have hv : VL q := fun c hc => .inl (by have := hasc c hc; omega)
  have ht : (⟨(itoa n).toArray⟩ : ByteArray) = tx q := by
    unfold tx
    rw [tx_ascii q hasc, hi, hq, dg_dd u u (Nat.le_refl _)]
    cases mn <;> simp
  have hr := sgn_runes (tx q)
  rw [rns_tx hv] at hr
  have hm : rminus q = mn := by
    rw [hq]
    unfold rminus
    cases mn with
    | true => simp
    | false =>
      cases hl : dgL u u with
      | nil => exact absurd hl (dg_ne u u)
      | cons c l =>
        have := hd c (by rw [hl]; exact List.mem_cons_self ..)
        simp only [Bool.false_eq_true, if_false, List.nil_append, List.head?_cons, Option.some.injEq, decide_eq_false_iff_not]
        omega
  have hre : rrest q = dgL u u := by
    unfold rrest
    rw [hm, hq]
    cases mn <;> simp
  rw [hm] at hr
  rw [hre] at hr
  have hnat : natL (rns (sgn (tx q)).1) 0 false 0 = (u, true) := by
    rw [hr.1, natL_begin _ (dg_ne u u) hd]
    exact natL_dg u u (Nat.le_refl _) hub
  rw [ht]
  unfold numR
  rw [hnat, hr.2]
  dsimp only
  rw [if_neg (by simp)]
  cases mn with
  | true =>
    rw [if_pos ⟨rfl, hub⟩]
    simp at hn
    rw [hn]
  | false =>
    simp at hn
    rw [if_neg (by simp), if_pos ⟨rfl, by omega⟩, hn]
end Go.Proofs.YtioffjdjnlibgaaGreatDoor
namespace Go.Proofs.YtioffjdjnlibgaaGreatDoor
open Go.RowKit Go.Lib
set_option linter.unusedSimpArgs false
set_option linter.unusedVariables false
theorem rf_crs (s : ByteArray) : ∀ (b i : Nat) (acc : Array Value), Conv.runesFrom s b i acc = acc ++ ((crs s b i).map fun x => Value.int .i32 (x.2 : Int)).toArray
  | 0, i, acc => by simp [Conv.runesFrom, crs]
  | b + 1, i, acc => by
    unfold Conv.runesFrom crs
    by_cases h : i < s.size
    · rw [if_pos h, if_pos h]
      dsimp only
      rw [rf_crs s b]
      simp
    · rw [if_neg h, if_neg h]
      simp
/-- the characters of a text, as cells -/
theorem rf_rns (s : ByteArray) : Conv.runesFrom s s.size 0 #[] = ((rns s).map fun (r : Nat) => Value.int .i32 (r : Int)).toArray := by
  rw [rf_crs]
  unfold rns chs
  simp [List.map_map, Function.comp_def]
theorem rb_tx (q : List Nat) (h : VL q) : runesBytes (q.map fun (r : Nat) => (r : Int)) = tx q := by
  have key : ∀ (q : List Nat), VL q → ∀ (r : ByteArray), (q.map fun (r : Nat) => (r : Int)).foldl (fun r n => r ++ Utf8.encode n) r = r ++ tx q := by
    intro q
    induction q with
    | nil =>
      intro _ r
      show r = r ++ tx []
      apply ByteArray.ext
      simp [tx, enL, ByteArray.data_append]
    | cons c q ih =>
      intro hv r
      rw [List.map_cons, List.foldl_cons, ih (fun x hx => hv x (List.mem_cons_of_mem _ hx)), encode_tx (hv c (List.mem_cons_self ..)), ByteArray.append_assoc]
      congr 1
      apply ByteArray.ext
      simp [tx, enL, ByteArray.data_append]
  unfold runesBytes
  rw [key q h]
  apply ByteArray.ext
  simp [ByteArray.data_append]
end Go.Proofs.YtioffjdjnlibgaaGreatDoor
namespace Go.Proofs.YtioffjdjnlibgaaGreatDoor
open Go.RowKit Go.Lib
set_option linter.unusedSimpArgs false
set_option linter.unusedVariables false
theorem sl_midr (g L c a b : Nat) (hab : a ≤ b) (hb : b ≤ L) (hc : L ≤ c) : ∃ a' c', (∀ w, (Instr.slice 121 (.slice (some ⟨g, 0, none⟩) L c) (some (.int .i64 (a : Int))) (some (.int .i64 (b : Int))) none).run Tryz.prog w = .ok (.slice (some ⟨g, a', none⟩) (b - a) c') w) ∧ (a < b → a' = a) := by
  have k0 : (0 : Int) ≤ (a : Int) := by omega
  have k1 : (a : Int) ≤ (b : Int) := by omega
  have k2 : (b : Int) ≤ (c : Int) := by omega
  have k3 : (0 : Int) ≤ (b : Int) := by omega
  have e1 : ((b : Int) - (a : Int)).toNat = b - a := by omega
  have e2 : ((c : Int) - (a : Int)).toNat = c - a := by omega
  by_cases hz : c - a = 0
  · have hca : c = a := by omega
    have hba : b = a := by omega
    subst hba
    refine ⟨0, 0, fun w => ?_, fun h => by omega⟩
    have k4 : ¬ ((c : Int) < (b : Int)) := by omega
    subst hca
    go_simp
  · refine ⟨a, c - a, fun w => ?_, fun _ => rfl⟩
    have e4 : ¬ c = a := by omega
    go_simp
/-- what cut answers of characters -/
def CrP (L : Nat) (g : Nat) (n m : Int) (w : World) (e : Ending) (w' : World) : Prop :=
  w' = w ∧ if 0 ≤ n ∧ n ≤ m ∧ m ≤ (L : Int) then ∃ a' c', e = .returned (.tuple #[.slice (some ⟨g, a', none⟩) (m.toNat - n.toNat) c', .int .i64 0]) ∧ (n < m → a' = n.toNat) else e = .returned (.tuple #[.slice none 0 0, .int .i64 4])
set_option maxRecDepth 100000 in
theorem cut_r {L g c : Nat} {w : World} (hc : L ≤ c) (n m : Int) : Calls Tryz.prog 60 #[.slice (some ⟨g, 0, none⟩) L c, .int .i64 n, .int .i64 m] w fun e w' => CrP L g n m w e w' := by
  by_cases h : 0 ≤ n ∧ n ≤ m ∧ m ≤ (L : Int)
  · obtain ⟨h0, h1, h2⟩ := h
    obtain ⟨a, rfl⟩ : ∃ a : Nat, n = (a : Int) := ⟨n.toNat, by omega⟩
    obtain ⟨b, rfl⟩ : ∃ b : Nat, m = (b : Int) := ⟨m.toNat, by omega⟩
    obtain ⟨a', c', hr, ha⟩ := sl_midr g L c a b (by omega) (by omega) hc
    have HP : Hid (CrP L g (a : Int) (b : Int) w (.returned (.tuple #[.slice (some ⟨g, a', none⟩) (b - a) c', .int .i64 0])) w) := by
      refine ⟨rfl, ?_⟩
      rw [if_pos ⟨h0, h1, h2⟩]
      simp only [Int.toNat_natCast]
      exact ⟨a', c', rfl, fun h => ha (by omega)⟩
    have i1 : ¬ (a : Int) < 0 := by omega
    have i2 : ¬ (b : Int) < (a : Int) := by omega
    have i3 : ¬ (b : Int) > (L : Int) := by omega
    have i4 : ¬ (L : Int) < (b : Int) := by omega
    clear hc h0 h1 h2 ha
    go_enter Tryz.func60, Tryz.ntmps60
    go_wp2
    go_ret2
    exact HP.out
  · have HP : Hid (CrP L g n m w (.returned (.tuple #[.slice none 0 0, .int .i64 4])) w) := by
      refine ⟨rfl, ?_⟩
      rw [if_neg h]
    have hh : n < 0 ∨ (¬ n < 0 ∧ m < n) ∨ (¬ n < 0 ∧ ¬ m < n ∧ m > (L : Int)) := by omega
    clear hc h
    rcases hh with i1 | ⟨i1, i2⟩ | ⟨i1, i2, i3⟩
    all_goals
      go_enter Tryz.func60, Tryz.ntmps60
      go_wp2
      go_ret2
      exact HP.out
end Go.Proofs.YtioffjdjnlibgaaGreatDoor
namespace Go.Proofs.YtioffjdjnlibgaaGreatDoor
open Go.RowKit Go.Lib
set_option linter.unusedSimpArgs false
set_option linter.unusedVariables false
theorem tx_mid (q : List Nat) (a b : Nat) : (tx ((q.drop a).take b)).size ≤ (tx q).size := by
  rw [tx_size, tx_size]
  have e : q = q.take a ++ ((q.drop a).take b ++ (q.drop a).drop b) := by rw [List.take_append_drop, List.take_append_drop]
  have h : wl q = wl (q.take a ++ ((q.drop a).take b ++ (q.drop a).drop b)) := by rw [← e]
  rw [wl_app, wl_app] at h
  omega
theorem tx_rev (q : List Nat) : (tx q.reverse).size = (tx q).size := by
  rw [tx_size, tx_size]
  induction q with
  | nil => rfl
  | cons c q ih =>
    rw [List.reverse_cons, wl_app, ih, wl_cons, wl_cons, wl_nil]
    omega
theorem len_wl : ∀ q : List Nat, q.length ≤ wl q
  | [] => Nat.zero_le _
  | c :: q => by
    have := len_wl q
    have := wr_pos c
    rw [wl_cons, List.length_cons]
    omega
theorem vl_mid {q : List Nat} (h : VL q) (a b : Nat) : VL ((q.drop a).take b) := fun c hc => h c (List.mem_of_mem_drop (List.mem_of_mem_take hc))
theorem vl_rev {q : List Nat} (h : VL q) : VL q.reverse := fun c hc => h c (List.mem_reverse.1 hc)
/-- the characters of a text that is sound -/
theorem sd_q {d : Nat} {t : Vt} (h : sdB d t = true) (hk : t.k = 2) : ∃ q, VL q ∧ t.s = tx q := by
  cases d with
  | zero => unfold sdB msB at h; simp [okV] at h
  | succ d =>
    unfold sdB msB at h
    simp only [Bool.and_eq_true] at h
    have h1 := h.1.1
    simp only [okV] at h1
    rw [if_neg (by omega)] at h1
    unfold alB at h1
    rw [if_neg (by omega), if_pos hk] at h1
    simp only [Bool.and_eq_true, decide_eq_true_eq] at h1
    exact valid_tx ((vl_st _).1 h1.2)
/-- a piece -/
def pcR (n m : Int) (t : Vt) : Except Int Vt :=
  if t.k = 2 then (if 0 ≤ n ∧ n ≤ m ∧ m ≤ ((rns t.s).length : Int) then .ok (stT (tx (((rns t.s).drop n.toNat).take (m.toNat - n.toNat)))) else .error 4)
  else (if 0 ≤ n ∧ n ≤ m ∧ m ≤ (t.l.length : Int) then .ok ⟨4, 0, ⟨#[]⟩, (t.l.drop n.toNat).take (m.toNat - n.toNat)⟩ else .error 4)
/-- characters of a row, from a place on, as a text -/
theorem cv_mid {W : World} {g a c L : Nat} {q : List Nat} (hv : VL q) (hc : ∀ j, j < q.length → W.cell? ⟨g, j, none⟩ = some (.int .i32 ((q.getD j 0 : Nat) : Int))) (n k : Nat) (hk : n + k ≤ q.length) (ha : 0 < k → a = n) :
    (convert 121 9 (.slice (some ⟨g, a, none⟩) k c)).run Tryz.prog W = .ok (.string (tx ((q.drop n).take k))) W := by
  have e1 := run_convert_runes (P := Tryz.prog) W 121 9 21 ⟨g, a, none⟩ k c (((q.drop n).take k).map fun (r : Nat) => (r : Int)) (by simp; omega) Tryz.underlying121 Tryz.underlying21 Tryz.underlying9 (fun j hj => by
    simp at hj
    have h1 := hc (n + j) (by omega)
    rw [ha (by omega)]
    rw [Addr.add_mid, h1]
    congr 2
    rw [List.getD_eq_getElem?_getD, List.getD_eq_getElem?_getD, List.getElem?_map, List.getElem?_take, if_pos (by omega), List.getElem?_drop, List.getElem?_eq_getElem (show n + j < q.length by omega)]
    rfl)
  rw [e1, List.take_of_length_le (by simp; omega), rb_tx _ (vl_mid hv n k)]
/-- a text as a row of characters -/
theorem cv_runes {q : List Nat} (hv : VL q) (hq : (tx q).size ≤ 4096) : ∃ (C : World → Nat) (A : World → Array Value), (∀ W, (convert 9 121 (.string (tx q))).run Tryz.prog W = .ok (.slice (some ⟨W.heap.size, 0, none⟩) q.length (C W)) (W.drew.alloc (.cells (A W) 21))) ∧ (∀ W, q.length ≤ C W) ∧ (∀ (W : World) (j : Nat), j < q.length → (W.drew.alloc (.cells (A W) 21)).cell? ⟨W.heap.size, j, none⟩ = some (.int .i32 ((q.getD j 0 : Nat) : Int))) := by
  have e0 : Conv.runesFrom (tx q) (tx q).size 0 #[] = (q.map fun (r : Nat) => Value.int .i32 (r : Int)).toArray := by rw [rf_rns, rns_tx hv]
  have e1 : (Conv.runesFrom (tx q) (tx q).size 0 #[]).size = q.length := by rw [e0]; simp
  have hlen : q.length ≤ 4096 := by
    have := len_wl q
    rw [tx_size] at hq
    omega
  refine ⟨fun W => grownCap W q.length 0 21, fun W => (q.map fun (r : Nat) => Value.int .i32 (r : Int)).toArray ++ Array.replicate (grownCap W q.length 0 21 - q.length) (.int .i32 0), fun W => ?_, fun W => ?_, fun W j hj => ?_⟩
  · have h := run_runes_of_string (P := Tryz.prog) W 9 121 21 (tx q) Tryz.underlying9 Tryz.underlying121 Tryz.underlying21 (by rw [e1]; omega)
    rw [e1, e0] at h
    exact h
  · exact grownCap_ge W q.length 0 21
  · have h : (W.drew.alloc (.cells ((q.map fun (r : Nat) => Value.int .i32 (r : Int)).toArray ++ Array.replicate (grownCap W q.length 0 21 - q.length) (.int .i32 0)) 21)).heap[W.heap.size]? = some (.cells ((q.map fun (r : Nat) => Value.int .i32 (r : Int)).toArray ++ Array.replicate (grownCap W q.length 0 21 - q.length) (.int .i32 0)) 21) := valloc_at _ _ _ (by simp)
    rw [blk_cells h j, Array.getElem?_append_left (by simpa using hj)]
    simp [hj, List.getD_eq_getElem?_getD]
/-- what a piece of a text answers -/
def PsP (q : List Nat) (n m : Int) (w : World) (e : Ending) (w' : World) : Prop :=
  Only (fun _ => False) w w' ∧ if 0 ≤ n ∧ n ≤ m ∧ m ≤ (q.length : Int) then e = .returned (.tuple #[.iface 56 (.agg #[.string (tx ((q.drop n.toNat).take (m.toNat - n.toNat)))]), .int .i64 0]) else ∃ s, e = .returned (.tuple #[.iface 56 (.agg #[.string s]), .int .i64 4])
set_option maxRecDepth 100000 in
theorem piece_str {q : List Nat} (hv : VL q) (hq : (tx q).size ≤ 4096) (n m : Int) (w : World) : Calls Tryz.prog 42 #[.int .i64 n, .int .i64 m, .iface 56 (.agg #[.string (tx q)])] w fun e w' => PsP q n m w e w' := by
  obtain ⟨C, A, hc1, hc2, hc3⟩ := cv_runes hv hq
  have hi := uas_hit 56 37 _ Tryz.underlying56 (by intro m h; cases h)
  have HC : Hid (∀ (W : World), Calls Tryz.prog 60 #[.slice (some ⟨W.heap.size, 0, none⟩) q.length (C W), .int .i64 n, .int .i64 m] (W.drew.alloc (.cells (A W) 21)) fun e w' => CrP q.length W.heap.size n m (W.drew.alloc (.cells (A W) 21)) e w') := fun W => cut_r (hc2 W) n m
  have HM : Hid (∀ (W : World) (a c : Nat), (n < m → a = n.toNat) → 0 ≤ n ∧ n ≤ m ∧ m ≤ (q.length : Int) → (convert 121 9 (.slice (some ⟨W.heap.size, a, none⟩) (m.toNat - n.toNat) c)).run Tryz.prog (W.drew.alloc (.cells (A W) 21)) = .ok (.string (tx ((q.drop n.toNat).take (m.toNat - n.toNat)))) (W.drew.alloc (.cells (A W) 21))) := fun W a c ha hb => cv_mid (L := 0) hv (hc3 W) n.toNat (m.toNat - n.toNat) (by omega) (fun h => ha (by omega))
  have HP : Hid (∀ w' s, Only (fun _ => False) w w' → (0 ≤ n ∧ n ≤ m ∧ m ≤ (q.length : Int)) → s = tx ((q.drop n.toNat).take (m.toNat - n.toNat)) → PsP q n m w (.returned (.tuple #[.iface 56 (.agg #[.string s]), .int .i64 0])) w') := fun w' s o h e => ⟨o, by rw [if_pos h, e]⟩
  have HN : Hid (∀ w' s, Only (fun _ => False) w w' → ¬ (0 ≤ n ∧ n ≤ m ∧ m ≤ (q.length : Int)) → PsP q n m w (.returned (.tuple #[.iface 56 (.agg #[.string s]), .int .i64 4])) w') := fun w' s o h => ⟨o, by rw [if_neg h]; exact ⟨s, rfl⟩⟩
  have hcn : ∀ W, (convert 121 9 (.slice none 0 0)).run Tryz.prog W = .ok (.string .empty) W := fun W => run_convert_runes_nil (P := Tryz.prog) W 121 9 21 0 0 Tryz.underlying121 Tryz.underlying21 Tryz.underlying9
  obtain ⟨s, hs⟩ : ∃ s, s = tx q := ⟨_, rfl⟩
  obtain ⟨L, hL⟩ : ∃ L, L = q.length := ⟨_, rfl⟩
  rw [← hs] at hc1 ⊢
  have O0 : Hid (Only (fun _ => False) w w) := Only.refl _ _
  by_cases h : 0 ≤ n ∧ n ≤ m ∧ m ≤ (q.length : Int)
  · obtain ⟨r, hr⟩ : ∃ r, r = tx ((q.drop n.toNat).take (m.toNat - n.toNat)) := ⟨_, rfl⟩
    obtain ⟨K, hK⟩ : ∃ K, K = m.toNat - n.toNat := ⟨_, rfl⟩
    have HP2 : Hid (∀ w', Only (fun _ => False) w w' → PsP q n m w (.returned (.tuple #[.iface 56 (.agg #[.string r]), .int .i64 0])) w') := fun w' o => HP.out w' r o h hr
    have HC2 : Hid (∀ (W : World) (g : Nat), g = W.heap.size → Calls Tryz.prog 60 #[.slice (some ⟨g, 0, none⟩) L (C W), .int .i64 n, .int .i64 m] (W.alloc (.cells (A W) 21)).drew fun e w' => w' = (W.alloc (.cells (A W) 21)).drew ∧ ∃ a' c', e = .returned (.tuple #[.slice (some ⟨g, a', none⟩) K c', .int .i64 0]) ∧ (convert 121 9 (.slice (some ⟨g, a', none⟩) K c')).run Tryz.prog (W.alloc (.cells (A W) 21)).drew = .ok (.string r) (W.alloc (.cells (A W) 21)).drew) := fun W g hg => by
      rw [hL, hK, show (W.alloc (.cells (A W) 21)).drew = W.drew.alloc (.cells (A W) 21) from rfl, hg]
      refine (HC.out W).mono fun e w' g => ?_
      obtain ⟨g1, g2⟩ := g
      rw [if_pos h] at g2
      obtain ⟨a', c', he, ha⟩ := g2
      exact ⟨g1, a', c', he, by rw [hr]; exact HM.out W a' c' ha h⟩
    rw [← hL] at hc1
    clear HC HM HP HN hc2 hc3 h hv hq hs hL hr hK hcn
    go_enter Tryz.func42, Tryz.ntmps42
    go_wp2_with fail
    refine (show Calls Tryz.prog 60 _ _ _ from HC2.out (w.alloc (.cells #[.string s] 56)) _ (by simp)).mono ?_
    rintro e w1 ⟨rfl, a', c', rfl, hcv⟩
    go_wp2
    go_ret2
    exact HP2.out _ ((O0.out.alloc _).alloc _).drew
  · have HN2 : Hid (∀ w' s, Only (fun _ => False) w w' → PsP q n m w (.returned (.tuple #[.iface 56 (.agg #[.string s]), .int .i64 4])) w') := fun w' s o => HN.out w' s o h
    have HC2 : Hid (∀ (W : World) (g : Nat), g = W.heap.size → Calls Tryz.prog 60 #[.slice (some ⟨g, 0, none⟩) L (C W), .int .i64 n, .int .i64 m] (W.alloc (.cells (A W) 21)).drew fun e w' => w' = (W.alloc (.cells (A W) 21)).drew ∧ e = .returned (.tuple #[.slice none 0 0, .int .i64 4])) := fun W g hg => by
      rw [hL, show (W.alloc (.cells (A W) 21)).drew = W.drew.alloc (.cells (A W) 21) from rfl, hg]
      refine (HC.out W).mono fun e w' g => ?_
      obtain ⟨g1, g2⟩ := g
      rw [if_neg h] at g2
      exact ⟨g1, g2⟩
    rw [← hL] at hc1
    clear HC HM HP HN hc2 hc3 h hv hq hs hL
    go_enter Tryz.func42, Tryz.ntmps42
    go_wp2_with fail
    refine (show Calls Tryz.prog 60 _ _ _ from HC2.out (w.alloc (.cells #[.string s] 56)) _ (by simp)).mono ?_
    rintro e w1 ⟨rfl, rfl⟩
    go_wp2
    go_ret2
    exact HN2.out _ _ ((O0.out.alloc _).alloc _).drew
/-- what a piece of a list answers -/
def PlP (d : Nat) (l : List Vt) (S : Nat → Prop) (n m : Int) (w : World) (e : Ending) (w' : World) : Prop :=
  Only (fun _ => False) w w' ∧ if 0 ≤ n ∧ n ≤ m ∧ m ≤ (l.length : Int) then ∃ ao' c', e = .returned (.tuple #[.iface 34 (.agg #[.slice ao' (m.toNat - n.toNat) c']), .int .i64 0]) ∧ Hid (m.toNat - n.toNat ≤ c' ∧ PsAt w' S d false ((l.drop n.toNat).take (m.toNat - n.toNat)) ao') else e = .returned (.tuple #[.iface 34 (.agg #[.slice none 0 0]), .int .i64 4])
set_option maxRecDepth 100000 in
theorem piece_list {d : Nat} {l : List Vt} {ao : Option Addr} {c : Nat} {w : World} {S : Nat → Prop} (hl : PsAt w S d false l ao) (hc : l.length ≤ c) (hnil : ao = none → l = []) (hb : l.length ≤ 10000) (n m : Int) : Calls Tryz.prog 42 #[.int .i64 n, .int .i64 m, .iface 34 (.agg #[.slice ao l.length c])] w fun e w' => PlP d l S n m w e w' := by
  have mStr := uas_miss 34 56 37 _ Tryz.underlying56 (by intro m h; cases h) (by decide) _ uzero_Str
  have hi := uas_hit 34 37 _ Tryz.underlying34 (by intro m h; cases h)
  have HC : Hid (∀ W, Only (fun _ => False) w W → Calls Tryz.prog 61 #[.slice ao l.length c, .int .i64 n, .int .i64 m] W fun e w' => CuP d l S n m W e w') := fun W o => cut_v (hl.only o (fun _ _ g => g)) hc hnil hb n m
  have O0 : Hid (Only (fun _ => False) w w) := Only.refl _ _
  obtain ⟨L, hL⟩ : ∃ L, L = l.length := ⟨_, rfl⟩
  by_cases h : 0 ≤ n ∧ n ≤ m ∧ m ≤ (l.length : Int)
  · obtain ⟨K, hK⟩ : ∃ K, K = m.toNat - n.toNat := ⟨_, rfl⟩
    have HC2 : Hid (∀ W, Only (fun _ => False) w W → Calls Tryz.prog 61 #[.slice ao L c, .int .i64 n, .int .i64 m] W fun e w' => w' = W ∧ ∃ ao' c', e = .returned (.tuple #[.slice ao' K c', .int .i64 0]) ∧ Hid (PlP d l S n m w (.returned (.tuple #[.iface 34 (.agg #[.slice ao' K c']), .int .i64 0])) W)) := fun W o => by
      rw [hL, hK]
      refine (HC.out W o).mono fun e w' g => ?_
      obtain ⟨g1, g2⟩ := g
      rw [if_pos h] at g2
      obtain ⟨ao', c', he, hx⟩ := g2
      exact ⟨g1, ao', c', he, ⟨o, by rw [if_pos h]; exact ⟨ao', c', rfl, hx⟩⟩⟩
    rw [← hL]
    clear HC hl hc hnil hb hL hK h
    go_enter Tryz.func42, Tryz.ntmps42
    go_wp2_with fail
    refine (show Calls Tryz.prog 61 _ _ _ from HC2.out _ (O0.out.alloc _)).mono ?_
    rintro e w1 ⟨rfl, a', c', rfl, HP⟩
    go_wp2
    go_ret2
    exact HP.out
  · have HP : Hid (∀ w', Only (fun _ => False) w w' → PlP d l S n m w (.returned (.tuple #[.iface 34 (.agg #[.slice none 0 0]), .int .i64 4])) w') := fun w' o => ⟨o, by rw [if_neg h]⟩
    have HC2 : Hid (∀ W, Only (fun _ => False) w W → Calls Tryz.prog 61 #[.slice ao L c, .int .i64 n, .int .i64 m] W fun e w' => w' = W ∧ e = .returned (.tuple #[.slice none 0 0, .int .i64 4])) := fun W o => by
      rw [hL]
      refine (HC.out W o).mono fun e w' g => ?_
      obtain ⟨g1, g2⟩ := g
      rw [if_neg h] at g2
      exact ⟨g1, g2⟩
    rw [← hL]
    clear HC hl hc hnil hb hL h
    go_enter Tryz.func42, Tryz.ntmps42
    go_wp2_with fail
    refine (show Calls Tryz.prog 61 _ _ _ from HC2.out _ (O0.out.alloc _)).mono ?_
    rintro e w1 ⟨rfl, rfl⟩
    go_wp2
    go_ret2
    exact HP.out _ (O0.out.alloc _)
/-- a piece of a text or a list -/
theorem piece_any {D : Nat} {x : Vt} {u : Value} {w : World} {S : Nat → Prop} (hx : TiAt w S D false x u) (hS : ∀ b, S b → b < w.heap.size) (kx : x.k = 2 ∨ x.k = 4) (sq : x.k = 2 → ∃ q, VL q ∧ x.s = tx q) (sx : x.k = 2 → x.s.size ≤ 4096) (lx : x.l.length ≤ 10000) (mx : ∃ e, SmT e x) (n m : Int) : Calls Tryz.prog 42 #[.int .i64 n, .int .i64 m, u] w fun e w' => MdP (pcR n m x) D w e w' := by
  unfold pcR
  cases D with
  | zero => exact hx.elim
  | succ D =>
  by_cases h2 : x.k = 2
  · rw [if_pos h2]
    obtain ⟨q, hv, hs⟩ := sq h2
    have e1 := ti_2 hx h2
    subst e1
    have hz := sx h2
    rw [hs] at hz ⊢
    rw [rns_tx hv]
    refine (piece_str hv hz n m w).mono fun e w' g => ?_
    obtain ⟨o, g⟩ := g
    by_cases h : 0 ≤ n ∧ n ≤ m ∧ m ≤ (q.length : Int)
    · rw [if_pos h] at g ⊢
      refine ⟨_, g, ⟨fun _ => False, st_ti w' _ D _, fun _ g => g.elim⟩, st_sm ?_, o⟩
      have := tx_mid q n.toNat (m.toNat - n.toNat)
      omega
    · rw [if_neg h] at g ⊢
      obtain ⟨s, g⟩ := g
      exact ⟨_, g, .inr ⟨_, _, rfl⟩, rfl, o⟩
  · rw [if_neg h2]
    have k4 : x.k = 4 := by omega
    rcases hx with ⟨e, _⟩ | ⟨e, _⟩ | ⟨e, _⟩ | ⟨e, _⟩ | ⟨e, _⟩ | ⟨_, a1, c1, rfl, q1, p1⟩
    · omega
    · omega
    · omega
    · omega
    · omega
    rw [if_pos k4]
    rw [show decide (x.k = 5) = false by rw [k4]; rfl] at p1
    refine (piece_list (c := c1) p1 q1 (fun e => by cases hxl : x.l with | nil => rfl | cons t l => (obtain ⟨g, q, u, p, _⟩ := p1 0 t (by rw [hxl]; rfl); rw [e] at p; cases p)) lx n m).mono fun e w' g => ?_
    obtain ⟨o, g⟩ := g
    by_cases h : 0 ≤ n ∧ n ≤ m ∧ m ≤ (x.l.length : Int)
    · rw [if_pos h] at g ⊢
      obtain ⟨ao', c', he, g⟩ := g
      obtain ⟨g1, g2⟩ := g.out
      have hln : ((x.l.drop n.toNat).take (m.toNat - n.toNat)).length = m.toNat - n.toNat := by simp; omega
      refine ⟨_, he, ⟨S, ?_, fun b hb => Nat.lt_of_lt_of_le (hS b hb) o.size⟩, jl_sm (.inl rfl) (fun t ht => sm_parts mx t (List.mem_of_mem_drop (List.mem_of_mem_take ht))) (by omega), o⟩
      refine .inr (.inr (.inr (.inr (.inr ⟨.inl rfl, ao', c', ?_, ?_, ?_⟩))))
      · dsimp only
        rw [hln]
        rfl
      · dsimp only
        rw [hln]
        exact g1
      · exact g2
    · rw [if_neg h] at g ⊢
      exact ⟨_, g, .inr ⟨_, _, rfl⟩, rfl, o⟩
end Go.Proofs.YtioffjdjnlibgaaGreatDoor
