/- A number's text is the number's. The numbers by which the library's contracts on strings.Fields, slices.Contains and utf8.RuneCountInString stand over this program. The names of the primitives. The kinds that primitives want, and the places of those that move values. The kinds that primitives want, and the places of those that move values. The kinds that primitives want, and the places of those that move values. The kinds that primitives want, and the places of those that move values. The kinds that primitives want, and the places of those that move values. Many values as trees: Trees, ItemTrees. -/
import Derived.Test.YtgnmedjknbbfhaaGreatDoorGal
import Derived.Test.YtgnmedjknbbfhaaGreatDoorGao
import Derived.Lib.ItoaMem
import Derived.Shelf.Strings.Fields
import Derived.Shelf.Slices.Turned
import Derived.Shelf.Utf8.RuneCount
import Derived.Test.YtgnmedjknbbfhaaGreatDoorProg
import Derived.Test.YtgnmedjknbbfhaaGreatDoorGam
import Derived.Test.YtgnmedjknbbfhaaGreatDoorGai
namespace Go.Proofs.YtgnmedjknbbfhaaGreatDoor
open Go.RowKit Go.Lib
set_option linter.unusedSimpArgs false
set_option linter.unusedVariables false
theorem dd_small {u : Nat} (h : u < 10) : decDigits u = [(48 + u).toUInt8] := by
  rw [decDigits]
  simp [h]
theorem dd_big {u : Nat} (h : ¬ u < 10) : decDigits u = decDigits (u / 10) ++ [(48 + u % 10).toUInt8] := by
  rw [decDigits]
  simp [h]
/-- the digits of a number, as characters -/
def dgL : Nat → Nat → List Nat
  | 0, u => [48 + u % 10]
  | b + 1, u => if u < 10 then [48 + u] else dgL b (u / 10) ++ [48 + u % 10]
theorem dg_dd : ∀ (b u : Nat), u ≤ b → decDigits u = (dgL b u).map (·.toUInt8)
  | 0, u, h => by
    obtain rfl : u = 0 := by omega
    rw [dd_small (by omega)]
    rfl
  | b + 1, u, h => by
    unfold dgL
    by_cases h10 : u < 10
    · rw [if_pos h10, dd_small h10]
      rfl
    · rw [if_neg h10, dd_big h10, dg_dd b (u / 10) (by omega)]
      simp
theorem dg_digit : ∀ (b u : Nat), ∀ c ∈ dgL b u, 48 ≤ c ∧ c ≤ 57
  | 0, u => fun c hc => by
    simp only [dgL, List.mem_cons, List.not_mem_nil, or_false] at hc
    omega
  | b + 1, u => fun c hc => by
    unfold dgL at hc
    split at hc
    · simp only [List.mem_cons, List.not_mem_nil, or_false] at hc
      omega
    · rcases List.mem_append.1 hc with g | g
      · exact dg_digit b _ c g
      · simp only [List.mem_cons, List.not_mem_nil, or_false] at g
        omega
theorem natL_snoc (nt : Int) (c : Nat) (hc : inS c nt = true) : ∀ (l : List Nat) (n m : Nat), natL l nt true n = (m, true) → natL (l ++ [c]) nt true n = (dig m c nt, true)
  | [], n, m, h => by
    simp only [natL, Prod.mk.injEq, and_true] at h
    subst h
    simp only [List.nil_append, natL, hc, if_true]
  | x :: l, n, m, h => by
    simp only [natL] at h
    simp only [List.cons_append, natL]
    by_cases hx : inS x nt = true
    · rw [if_pos hx] at h ⊢
      exact natL_snoc nt c hc l _ m h
    · rw [if_neg hx] at h
      simp at h
theorem in48 {c : Nat} (h : 48 ≤ c ∧ c ≤ 57) : inS (c : Int) 48 = true := by
  unfold inS
  rw [decide_eq_true_eq]
  omega
theorem scr48 {c : Nat} (h : 48 ≤ c ∧ c ≤ 57) : scr (c : Int) = some 48 := by
  unfold scr
  rw [if_pos (in48 h)]
theorem natL_begin : ∀ (l : List Nat), l ≠ [] → (∀ c ∈ l, 48 ≤ c ∧ c ≤ 57) → natL l 0 false 0 = natL l 48 true 0
  | [], h, _ => absurd rfl h
  | c :: l, _, h => by
    have hc := h c (List.mem_cons_self ..)
    simp only [natL, scr48 hc, in48 hc, if_true]
theorem natL_dg : ∀ (b u : Nat), u ≤ b → u ≤ 1152921504606846976 → natL (dgL b u) 48 true 0 = (u, true)
  | 0, u, h, _ => by
    obtain rfl : u = 0 := by omega
    rfl
  | b + 1, u, h, hu => by
    unfold dgL
    by_cases h10 : u < 10
    · rw [if_pos h10]
      have hi : inS ((48 + u : Nat) : Int) 48 = true := in48 (by omega)
      simp only [natL, hi, if_true]
      unfold dig
      rw [if_pos (by omega)]
      simp
      omega
    · rw [if_neg h10, natL_snoc 48 (48 + u % 10) (in48 (by omega)) _ 0 (u / 10) (natL_dg b (u / 10) (by omega) (by omega))]
      unfold dig
      rw [if_pos (by omega)]
      have : (((48 + u % 10 : Nat) : Int) - 48).toNat = u % 10 := by omega
      rw [this]
      congr 1
      omega
theorem dg_ne : ∀ (b u : Nat), dgL b u ≠ []
  | 0, u => by simp [dgL]
  | b + 1, u => by
    unfold dgL
    split <;> simp
theorem tx_ascii : ∀ (q : List Nat), (∀ c ∈ q, c < 128) → enL q = q.map (·.toUInt8)
  | [], _ => rfl
  | c :: q, h => by
    have hc := h c (List.mem_cons_self ..)
    have ih := tx_ascii q (fun x hx => h x (List.mem_cons_of_mem _ hx))
    unfold enL at ih ⊢
    rw [List.flatMap_cons, ih, enc1 (by omega)]
    rfl
theorem rns_tx {q : List Nat} (h : VL q) : rns (tx q) = q := by
  unfold rns chs
  rw [crs_tx0 h]
  have : ∀ (q : List Nat) (a : Nat), (pl a q).map (·.2) = q := by
    intro q
    induction q with
    | nil => intro a; rfl
    | cons c q ih => intro a; simp only [pl, List.map_cons, ih]
  exact this q 0
/-- what the text of a number is the word of -/
theorem num_itoa (n : Int) (h1 : -1152921504606846976 ≤ n) (h2 : n ≤ 1152921504606846975) : numR ⟨(itoa n).toArray⟩ = (n, 0) := by
  obtain ⟨u, mn, hn, hi, hu⟩ : ∃ (u : Nat) (mn : Bool), n = (if mn then -(u : Int) else (u : Int)) ∧ itoa n = (if mn then [45] else []) ++ decDigits u ∧ (mn = true → 1 ≤ u) := by
    by_cases h : n < 0
    · exact ⟨n.natAbs, true, by simp; omega, by unfold itoa; rw [if_pos h]; rfl, fun _ => by omega⟩
    · exact ⟨n.toNat, false, by simp; omega, by unfold itoa; rw [if_neg h]; rfl, fun e => by cases e⟩
  have hub : u ≤ 1152921504606846976 := by cases mn <;> simp at hn <;> omega
  obtain ⟨q, hq⟩ : ∃ q, q = (if mn then [45] else []) ++ dgL u u := ⟨_, rfl⟩
  have hd := dg_digit u u
  have hasc : ∀ c ∈ q, c < 128 := fun c hc => by
    rw [hq] at hc
    rcases List.mem_append.1 hc with g | g
    · cases mn <;> simp at g
      omega
    · have := hd c g; omega
  have hv : VL q := fun c hc => .inl (by have := hasc c hc; omega)
  have ht : (⟨(itoa n).toArray⟩ : ByteArray) = tx q := by
    unfold tx
    rw [tx_ascii q hasc, hi, hq, dg_dd u u (Nat.le_refl _)]
    cases mn <;> simp
  have hr := sgn_runes (tx q)
  rw [rns_tx hv] at hr
  have hm : rminus q = mn := by
    rw [hq]
    unfold rminus
    cases mn with
    | true => simp
    | false =>
      cases hl : dgL u u with
      | nil => exact absurd hl (dg_ne u u)
      | cons c l =>
        have := hd c (by rw [hl]; exact List.mem_cons_self ..)
        simp only [Bool.false_eq_true, if_false, List.nil_append, List.head?_cons, Option.some.injEq, decide_eq_false_iff_not]
        omega
  have hre : rrest q = dgL u u := by
    unfold rrest
    rw [hm, hq]
    cases mn <;> simp
  rw [hm] at hr
  rw [hre] at hr
  have hnat : natL (rns (sgn (tx q)).1) 0 false 0 = (u, true) := by
    rw [hr.1, natL_begin _ (dg_ne u u) hd]
    exact natL_dg u u (Nat.le_refl _) hub
  rw [ht]
  unfold numR
  rw [hnat, hr.2]
  dsimp only
  rw [if_neg (by simp)]
  cases mn with
  | true =>
    rw [if_pos ⟨rfl, hub⟩]
    simp at hn
    rw [hn]
  | false =>
    simp at hn
    rw [if_neg (by simp), if_pos ⟨rfl, by omega⟩, hn]
end Go.Proofs.YtgnmedjknbbfhaaGreatDoor
namespace Go.Proofs
open Go.Shelf
def Tryz.laysFields_ren : Go.Shelf.Ren := ⟨fun | 157 => 37 | 229 => 60 | 199 => 61 | 261 => 89 | 311 => 117 | 312 => 118 | n => n, fun | 9 => 9 | 31 => 35 | 3 => 3 | 5 => 5 | 4 => 4 | 119 => 107 | 0 => 0 | 40 => 109 | 152 => 136 | 21 => 21 | 154 => 138 | 51 => 139 | 141 => 141 | 196 => 185 | 193 => 182 | 198 => 188 | 49 => 186 | 194 => 183 | 201 => 191 | 226 => 222 | 46 => 223 | 227 => 224 | n => n, fun | 0 => 0 | 6 => 1 | n => n⟩
theorem Tryz.laysFields : Go.Proofs.Lays.n157 Tryz.prog Tryz.laysFields_ren := {
  mixed := by kernel_rfl
  f157 := Tryz.func37.trans (congrArg some (by kernel_rfl))
  f199 := Tryz.func61.trans (congrArg some (by kernel_rfl))
  f229 := Tryz.func60.trans (congrArg some (by kernel_rfl))
  f261 := Tryz.func89.trans (congrArg some (by kernel_rfl))
  f311 := Tryz.func117.trans (congrArg some (by kernel_rfl))
  f312 := Tryz.func118.trans (congrArg some (by kernel_rfl))
  t0 := Tryz.underlying0
  a0 := Tryz.isAgg0
  z0 := Tryz.sizeOf0
  v0 := Tryz.zeroValue0
  t3 := Tryz.underlying3
  a3 := Tryz.isAgg3
  z3 := Tryz.sizeOf3
  v3 := Tryz.zeroValue3
  t4 := Tryz.underlying4
  a4 := Tryz.isAgg4
  z4 := Tryz.sizeOf4
  v4 := Tryz.zeroValue4
  t5 := Tryz.underlying5
  a5 := Tryz.isAgg5
  z5 := Tryz.sizeOf5
  v5 := Tryz.zeroValue5
  t9 := Tryz.underlying9
  a9 := Tryz.isAgg9
  z9 := Tryz.sizeOf9
  v9 := Tryz.zeroValue9
  t21 := Tryz.underlying21
  a21 := Tryz.isAgg21
  z21 := Tryz.sizeOf21
  v21 := Tryz.zeroValue21
  t31 := Tryz.underlying35
  a31 := Tryz.isAgg35
  z31 := Tryz.sizeOf35
  v31 := Tryz.zeroValue35
  t40 := Tryz.underlying109
  a40 := Tryz.isAgg109
  z40 := Tryz.sizeOf109
  v40 := Tryz.zeroValue109
  t46 := Tryz.underlying223
  a46 := Tryz.isAgg223
  z46 := Tryz.sizeOf223
  v46 := Tryz.zeroValue223
  t49 := Tryz.underlying186
  a49 := Tryz.isAgg186
  z49 := Tryz.sizeOf186
  v49 := Tryz.zeroValue186
  t51 := Tryz.underlying139
  a51 := Tryz.isAgg139
  z51 := Tryz.sizeOf139
  v51 := Tryz.zeroValue139
  t119 := Tryz.underlying107
  a119 := Tryz.isAgg107
  z119 := Tryz.sizeOf107
  t141 := Tryz.underlying141
  a141 := Tryz.isAgg141
  z141 := Tryz.sizeOf141
  v141 := Tryz.zeroValue141
  t152 := Tryz.underlying136
  a152 := Tryz.isAgg136
  z152 := Tryz.sizeOf136
  v152 := Tryz.zeroValue136
  t154 := Tryz.underlying138
  a154 := Tryz.isAgg138
  z154 := Tryz.sizeOf138
  v154 := Tryz.zeroValue138
  t193 := Tryz.underlying182
  a193 := Tryz.isAgg182
  z193 := Tryz.sizeOf182
  v193 := Tryz.zeroValue182
  t194 := Tryz.underlying183
  a194 := Tryz.isAgg183
  z194 := Tryz.sizeOf183
  v194 := Tryz.zeroValue183
  t196 := Tryz.underlying185
  a196 := Tryz.isAgg185
  z196 := Tryz.sizeOf185
  v196 := Tryz.zeroValue185
  t198 := Tryz.underlying188
  a198 := Tryz.isAgg188
  z198 := Tryz.sizeOf188
  v198 := Tryz.zeroValue188
  t201 := Tryz.underlying191
  a201 := Tryz.isAgg191
  z201 := Tryz.sizeOf191
  v201 := Tryz.zeroValue191
  t226 := Tryz.underlying222
  a226 := Tryz.isAgg222
  z226 := Tryz.sizeOf222
  v226 := Tryz.zeroValue222
  t227 := Tryz.underlying224
  a227 := Tryz.isAgg224
  z227 := Tryz.sizeOf224
  v227 := Tryz.zeroValue224
  g0 := by kernel_rfl
  g6 := by kernel_rfl }
def Tryz.laysContains_ren : Go.Shelf.Ren := ⟨fun | 110 => 38 | 109 => 62 | n => n, fun | 31 => 35 | 9 => 9 | 4 => 4 | 3 => 3 | 0 => 0 | n => n, fun | n => n⟩
theorem Tryz.laysContains : Go.Proofs.Lays.n110 Tryz.prog Tryz.laysContains_ren := {
  mixed := by kernel_rfl
  f109 := Tryz.func62.trans (congrArg some (by kernel_rfl))
  f110 := Tryz.func38.trans (congrArg some (by kernel_rfl))
  t0 := Tryz.underlying0
  a0 := Tryz.isAgg0
  z0 := Tryz.sizeOf0
  v0 := Tryz.zeroValue0
  t3 := Tryz.underlying3
  a3 := Tryz.isAgg3
  z3 := Tryz.sizeOf3
  v3 := Tryz.zeroValue3
  t4 := Tryz.underlying4
  a4 := Tryz.isAgg4
  z4 := Tryz.sizeOf4
  v4 := Tryz.zeroValue4
  t9 := Tryz.underlying9
  a9 := Tryz.isAgg9
  z9 := Tryz.sizeOf9
  v9 := Tryz.zeroValue9
  t31 := Tryz.underlying35
  a31 := Tryz.isAgg35
  z31 := Tryz.sizeOf35
  v31 := Tryz.zeroValue35 }
def Tryz.laysRunes_ren : Go.Shelf.Ren := ⟨fun | 195 => 101 | n => n, fun | 9 => 9 | 3 => 3 | 0 => 0 | 4 => 4 | n => n, fun | n => n⟩
theorem Tryz.laysRunes : Go.Proofs.Lays.n195 Tryz.prog Tryz.laysRunes_ren := {
  mixed := by kernel_rfl
  f195 := Tryz.func101.trans (congrArg some (by kernel_rfl))
  t0 := Tryz.underlying0
  a0 := Tryz.isAgg0
  z0 := Tryz.sizeOf0
  v0 := Tryz.zeroValue0
  t3 := Tryz.underlying3
  a3 := Tryz.isAgg3
  z3 := Tryz.sizeOf3
  v3 := Tryz.zeroValue3
  t4 := Tryz.underlying4
  a4 := Tryz.isAgg4
  z4 := Tryz.sizeOf4
  v4 := Tryz.zeroValue4
  t9 := Tryz.underlying9
  a9 := Tryz.isAgg9
  z9 := Tryz.sizeOf9
  v9 := Tryz.zeroValue9 }
end Go.Proofs
namespace Go.Proofs.YtgnmedjknbbfhaaGreatDoor
open Go.RowKit Go.Lib
set_option linter.unusedSimpArgs false
set_option linter.unusedVariables false
/-- the table of white space, as it begins -/
def As (w : World) : Prop := Lib.TabIs Tryz.prog w "strings.asciiSpace" .u8 Lib.asciiSpaceTab
theorem As.frame {w w' : World} (h : As w) (o : Only (fun _ => False) w w') : As w' := by
  unfold As Lib.TabIs at *
  unfold World.var? at *
  cases hg : Tryz.prog.globalNamed "strings.asciiSpace" with
  | none => rw [hg] at h; simp at h
  | some g =>
    rw [hg] at h
    simp only [Option.bind_some] at h ⊢
    cases hb : w.heap[g]? with
    | none => rw [hb] at h; simp at h
    | some ob =>
      rw [hb] at h
      rw [o.block g (Array.getElem?_eq_some_iff.1 hb).1 (fun g => g), hb]
      exact h
/-- the tables of a run -/
def Ty (w : World) : Prop := Tx w ∧ As w
theorem Ty.frame {w w' : World} (h : Ty w) (o : Only (fun _ => False) w w') : Ty w' := ⟨h.1.frame o, h.2.frame o⟩
/-- the names, one behind the other -/
def pmText : ByteArray := ⟨#[100, 117, 112, 32, 100, 114, 111, 112, 32, 115, 119, 97, 112, 32, 111, 118, 101, 114, 32, 114, 111, 116, 32, 110, 105, 112, 32, 116, 117, 99, 107, 32, 43, 32, 45, 32, 42, 32, 47, 32, 109, 111, 100, 32, 110, 101, 103, 32, 97, 98, 115, 32, 109, 105, 110, 32, 109, 97, 120, 32, 60, 32, 62, 32, 61, 32, 97, 110, 100, 32, 111, 114, 32, 110, 111, 116, 32, 105, 110, 116, 63, 32, 115, 116, 114, 63, 32, 98, 111, 111, 108, 63, 32, 108, 105, 115, 116, 63, 32, 113, 117, 111, 116, 63, 32, 98, 111, 120, 63, 32, 108, 101, 110, 103, 116, 104, 32, 97, 112, 112, 101, 110, 100, 32, 110, 116, 104, 32, 115, 108, 105, 99, 101, 32, 119, 114, 97, 112, 32, 112, 97, 105, 114, 32, 117, 110, 112, 97, 105, 114, 32, 114, 101, 118, 101, 114, 115, 101, 32, 99, 117, 114, 114, 121, 32, 99, 111, 109, 112, 111, 115, 101, 32, 62, 115, 116, 114, 32, 62, 105, 110, 116, 32, 99, 97, 108, 108, 32, 100, 105, 112, 32, 107, 101, 101, 112, 32, 105, 102, 32, 119, 104, 101, 110, 32, 116, 105, 109, 101, 115, 32, 101, 97, 99, 104, 32, 108, 111, 111, 112, 32, 98, 111, 120, 32, 103, 101, 116, 32, 112, 117, 116, 32, 46]⟩
def pmNames : List ByteArray := [⟨#[100, 117, 112]⟩, ⟨#[100, 114, 111, 112]⟩, ⟨#[115, 119, 97, 112]⟩, ⟨#[111, 118, 101, 114]⟩, ⟨#[114, 111, 116]⟩, ⟨#[110, 105, 112]⟩, ⟨#[116, 117, 99, 107]⟩, ⟨#[43]⟩, ⟨#[45]⟩, ⟨#[42]⟩, ⟨#[47]⟩, ⟨#[109, 111, 100]⟩, ⟨#[110, 101, 103]⟩, ⟨#[97, 98, 115]⟩, ⟨#[109, 105, 110]⟩, ⟨#[109, 97, 120]⟩, ⟨#[60]⟩, ⟨#[62]⟩, ⟨#[61]⟩, ⟨#[97, 110, 100]⟩, ⟨#[111, 114]⟩, ⟨#[110, 111, 116]⟩, ⟨#[105, 110, 116, 63]⟩, ⟨#[115, 116, 114, 63]⟩, ⟨#[98, 111, 111, 108, 63]⟩, ⟨#[108, 105, 115, 116, 63]⟩, ⟨#[113, 117, 111, 116, 63]⟩, ⟨#[98, 111, 120, 63]⟩, ⟨#[108, 101, 110, 103, 116, 104]⟩, ⟨#[97, 112, 112, 101, 110, 100]⟩, ⟨#[110, 116, 104]⟩, ⟨#[115, 108, 105, 99, 101]⟩, ⟨#[119, 114, 97, 112]⟩, ⟨#[112, 97, 105, 114]⟩, ⟨#[117, 110, 112, 97, 105, 114]⟩, ⟨#[114, 101, 118, 101, 114, 115, 101]⟩, ⟨#[99, 117, 114, 114, 121]⟩, ⟨#[99, 111, 109, 112, 111, 115, 101]⟩, ⟨#[62, 115, 116, 114]⟩, ⟨#[62, 105, 110, 116]⟩, ⟨#[99, 97, 108, 108]⟩, ⟨#[100, 105, 112]⟩, ⟨#[107, 101, 101, 112]⟩, ⟨#[105, 102]⟩, ⟨#[119, 104, 101, 110]⟩, ⟨#[116, 105, 109, 101, 115]⟩, ⟨#[101, 97, 99, 104]⟩, ⟨#[108, 111, 111, 112]⟩, ⟨#[98, 111, 120]⟩, ⟨#[103, 101, 116]⟩, ⟨#[112, 117, 116]⟩, ⟨#[46]⟩]
theorem nm_fields : (Lib.fields pmText.data.toList).map (fun l => Value.string ⟨l.toArray⟩) = pmNames.map Value.string := by kernel_rfl
theorem nm_len : (Lib.fields pmText.data.toList).length = 52 := by kernel_rfl
theorem nm_ascii : ∀ (j : Nat) b, pmText.data.toList[j]? = some b → b.toNat < 128 := by
  have h : pmText.data.toList.all (fun b => decide (b.toNat < 128)) = true := by kernel_rfl
  intro j b hb
  have := List.all_eq_true.1 h b (List.mem_of_getElem? hb)
  simpa using this
theorem fields_names (w : World) (h : As w) : Calls Tryz.prog 37 #[.string pmText] w fun e w' => e = .returned (.slice (some ⟨w.heap.size, 0, none⟩) 52 52) ∧ w' = w.alloc (.cells (pmNames.map Value.string).toArray 9) := by
  have := Any.strings_Fields Tryz.laysFields (by kernel_rfl) (by kernel_rfl) pmText w (of_decide_eq_true (by kernel_rfl)) nm_ascii h
  rw [nm_len, nm_fields] at this
  exact this
set_option maxRecDepth 100000 in
theorem names_any (w : World) (h : As w) : Calls Tryz.prog 16 #[] w fun e w' => e = .returned (.slice (some ⟨w.heap.size, 0, none⟩) 52 52) ∧ w' = w.alloc (.cells (pmNames.map Value.string).toArray 9) := by
  have HF : Hid _ := fields_names w h
  clear h
  go_enter Tryz.func16, Tryz.ntmps16
  go_wp2_with fail
  refine (show Calls Tryz.prog 37 _ _ _ from HF.out).mono ?_
  rintro e w1 ⟨rfl, hw⟩
  subst hw
  go_wp2
  go_ret
  exact ⟨rfl, rfl⟩
/-- is it a primitive's name? -/
def isB (s : ByteArray) : Bool := Lib.containsS pmNames s
set_option maxRecDepth 100000 in
theorem is_any (s : ByteArray) (w : World) (h : As w) : Calls Tryz.prog 18 #[.string s] w fun e w' => e = .returned (.bool (isB s)) ∧ Only (fun _ => False) w w' := by
  have HN : Hid _ := names_any w h
  obtain ⟨W, hW⟩ : ∃ W, W = w.alloc (.cells (pmNames.map Value.string).toArray 9) := ⟨_, rfl⟩
  have o1 : Only (fun _ => False) w W := by rw [hW]; exact (Only.refl _ w).alloc _
  have HC : Hid _ := Any.slices_Contains_string Tryz.laysContains w.heap.size 0 52 52 pmNames s W (by decide) (by omega) (fun j hj => by
    rw [hW, vblk_cells (valloc_at w _ _ rfl), Nat.zero_add, List.getElem?_toArray, List.getElem?_map, List.getD_eq_getElem?_getD, List.getElem?_eq_getElem hj]
    rfl)
  rw [← hW] at HN
  have HO : Hid (Only (fun _ => False) w W) := o1
  obtain ⟨Z, hZ⟩ : ∃ Z, Z = isB s := ⟨_, rfl⟩
  have HZ : Hid (Lib.containsS (pmNames.take 52) s = Z) := by rw [hZ]; exact rfl
  rw [← hZ]
  clear h hW o1 hZ
  go_enter Tryz.func18, Tryz.ntmps18
  go_wp2_with fail
  refine (show Calls Tryz.prog 16 _ _ _ from HN.out).mono ?_
  rintro e w1 ⟨rfl, hw⟩
  obtain rfl := hw.symm
  go_wp2_with fail
  refine (show Calls Tryz.prog 38 _ _ _ from HC.out).mono ?_
  rintro e w1 ⟨rfl, hw⟩
  obtain rfl := hw.symm
  rw [HZ.out]
  go_wp2
  go_ret
  exact ⟨rfl, HO.out⟩
end Go.Proofs.YtgnmedjknbbfhaaGreatDoor
namespace Go.Proofs.YtgnmedjknbbfhaaGreatDoor
open Go.RowKit Go.Lib
set_option linter.unusedSimpArgs false
set_option linter.unusedVariables false
set_option maxRecDepth 100000 in
theorem wt_0 : WtC ⟨#[100, 117, 112]⟩ [63] := by
  intro w
  have O0 : Hid (Only (fun _ => False) w w) := Only.refl _ _
  go_enter Tryz.func29, Tryz.ntmps29
  go_wp2
  go_ret2
  exact ⟨_, rfl, ints_new [63] _ w, O0.out.alloc _⟩
set_option maxRecDepth 100000 in
theorem mv_0 : MvC ⟨#[100, 117, 112]⟩ [0, 0] := by
  intro w
  have O0 : Hid (Only (fun _ => False) w w) := Only.refl _ _
  go_enter Tryz.func47, Tryz.ntmps47
  go_wp2
  go_ret2
  exact ⟨some ⟨_, 0, none⟩, _, rfl, fun j k hk => ⟨_, 0, rfl, by rw [Nat.zero_add]; exact ints_new [0, 0] _ w j k hk⟩, O0.out.alloc _⟩
set_option maxRecDepth 100000 in
theorem wt_5 : WtC ⟨#[110, 105, 112]⟩ [63, 63] := by
  intro w
  have O0 : Hid (Only (fun _ => False) w w) := Only.refl _ _
  go_enter Tryz.func29, Tryz.ntmps29
  go_wp2
  go_ret2
  exact ⟨_, rfl, ints_new [63, 63] _ w, O0.out.alloc _⟩
set_option maxRecDepth 100000 in
theorem mv_5 : MvC ⟨#[110, 105, 112]⟩ [1] := by
  intro w
  have O0 : Hid (Only (fun _ => False) w w) := Only.refl _ _
  go_enter Tryz.func47, Tryz.ntmps47
  go_wp2
  go_ret2
  exact ⟨some ⟨_, 0, none⟩, _, rfl, fun j k hk => ⟨_, 0, rfl, by rw [Nat.zero_add]; exact ints_new [1] _ w j k hk⟩, O0.out.alloc _⟩
set_option maxRecDepth 100000 in
theorem wt_10 : WtC ⟨#[47]⟩ [1, 1] := by
  intro w
  have O0 : Hid (Only (fun _ => False) w w) := Only.refl _ _
  go_enter Tryz.func29, Tryz.ntmps29
  go_wp2
  go_ret2
  exact ⟨_, rfl, ints_new [1, 1] _ w, O0.out.alloc _⟩
set_option maxRecDepth 100000 in
theorem mn_10 : MnC ⟨#[47]⟩ := by
  intro w
  go_enter Tryz.func47, Tryz.ntmps47
  go_wp2
  go_ret2
  exact ⟨rfl, rfl⟩
set_option maxRecDepth 100000 in
theorem wt_15 : WtC ⟨#[109, 97, 120]⟩ [1, 1] := by
  intro w
  have O0 : Hid (Only (fun _ => False) w w) := Only.refl _ _
  go_enter Tryz.func29, Tryz.ntmps29
  go_wp2
  go_ret2
  exact ⟨_, rfl, ints_new [1, 1] _ w, O0.out.alloc _⟩
set_option maxRecDepth 100000 in
theorem mn_15 : MnC ⟨#[109, 97, 120]⟩ := by
  intro w
  go_enter Tryz.func47, Tryz.ntmps47
  go_wp2
  go_ret2
  exact ⟨rfl, rfl⟩
set_option maxRecDepth 100000 in
theorem wt_20 : WtC ⟨#[111, 114]⟩ [4, 4] := by
  intro w
  have O0 : Hid (Only (fun _ => False) w w) := Only.refl _ _
  go_enter Tryz.func29, Tryz.ntmps29
  go_wp2
  go_ret2
  exact ⟨_, rfl, ints_new [4, 4] _ w, O0.out.alloc _⟩
set_option maxRecDepth 100000 in
theorem mn_20 : MnC ⟨#[111, 114]⟩ := by
  intro w
  go_enter Tryz.func47, Tryz.ntmps47
  go_wp2
  go_ret2
  exact ⟨rfl, rfl⟩
set_option maxRecDepth 100000 in
theorem wt_25 : WtC ⟨#[108, 105, 115, 116, 63]⟩ [63] := by
  intro w
  have O0 : Hid (Only (fun _ => False) w w) := Only.refl _ _
  go_enter Tryz.func29, Tryz.ntmps29
  go_wp2
  go_ret2
  exact ⟨_, rfl, ints_new [63] _ w, O0.out.alloc _⟩
set_option maxRecDepth 100000 in
theorem mn_25 : MnC ⟨#[108, 105, 115, 116, 63]⟩ := by
  intro w
  go_enter Tryz.func47, Tryz.ntmps47
  go_wp2
  go_ret2
  exact ⟨rfl, rfl⟩
set_option maxRecDepth 100000 in
theorem wt_30 : WtC ⟨#[110, 116, 104]⟩ [1, 10] := by
  intro w
  have O0 : Hid (Only (fun _ => False) w w) := Only.refl _ _
  go_enter Tryz.func29, Tryz.ntmps29
  go_wp2
  go_ret2
  exact ⟨_, rfl, ints_new [1, 10] _ w, O0.out.alloc _⟩
set_option maxRecDepth 100000 in
theorem mn_30 : MnC ⟨#[110, 116, 104]⟩ := by
  intro w
  go_enter Tryz.func47, Tryz.ntmps47
  go_wp2
  go_ret2
  exact ⟨rfl, rfl⟩
set_option maxRecDepth 100000 in
theorem wt_35 : WtC ⟨#[114, 101, 118, 101, 114, 115, 101]⟩ [10] := by
  intro w
  have O0 : Hid (Only (fun _ => False) w w) := Only.refl _ _
  go_enter Tryz.func29, Tryz.ntmps29
  go_wp2
  go_ret2
  exact ⟨_, rfl, ints_new [10] _ w, O0.out.alloc _⟩
set_option maxRecDepth 100000 in
theorem mn_35 : MnC ⟨#[114, 101, 118, 101, 114, 115, 101]⟩ := by
  intro w
  go_enter Tryz.func47, Tryz.ntmps47
  go_wp2
  go_ret2
  exact ⟨rfl, rfl⟩
end Go.Proofs.YtgnmedjknbbfhaaGreatDoor
namespace Go.Proofs.YtgnmedjknbbfhaaGreatDoor
open Go.RowKit Go.Lib
set_option linter.unusedSimpArgs false
set_option linter.unusedVariables false
set_option maxRecDepth 100000 in
theorem wt_1 : WtC ⟨#[100, 114, 111, 112]⟩ [63] := by
  intro w
  have O0 : Hid (Only (fun _ => False) w w) := Only.refl _ _
  go_enter Tryz.func29, Tryz.ntmps29
  go_wp2
  go_ret2
  exact ⟨_, rfl, ints_new [63] _ w, O0.out.alloc _⟩
set_option maxRecDepth 100000 in
theorem mv_1 : MvC ⟨#[100, 114, 111, 112]⟩ [] := by
  intro w
  have O0 : Hid (Only (fun _ => False) w w) := Only.refl _ _
  go_enter Tryz.func47, Tryz.ntmps47
  go_wp2
  go_ret2
  exact ⟨none, 0, rfl, fun j k hk => by simp at hk, O0.out⟩
set_option maxRecDepth 100000 in
theorem wt_6 : WtC ⟨#[116, 117, 99, 107]⟩ [63, 63] := by
  intro w
  have O0 : Hid (Only (fun _ => False) w w) := Only.refl _ _
  go_enter Tryz.func29, Tryz.ntmps29
  go_wp2
  go_ret2
  exact ⟨_, rfl, ints_new [63, 63] _ w, O0.out.alloc _⟩
set_option maxRecDepth 100000 in
theorem mv_6 : MvC ⟨#[116, 117, 99, 107]⟩ [1, 0, 1] := by
  intro w
  have O0 : Hid (Only (fun _ => False) w w) := Only.refl _ _
  go_enter Tryz.func47, Tryz.ntmps47
  go_wp2
  go_ret2
  exact ⟨some ⟨_, 0, none⟩, _, rfl, fun j k hk => ⟨_, 0, rfl, by rw [Nat.zero_add]; exact ints_new [1, 0, 1] _ w j k hk⟩, O0.out.alloc _⟩
set_option maxRecDepth 100000 in
theorem wt_11 : WtC ⟨#[109, 111, 100]⟩ [1, 1] := by
  intro w
  have O0 : Hid (Only (fun _ => False) w w) := Only.refl _ _
  go_enter Tryz.func29, Tryz.ntmps29
  go_wp2
  go_ret2
  exact ⟨_, rfl, ints_new [1, 1] _ w, O0.out.alloc _⟩
set_option maxRecDepth 100000 in
theorem mn_11 : MnC ⟨#[109, 111, 100]⟩ := by
  intro w
  go_enter Tryz.func47, Tryz.ntmps47
  go_wp2
  go_ret2
  exact ⟨rfl, rfl⟩
set_option maxRecDepth 100000 in
theorem wt_16 : WtC ⟨#[60]⟩ [1, 1] := by
  intro w
  have O0 : Hid (Only (fun _ => False) w w) := Only.refl _ _
  go_enter Tryz.func29, Tryz.ntmps29
  go_wp2
  go_ret2
  exact ⟨_, rfl, ints_new [1, 1] _ w, O0.out.alloc _⟩
set_option maxRecDepth 100000 in
theorem mn_16 : MnC ⟨#[60]⟩ := by
  intro w
  go_enter Tryz.func47, Tryz.ntmps47
  go_wp2
  go_ret2
  exact ⟨rfl, rfl⟩
set_option maxRecDepth 100000 in
theorem wt_21 : WtC ⟨#[110, 111, 116]⟩ [4] := by
  intro w
  have O0 : Hid (Only (fun _ => False) w w) := Only.refl _ _
  go_enter Tryz.func29, Tryz.ntmps29
  go_wp2
  go_ret2
  exact ⟨_, rfl, ints_new [4] _ w, O0.out.alloc _⟩
set_option maxRecDepth 100000 in
theorem mn_21 : MnC ⟨#[110, 111, 116]⟩ := by
  intro w
  go_enter Tryz.func47, Tryz.ntmps47
  go_wp2
  go_ret2
  exact ⟨rfl, rfl⟩
set_option maxRecDepth 100000 in
theorem wt_26 : WtC ⟨#[113, 117, 111, 116, 63]⟩ [63] := by
  intro w
  have O0 : Hid (Only (fun _ => False) w w) := Only.refl _ _
  go_enter Tryz.func29, Tryz.ntmps29
  go_wp2
  go_ret2
  exact ⟨_, rfl, ints_new [63] _ w, O0.out.alloc _⟩
set_option maxRecDepth 100000 in
theorem mn_26 : MnC ⟨#[113, 117, 111, 116, 63]⟩ := by
  intro w
  go_enter Tryz.func47, Tryz.ntmps47
  go_wp2
  go_ret2
  exact ⟨rfl, rfl⟩
set_option maxRecDepth 100000 in
theorem wt_31 : WtC ⟨#[115, 108, 105, 99, 101]⟩ [1, 1, 10] := by
  intro w
  have O0 : Hid (Only (fun _ => False) w w) := Only.refl _ _
  go_enter Tryz.func29, Tryz.ntmps29
  go_wp2
  go_ret2
  exact ⟨_, rfl, ints_new [1, 1, 10] _ w, O0.out.alloc _⟩
set_option maxRecDepth 100000 in
theorem mn_31 : MnC ⟨#[115, 108, 105, 99, 101]⟩ := by
  intro w
  go_enter Tryz.func47, Tryz.ntmps47
  go_wp2
  go_ret2
  exact ⟨rfl, rfl⟩
set_option maxRecDepth 100000 in
theorem wt_36 : WtC ⟨#[99, 117, 114, 114, 121]⟩ [63, 16] := by
  intro w
  have O0 : Hid (Only (fun _ => False) w w) := Only.refl _ _
  go_enter Tryz.func29, Tryz.ntmps29
  go_wp2
  go_ret2
  exact ⟨_, rfl, ints_new [63, 16] _ w, O0.out.alloc _⟩
set_option maxRecDepth 100000 in
theorem mn_36 : MnC ⟨#[99, 117, 114, 114, 121]⟩ := by
  intro w
  go_enter Tryz.func47, Tryz.ntmps47
  go_wp2
  go_ret2
  exact ⟨rfl, rfl⟩
end Go.Proofs.YtgnmedjknbbfhaaGreatDoor
namespace Go.Proofs.YtgnmedjknbbfhaaGreatDoor
open Go.RowKit Go.Lib
set_option linter.unusedSimpArgs false
set_option linter.unusedVariables false
set_option maxRecDepth 100000 in
theorem wt_2 : WtC ⟨#[115, 119, 97, 112]⟩ [63, 63] := by
  intro w
  have O0 : Hid (Only (fun _ => False) w w) := Only.refl _ _
  go_enter Tryz.func29, Tryz.ntmps29
  go_wp2
  go_ret2
  exact ⟨_, rfl, ints_new [63, 63] _ w, O0.out.alloc _⟩
set_option maxRecDepth 100000 in
theorem mv_2 : MvC ⟨#[115, 119, 97, 112]⟩ [1, 0] := by
  intro w
  have O0 : Hid (Only (fun _ => False) w w) := Only.refl _ _
  go_enter Tryz.func47, Tryz.ntmps47
  go_wp2
  go_ret2
  exact ⟨some ⟨_, 0, none⟩, _, rfl, fun j k hk => ⟨_, 0, rfl, by rw [Nat.zero_add]; exact ints_new [1, 0] _ w j k hk⟩, O0.out.alloc _⟩
set_option maxRecDepth 100000 in
theorem wt_7 : WtC ⟨#[43]⟩ [1, 1] := by
  intro w
  have O0 : Hid (Only (fun _ => False) w w) := Only.refl _ _
  go_enter Tryz.func29, Tryz.ntmps29
  go_wp2
  go_ret2
  exact ⟨_, rfl, ints_new [1, 1] _ w, O0.out.alloc _⟩
set_option maxRecDepth 100000 in
theorem mn_7 : MnC ⟨#[43]⟩ := by
  intro w
  go_enter Tryz.func47, Tryz.ntmps47
  go_wp2
  go_ret2
  exact ⟨rfl, rfl⟩
set_option maxRecDepth 100000 in
theorem wt_12 : WtC ⟨#[110, 101, 103]⟩ [1] := by
  intro w
  have O0 : Hid (Only (fun _ => False) w w) := Only.refl _ _
  go_enter Tryz.func29, Tryz.ntmps29
  go_wp2
  go_ret2
  exact ⟨_, rfl, ints_new [1] _ w, O0.out.alloc _⟩
set_option maxRecDepth 100000 in
theorem mn_12 : MnC ⟨#[110, 101, 103]⟩ := by
  intro w
  go_enter Tryz.func47, Tryz.ntmps47
  go_wp2
  go_ret2
  exact ⟨rfl, rfl⟩
set_option maxRecDepth 100000 in
theorem wt_17 : WtC ⟨#[62]⟩ [1, 1] := by
  intro w
  have O0 : Hid (Only (fun _ => False) w w) := Only.refl _ _
  go_enter Tryz.func29, Tryz.ntmps29
  go_wp2
  go_ret2
  exact ⟨_, rfl, ints_new [1, 1] _ w, O0.out.alloc _⟩
set_option maxRecDepth 100000 in
theorem mn_17 : MnC ⟨#[62]⟩ := by
  intro w
  go_enter Tryz.func47, Tryz.ntmps47
  go_wp2
  go_ret2
  exact ⟨rfl, rfl⟩
set_option maxRecDepth 100000 in
theorem wt_22 : WtC ⟨#[105, 110, 116, 63]⟩ [63] := by
  intro w
  have O0 : Hid (Only (fun _ => False) w w) := Only.refl _ _
  go_enter Tryz.func29, Tryz.ntmps29
  go_wp2
  go_ret2
  exact ⟨_, rfl, ints_new [63] _ w, O0.out.alloc _⟩
set_option maxRecDepth 100000 in
theorem mn_22 : MnC ⟨#[105, 110, 116, 63]⟩ := by
  intro w
  go_enter Tryz.func47, Tryz.ntmps47
  go_wp2
  go_ret2
  exact ⟨rfl, rfl⟩
set_option maxRecDepth 100000 in
theorem wt_27 : WtC ⟨#[98, 111, 120, 63]⟩ [63] := by
  intro w
  have O0 : Hid (Only (fun _ => False) w w) := Only.refl _ _
  go_enter Tryz.func29, Tryz.ntmps29
  go_wp2
  go_ret2
  exact ⟨_, rfl, ints_new [63] _ w, O0.out.alloc _⟩
set_option maxRecDepth 100000 in
theorem mn_27 : MnC ⟨#[98, 111, 120, 63]⟩ := by
  intro w
  go_enter Tryz.func47, Tryz.ntmps47
  go_wp2
  go_ret2
  exact ⟨rfl, rfl⟩
set_option maxRecDepth 100000 in
theorem wt_32 : WtC ⟨#[119, 114, 97, 112]⟩ [63] := by
  intro w
  have O0 : Hid (Only (fun _ => False) w w) := Only.refl _ _
  go_enter Tryz.func29, Tryz.ntmps29
  go_wp2
  go_ret2
  exact ⟨_, rfl, ints_new [63] _ w, O0.out.alloc _⟩
set_option maxRecDepth 100000 in
theorem mn_32 : MnC ⟨#[119, 114, 97, 112]⟩ := by
  intro w
  go_enter Tryz.func47, Tryz.ntmps47
  go_wp2
  go_ret2
  exact ⟨rfl, rfl⟩
set_option maxRecDepth 100000 in
theorem wt_37 : WtC ⟨#[99, 111, 109, 112, 111, 115, 101]⟩ [16, 16] := by
  intro w
  have O0 : Hid (Only (fun _ => False) w w) := Only.refl _ _
  go_enter Tryz.func29, Tryz.ntmps29
  go_wp2
  go_ret2
  exact ⟨_, rfl, ints_new [16, 16] _ w, O0.out.alloc _⟩
set_option maxRecDepth 100000 in
theorem mn_37 : MnC ⟨#[99, 111, 109, 112, 111, 115, 101]⟩ := by
  intro w
  go_enter Tryz.func47, Tryz.ntmps47
  go_wp2
  go_ret2
  exact ⟨rfl, rfl⟩
end Go.Proofs.YtgnmedjknbbfhaaGreatDoor
namespace Go.Proofs.YtgnmedjknbbfhaaGreatDoor
open Go.RowKit Go.Lib
set_option linter.unusedSimpArgs false
set_option linter.unusedVariables false
set_option maxRecDepth 100000 in
theorem wt_3 : WtC ⟨#[111, 118, 101, 114]⟩ [63, 63] := by
  intro w
  have O0 : Hid (Only (fun _ => False) w w) := Only.refl _ _
  go_enter Tryz.func29, Tryz.ntmps29
  go_wp2
  go_ret2
  exact ⟨_, rfl, ints_new [63, 63] _ w, O0.out.alloc _⟩
set_option maxRecDepth 100000 in
theorem mv_3 : MvC ⟨#[111, 118, 101, 114]⟩ [0, 1, 0] := by
  intro w
  have O0 : Hid (Only (fun _ => False) w w) := Only.refl _ _
  go_enter Tryz.func47, Tryz.ntmps47
  go_wp2
  go_ret2
  exact ⟨some ⟨_, 0, none⟩, _, rfl, fun j k hk => ⟨_, 0, rfl, by rw [Nat.zero_add]; exact ints_new [0, 1, 0] _ w j k hk⟩, O0.out.alloc _⟩
set_option maxRecDepth 100000 in
theorem wt_8 : WtC ⟨#[45]⟩ [1, 1] := by
  intro w
  have O0 : Hid (Only (fun _ => False) w w) := Only.refl _ _
  go_enter Tryz.func29, Tryz.ntmps29
  go_wp2
  go_ret2
  exact ⟨_, rfl, ints_new [1, 1] _ w, O0.out.alloc _⟩
set_option maxRecDepth 100000 in
theorem mn_8 : MnC ⟨#[45]⟩ := by
  intro w
  go_enter Tryz.func47, Tryz.ntmps47
  go_wp2
  go_ret2
  exact ⟨rfl, rfl⟩
set_option maxRecDepth 100000 in
theorem wt_13 : WtC ⟨#[97, 98, 115]⟩ [1] := by
  intro w
  have O0 : Hid (Only (fun _ => False) w w) := Only.refl _ _
  go_enter Tryz.func29, Tryz.ntmps29
  go_wp2
  go_ret2
  exact ⟨_, rfl, ints_new [1] _ w, O0.out.alloc _⟩
set_option maxRecDepth 100000 in
theorem mn_13 : MnC ⟨#[97, 98, 115]⟩ := by
  intro w
  go_enter Tryz.func47, Tryz.ntmps47
  go_wp2
  go_ret2
  exact ⟨rfl, rfl⟩
set_option maxRecDepth 100000 in
theorem wt_18 : WtC ⟨#[61]⟩ [63, 63] := by
  intro w
  have O0 : Hid (Only (fun _ => False) w w) := Only.refl _ _
  go_enter Tryz.func29, Tryz.ntmps29
  go_wp2
  go_ret2
  exact ⟨_, rfl, ints_new [63, 63] _ w, O0.out.alloc _⟩
set_option maxRecDepth 100000 in
theorem mn_18 : MnC ⟨#[61]⟩ := by
  intro w
  go_enter Tryz.func47, Tryz.ntmps47
  go_wp2
  go_ret2
  exact ⟨rfl, rfl⟩
set_option maxRecDepth 100000 in
theorem wt_23 : WtC ⟨#[115, 116, 114, 63]⟩ [63] := by
  intro w
  have O0 : Hid (Only (fun _ => False) w w) := Only.refl _ _
  go_enter Tryz.func29, Tryz.ntmps29
  go_wp2
  go_ret2
  exact ⟨_, rfl, ints_new [63] _ w, O0.out.alloc _⟩
set_option maxRecDepth 100000 in
theorem mn_23 : MnC ⟨#[115, 116, 114, 63]⟩ := by
  intro w
  go_enter Tryz.func47, Tryz.ntmps47
  go_wp2
  go_ret2
  exact ⟨rfl, rfl⟩
set_option maxRecDepth 100000 in
theorem wt_28 : WtC ⟨#[108, 101, 110, 103, 116, 104]⟩ [26] := by
  intro w
  have O0 : Hid (Only (fun _ => False) w w) := Only.refl _ _
  go_enter Tryz.func29, Tryz.ntmps29
  go_wp2
  go_ret2
  exact ⟨_, rfl, ints_new [26] _ w, O0.out.alloc _⟩
set_option maxRecDepth 100000 in
theorem mn_28 : MnC ⟨#[108, 101, 110, 103, 116, 104]⟩ := by
  intro w
  go_enter Tryz.func47, Tryz.ntmps47
  go_wp2
  go_ret2
  exact ⟨rfl, rfl⟩
set_option maxRecDepth 100000 in
theorem wt_33 : WtC ⟨#[112, 97, 105, 114]⟩ [63, 63] := by
  intro w
  have O0 : Hid (Only (fun _ => False) w w) := Only.refl _ _
  go_enter Tryz.func29, Tryz.ntmps29
  go_wp2
  go_ret2
  exact ⟨_, rfl, ints_new [63, 63] _ w, O0.out.alloc _⟩
set_option maxRecDepth 100000 in
theorem mn_33 : MnC ⟨#[112, 97, 105, 114]⟩ := by
  intro w
  go_enter Tryz.func47, Tryz.ntmps47
  go_wp2
  go_ret2
  exact ⟨rfl, rfl⟩
set_option maxRecDepth 100000 in
theorem wt_38 : WtC ⟨#[62, 115, 116, 114]⟩ [63] := by
  intro w
  have O0 : Hid (Only (fun _ => False) w w) := Only.refl _ _
  go_enter Tryz.func29, Tryz.ntmps29
  go_wp2
  go_ret2
  exact ⟨_, rfl, ints_new [63] _ w, O0.out.alloc _⟩
set_option maxRecDepth 100000 in
theorem mn_38 : MnC ⟨#[62, 115, 116, 114]⟩ := by
  intro w
  go_enter Tryz.func47, Tryz.ntmps47
  go_wp2
  go_ret2
  exact ⟨rfl, rfl⟩
end Go.Proofs.YtgnmedjknbbfhaaGreatDoor
namespace Go.Proofs.YtgnmedjknbbfhaaGreatDoor
open Go.RowKit Go.Lib
set_option linter.unusedSimpArgs false
set_option linter.unusedVariables false
set_option maxRecDepth 100000 in
theorem wt_4 : WtC ⟨#[114, 111, 116]⟩ [63, 63, 63] := by
  intro w
  have O0 : Hid (Only (fun _ => False) w w) := Only.refl _ _
  go_enter Tryz.func29, Tryz.ntmps29
  go_wp2
  go_ret2
  exact ⟨_, rfl, ints_new [63, 63, 63] _ w, O0.out.alloc _⟩
set_option maxRecDepth 100000 in
theorem mv_4 : MvC ⟨#[114, 111, 116]⟩ [1, 2, 0] := by
  intro w
  have O0 : Hid (Only (fun _ => False) w w) := Only.refl _ _
  go_enter Tryz.func47, Tryz.ntmps47
  go_wp2
  go_ret2
  exact ⟨some ⟨_, 0, none⟩, _, rfl, fun j k hk => ⟨_, 0, rfl, by rw [Nat.zero_add]; exact ints_new [1, 2, 0] _ w j k hk⟩, O0.out.alloc _⟩
set_option maxRecDepth 100000 in
theorem wt_9 : WtC ⟨#[42]⟩ [1, 1] := by
  intro w
  have O0 : Hid (Only (fun _ => False) w w) := Only.refl _ _
  go_enter Tryz.func29, Tryz.ntmps29
  go_wp2
  go_ret2
  exact ⟨_, rfl, ints_new [1, 1] _ w, O0.out.alloc _⟩
set_option maxRecDepth 100000 in
theorem mn_9 : MnC ⟨#[42]⟩ := by
  intro w
  go_enter Tryz.func47, Tryz.ntmps47
  go_wp2
  go_ret2
  exact ⟨rfl, rfl⟩
set_option maxRecDepth 100000 in
theorem wt_14 : WtC ⟨#[109, 105, 110]⟩ [1, 1] := by
  intro w
  have O0 : Hid (Only (fun _ => False) w w) := Only.refl _ _
  go_enter Tryz.func29, Tryz.ntmps29
  go_wp2
  go_ret2
  exact ⟨_, rfl, ints_new [1, 1] _ w, O0.out.alloc _⟩
set_option maxRecDepth 100000 in
theorem mn_14 : MnC ⟨#[109, 105, 110]⟩ := by
  intro w
  go_enter Tryz.func47, Tryz.ntmps47
  go_wp2
  go_ret2
  exact ⟨rfl, rfl⟩
set_option maxRecDepth 100000 in
theorem wt_19 : WtC ⟨#[97, 110, 100]⟩ [4, 4] := by
  intro w
  have O0 : Hid (Only (fun _ => False) w w) := Only.refl _ _
  go_enter Tryz.func29, Tryz.ntmps29
  go_wp2
  go_ret2
  exact ⟨_, rfl, ints_new [4, 4] _ w, O0.out.alloc _⟩
set_option maxRecDepth 100000 in
theorem mn_19 : MnC ⟨#[97, 110, 100]⟩ := by
  intro w
  go_enter Tryz.func47, Tryz.ntmps47
  go_wp2
  go_ret2
  exact ⟨rfl, rfl⟩
set_option maxRecDepth 100000 in
theorem wt_24 : WtC ⟨#[98, 111, 111, 108, 63]⟩ [63] := by
  intro w
  have O0 : Hid (Only (fun _ => False) w w) := Only.refl _ _
  go_enter Tryz.func29, Tryz.ntmps29
  go_wp2
  go_ret2
  exact ⟨_, rfl, ints_new [63] _ w, O0.out.alloc _⟩
set_option maxRecDepth 100000 in
theorem mn_24 : MnC ⟨#[98, 111, 111, 108, 63]⟩ := by
  intro w
  go_enter Tryz.func47, Tryz.ntmps47
  go_wp2
  go_ret2
  exact ⟨rfl, rfl⟩
set_option maxRecDepth 100000 in
theorem wt_29 : WtC ⟨#[97, 112, 112, 101, 110, 100]⟩ [26, 26] := by
  intro w
  have O0 : Hid (Only (fun _ => False) w w) := Only.refl _ _
  go_enter Tryz.func29, Tryz.ntmps29
  go_wp2
  go_ret2
  exact ⟨_, rfl, ints_new [26, 26] _ w, O0.out.alloc _⟩
set_option maxRecDepth 100000 in
theorem mn_29 : MnC ⟨#[97, 112, 112, 101, 110, 100]⟩ := by
  intro w
  go_enter Tryz.func47, Tryz.ntmps47
  go_wp2
  go_ret2
  exact ⟨rfl, rfl⟩
set_option maxRecDepth 100000 in
theorem wt_34 : WtC ⟨#[117, 110, 112, 97, 105, 114]⟩ [8] := by
  intro w
  have O0 : Hid (Only (fun _ => False) w w) := Only.refl _ _
  go_enter Tryz.func29, Tryz.ntmps29
  go_wp2
  go_ret2
  exact ⟨_, rfl, ints_new [8] _ w, O0.out.alloc _⟩
set_option maxRecDepth 100000 in
theorem mn_34 : MnC ⟨#[117, 110, 112, 97, 105, 114]⟩ := by
  intro w
  go_enter Tryz.func47, Tryz.ntmps47
  go_wp2
  go_ret2
  exact ⟨rfl, rfl⟩
set_option maxRecDepth 100000 in
theorem wt_39 : WtC ⟨#[62, 105, 110, 116]⟩ [2] := by
  intro w
  have O0 : Hid (Only (fun _ => False) w w) := Only.refl _ _
  go_enter Tryz.func29, Tryz.ntmps29
  go_wp2
  go_ret2
  exact ⟨_, rfl, ints_new [2] _ w, O0.out.alloc _⟩
set_option maxRecDepth 100000 in
theorem mn_39 : MnC ⟨#[62, 105, 110, 116]⟩ := by
  intro w
  go_enter Tryz.func47, Tryz.ntmps47
  go_wp2
  go_ret2
  exact ⟨rfl, rfl⟩
end Go.Proofs.YtgnmedjknbbfhaaGreatDoor
namespace Go.Proofs.YtgnmedjknbbfhaaGreatDoor
open Go.RowKit
set_option linter.unusedSimpArgs false
set_option linter.unusedVariables false
set_option maxRecDepth 100000 in
theorem uv_info : ∃ i z, Tryz.prog.info? 45 = some i ∧ i.zero = some z ∧ i.size = 4 ∧ i.bytes = 56 ∧ z.cells.size = 4 := ⟨_, _, rfl, rfl, rfl, rfl, rfl⟩
set_option maxRecDepth 100000 in
set_option maxHeartbeats 4000000 in
theorem utrees_of (d : Nat) (H : TuE d 26 false) : TuS d 10 false := by
  intro v l w S hq hl hw
  obtain ⟨av, cv, rfl, hcv, hel⟩ := hq
  have HE : Hid (∀ (j : Nat) (x : Vt), l[j]? = some x → ∃ g k u, av = some ⟨g, k, none⟩ ∧ w.cell? ⟨g, k + j, none⟩ = some u ∧ ∀ w1, Only (fun _ => False) w w1 → Calls Tryz.prog 26 #[u] w1 fun e w' => ∃ lv, e = .returned (.agg #[.int .i64 x.k, .int .i64 (x.n), .string (x.s), lv]) ∧ Hid (NuAt w' w1.heap.size d x lv ∧ Only (fun _ => False) w1 w')) := by
    intro j x hx
    obtain ⟨g, k, u, ha, hg, hc, ht⟩ := hel j x hx
    exact ⟨g, k, u, ha, hc, fun w1 o1 => H u x w1 S (ht.step (fun _ g => g) (fun a u _ hc => o1.cell hc (fun g => g)) (Nat.le_refl _)) (hw x (List.mem_of_getElem? hx))⟩
  have HLB : Hid (l.length ≤ 1048576) := hl
  clear hcv hel hl hw H
  obtain ⟨N, hN⟩ : ∃ N, N = l.length := ⟨_, rfl⟩
  have HNN : Hid (N = l.length) := hN
  rw [← hN]
  clear hN
  go_enter Tryz.func10, Tryz.ntmps10
  go_wp2
  go_loopw [3, 4] (fun r3 r4 wr => ∃ (i : Nat) (ao : Option Addr) (cap : Nat), r3 = .slice ao i cap ∧ r4 = .int .i64 (i : Int) ∧ i ≤ N ∧ Hid (UrAt wr w.heap.size d (.slice ao i cap) (l.take i) ∧ Only (fun _ => False) w wr)) (fun _ r4 _ => N - vuOf r4)
  case atStart => exact ⟨0, none, 0, rfl, rfl, Nat.zero_le _, ur_nil _ _ _, Only.refl _ _⟩
  case round =>
    obtain ⟨i, ao, cap, rfl, rfl, hi, HI⟩ := hrel
    obtain ⟨w1, rfl⟩ : ∃ w1, w1 = wr := ⟨_, rfl⟩
    have hNl : N = l.length := HNN.out
    have hN4 : l.length ≤ 1048576 := HLB.out
    by_cases hiN : i < N
    · obtain ⟨x, hx⟩ : ∃ x, l[i]? = some x := ⟨l[i]'(by omega), List.getElem?_eq_getElem (by omega)⟩
      obtain ⟨g, k, u, rfl, hc, hcall⟩ := HE.out i x hx
      have hc1 : w1.cell? ⟨g, k + i, none⟩ = some u := HI.out.2.cell hc (fun g => g)
      have HC : Hid (Calls Tryz.prog 26 #[u] w1 fun e w' => ∃ lv, e = .returned (.agg #[.int .i64 x.k, .int .i64 (x.n), .string (x.s), lv]) ∧ Hid (NuAt w' w1.heap.size d x lv ∧ Only (fun _ => False) w1 w')) := hcall w1 HI.out.2
      have HX : Hid (l.take i ++ [x] = l.take (i + 1) ∧ (l.take i).length = i) := by
        have hil : i < l.length := by omega
        refine ⟨?_, by simp; omega⟩
        rw [List.take_add_one, hx]
        rfl
      have HB : Hid (i < N ∧ N ≤ 1048576) := ⟨hiN, by omega⟩
      have i1 : (i : Int) < (N : Int) := by omega
      have i0 : (0 : Int) ≤ (i : Int) := by omega
      clear hc hcall HE hNl hN4 hx
      obtain ⟨x0, hx0⟩ : ∃ x0, x0 = x.k := ⟨_, rfl⟩
      obtain ⟨x1, hx1⟩ : ∃ x1, x1 = x.n := ⟨_, rfl⟩
      obtain ⟨x2, hx2⟩ : ∃ x2, x2 = x.s := ⟨_, rfl⟩
      have HXX : Hid (x0 = x.k ∧ x1 = x.n ∧ x2 = x.s) := ⟨hx0, hx1, hx2⟩
      rw [← hx0, ← hx1, ← hx2] at HC
      clear hx0 hx1 hx2
      go_wp2_with fail
      refine (show Calls Tryz.prog 26 _ _ _ from HC.out).mono ?_
      rintro e w2 ⟨lv, rfl, g2⟩
      obtain ⟨al, cl, hlv⟩ := g2.out.1.form
      have W4 : UrAt (w2.alloc (.cells #[.int .i64 x0, .int .i64 x1, .string x2, lv] 45)) w.heap.size d (.slice ao i cap) (l.take i) := (HI.out.1.only g2.out.2 (fun _ _ h => h)).only ((Only.refl (fun _ => False) w2).alloc _) (fun _ _ h => h)
      have N4 : NuAt (w2.alloc (.cells #[.int .i64 x0, .int .i64 x1, .string x2, lv] 45)) w1.heap.size d x lv := g2.out.1.only ((Only.refl (fun _ => False) w2).alloc _) (fun _ _ h => h)
      have O4 : Only (fun _ => False) w (w2.alloc (.cells #[.int .i64 x0, .int .i64 x1, .string x2, lv] 45)) := (HI.out.2.trans g2.out.2 (fun _ _ g => g)).alloc _
      have hlt : ∀ k, (Value.slice ao i cap).ownBlock = some k → k < w1.heap.size := fun k hk => by
        obtain ⟨us, S', hr, _⟩ := HI.out.1
        exact (hr.lt k hk).2
      have hsz1 : w.heap.size ≤ w1.heap.size := HI.out.2.size
      have hsz2 : w1.heap.size ≤ w2.heap.size := g2.out.2.size
      obtain ⟨us, SS, hown, htr, hSS⟩ := W4
      rw [HX.out.2] at hown
      have HOW : Hid ((w2.alloc (.cells #[.int .i64 x0, .int .i64 x1, .string x2, lv] 45)).ownsRow w.heap.size 45 4 (.slice ao i cap) i us) := hown
      have HAL : Hid (_ ∧ _ ∧ NuAt (w2.alloc (.cells #[.int .i64 x0, .int .i64 x1, .string x2, lv] 45)) w1.heap.size d x lv ∧ Only (fun _ => False) w (w2.alloc (.cells #[.int .i64 x0, .int .i64 x1, .string x2, lv] 45)) ∧ w.heap.size ≤ w1.heap.size ∧ (∀ k, (Value.slice ao i cap).ownBlock = some k → k < w1.heap.size)) := ⟨htr, hSS, N4, O4, hsz1, hlt⟩
      subst hlv
      obtain ⟨i0', z0, hi', hz0, hz1, hz2, hz3⟩ := uv_info
      obtain ⟨xl, hxl⟩ : ∃ xl, xl = x.l.length := ⟨_, rfl⟩
      rw [← hxl] at HOW HAL
      rw [← hxl]
      clear N4 O4 hown htr hSS hlt g2 HI HC hxl
      go_wp2_with (at_builtin; refine wpList_append_own_at _ rfl _ _ 22 rfl w.heap.size 45 i0' z0 4 56 Tryz.underlying22 hi' hz0 hz1 hz2 hz3 (by decide) _ i us rfl HOW.out ⟨w2.heap.size, 0, none⟩ 1 1 [.int .i64 x0, .int .i64 x1, .string x2, .slice al xl cl] rfl rfl ?c1 ?c2 ?c3 ?c4 ?c5 ?_)
      case c1 =>
        intro j u hj
        rcases j with _ | _ | _ | _ | j <;> simp at hj <;> subst hj <;> simp [Addr.add]
      case c2 =>
        intro u hu
        simp only [List.mem_cons, List.not_mem_nil, or_false] at hu
        rcases hu with rfl | rfl | rfl | rfl <;> rfl
      case c3 => have := HB.out; unfold maxLen; omega
      case c4 => have := HB.out; omega
      case c5 => simp; omega
      intro v' w4 hown' hgrow _ hat
      obtain ⟨a1, a2, a3, a4, a5, a6⟩ := HAL.out
      obtain ⟨e0, e1, e2⟩ := HXX.out
      have W5 : UrAt w4 w.heap.size d v' (l.take i ++ [x]) := UrAt.snoc hgrow (by rw [HX.out.2]; exact HOW.out) a1 a2 a3 a5 a6 (by rw [HX.out.2, ← e0, ← e1, ← e2]; exact hown') (by simpa using hat)
      rw [HX.out.1] at W5
      have og : Only (fun k => (Value.slice ao i cap).ownBlock = some k) (w2.alloc (.cells #[.int .i64 x0, .int .i64 x1, .string x2, .slice al xl cl] 45)) w4 := (Only.refl _ _).grown hgrow (fun k e _ => e)
      have O5 : Only (fun _ => False) w w4 := a4.trans og (fun k hk e => by have := (HOW.out.lt k e).1; omega)
      obtain ⟨ao', cap', hv'⟩ := W5.form
      have hlen : (l.take (i + 1)).length = i + 1 := by have : N = l.length := HNN.out; have := HB.out; simp; omega
      rw [hlen] at hv'
      subst hv'
      have HK5 : Hid (UrAt w4 w.heap.size d (.slice ao' (i + 1) cap') (l.take (i + 1)) ∧ Only (fun _ => False) w w4) := ⟨W5, O5⟩
      clear W5 O5 og HAL HOW hown' hgrow hat a1 a2 a3 a4 a5 a6 hi' hz0 hz1 hz2 hz3 hsz1 hsz2 e0 e1 e2 HXX hlen
      have hi4 : i ≤ 1048576 := by have := HB.out; omega
      go_wp2
      go_roundw
      case rel => exact ⟨i + 1, ao', cap', rfl, by go_num, by omega, HK5⟩
      case measure => simp only [vuOf]; have := HB.out; omega
    · obtain rfl : i = N := by omega
      have i1 : ¬ (i : Int) < (i : Int) := by omega
      have HK : Hid (UrAt w1 w.heap.size d (.slice ao i cap) l ∧ Only (fun _ => False) w w1) := by
        have := HI.out
        rw [hNl, List.take_length, ← hNl] at this
        exact this
      clear HI hNl hN4
      go_wp2
      go_ret
      exact ⟨ao, cap, rfl, HK⟩
set_option maxRecDepth 100000 in
set_option maxHeartbeats 4000000 in
theorem uitrees_of (d : Nat) (H : TuE d 66 true) : TuS d 44 true := by
  intro v l w S hq hl hw
  obtain ⟨av, cv, rfl, hcv, hel⟩ := hq
  have HE : Hid (∀ (j : Nat) (x : Vt), l[j]? = some x → ∃ g k u, av = some ⟨g, k, none⟩ ∧ w.cell? ⟨g, k + j, none⟩ = some u ∧ ∀ w1, Only (fun _ => False) w w1 → Calls Tryz.prog 66 #[u] w1 fun e w' => ∃ lv, e = .returned (.agg #[.int .i64 x.k, .int .i64 (x.n), .string (x.s), lv]) ∧ Hid (NuAt w' w1.heap.size d x lv ∧ Only (fun _ => False) w1 w')) := by
    intro j x hx
    obtain ⟨g, k, u, ha, hg, hc, ht⟩ := hel j x hx
    exact ⟨g, k, u, ha, hc, fun w1 o1 => H u x w1 S (ht.step (fun _ g => g) (fun a u _ hc => o1.cell hc (fun g => g)) (Nat.le_refl _)) (hw x (List.mem_of_getElem? hx))⟩
  have HLB : Hid (l.length ≤ 1048576) := hl
  clear hcv hel hl hw H
  obtain ⟨N, hN⟩ : ∃ N, N = l.length := ⟨_, rfl⟩
  have HNN : Hid (N = l.length) := hN
  rw [← hN]
  clear hN
  go_enter Tryz.func44, Tryz.ntmps44
  go_wp2
  go_loopw [3, 4] (fun r3 r4 wr => ∃ (i : Nat) (ao : Option Addr) (cap : Nat), r3 = .slice ao i cap ∧ r4 = .int .i64 (i : Int) ∧ i ≤ N ∧ Hid (UrAt wr w.heap.size d (.slice ao i cap) (l.take i) ∧ Only (fun _ => False) w wr)) (fun _ r4 _ => N - vuOf r4)
  case atStart => exact ⟨0, none, 0, rfl, rfl, Nat.zero_le _, ur_nil _ _ _, Only.refl _ _⟩
  case round =>
    obtain ⟨i, ao, cap, rfl, rfl, hi, HI⟩ := hrel
    obtain ⟨w1, rfl⟩ : ∃ w1, w1 = wr := ⟨_, rfl⟩
    have hNl : N = l.length := HNN.out
    have hN4 : l.length ≤ 1048576 := HLB.out
    by_cases hiN : i < N
    · obtain ⟨x, hx⟩ : ∃ x, l[i]? = some x := ⟨l[i]'(by omega), List.getElem?_eq_getElem (by omega)⟩
      obtain ⟨g, k, u, rfl, hc, hcall⟩ := HE.out i x hx
      have hc1 : w1.cell? ⟨g, k + i, none⟩ = some u := HI.out.2.cell hc (fun g => g)
      have HC : Hid (Calls Tryz.prog 66 #[u] w1 fun e w' => ∃ lv, e = .returned (.agg #[.int .i64 x.k, .int .i64 (x.n), .string (x.s), lv]) ∧ Hid (NuAt w' w1.heap.size d x lv ∧ Only (fun _ => False) w1 w')) := hcall w1 HI.out.2
      have HX : Hid (l.take i ++ [x] = l.take (i + 1) ∧ (l.take i).length = i) := by
        have hil : i < l.length := by omega
        refine ⟨?_, by simp; omega⟩
        rw [List.take_add_one, hx]
        rfl
      have HB : Hid (i < N ∧ N ≤ 1048576) := ⟨hiN, by omega⟩
      have i1 : (i : Int) < (N : Int) := by omega
      have i0 : (0 : Int) ≤ (i : Int) := by omega
      clear hc hcall HE hNl hN4 hx
      obtain ⟨x0, hx0⟩ : ∃ x0, x0 = x.k := ⟨_, rfl⟩
      obtain ⟨x1, hx1⟩ : ∃ x1, x1 = x.n := ⟨_, rfl⟩
      obtain ⟨x2, hx2⟩ : ∃ x2, x2 = x.s := ⟨_, rfl⟩
      have HXX : Hid (x0 = x.k ∧ x1 = x.n ∧ x2 = x.s) := ⟨hx0, hx1, hx2⟩
      rw [← hx0, ← hx1, ← hx2] at HC
      clear hx0 hx1 hx2
      go_wp2_with fail
      refine (show Calls Tryz.prog 66 _ _ _ from HC.out).mono ?_
      rintro e w2 ⟨lv, rfl, g2⟩
      obtain ⟨al, cl, hlv⟩ := g2.out.1.form
      have W4 : UrAt (w2.alloc (.cells #[.int .i64 x0, .int .i64 x1, .string x2, lv] 45)) w.heap.size d (.slice ao i cap) (l.take i) := (HI.out.1.only g2.out.2 (fun _ _ h => h)).only ((Only.refl (fun _ => False) w2).alloc _) (fun _ _ h => h)
      have N4 : NuAt (w2.alloc (.cells #[.int .i64 x0, .int .i64 x1, .string x2, lv] 45)) w1.heap.size d x lv := g2.out.1.only ((Only.refl (fun _ => False) w2).alloc _) (fun _ _ h => h)
      have O4 : Only (fun _ => False) w (w2.alloc (.cells #[.int .i64 x0, .int .i64 x1, .string x2, lv] 45)) := (HI.out.2.trans g2.out.2 (fun _ _ g => g)).alloc _
      have hlt : ∀ k, (Value.slice ao i cap).ownBlock = some k → k < w1.heap.size := fun k hk => by
        obtain ⟨us, S', hr, _⟩ := HI.out.1
        exact (hr.lt k hk).2
      have hsz1 : w.heap.size ≤ w1.heap.size := HI.out.2.size
      have hsz2 : w1.heap.size ≤ w2.heap.size := g2.out.2.size
      obtain ⟨us, SS, hown, htr, hSS⟩ := W4
      rw [HX.out.2] at hown
      have HOW : Hid ((w2.alloc (.cells #[.int .i64 x0, .int .i64 x1, .string x2, lv] 45)).ownsRow w.heap.size 45 4 (.slice ao i cap) i us) := hown
      have HAL : Hid (_ ∧ _ ∧ NuAt (w2.alloc (.cells #[.int .i64 x0, .int .i64 x1, .string x2, lv] 45)) w1.heap.size d x lv ∧ Only (fun _ => False) w (w2.alloc (.cells #[.int .i64 x0, .int .i64 x1, .string x2, lv] 45)) ∧ w.heap.size ≤ w1.heap.size ∧ (∀ k, (Value.slice ao i cap).ownBlock = some k → k < w1.heap.size)) := ⟨htr, hSS, N4, O4, hsz1, hlt⟩
      subst hlv
      obtain ⟨i0', z0, hi', hz0, hz1, hz2, hz3⟩ := uv_info
      obtain ⟨xl, hxl⟩ : ∃ xl, xl = x.l.length := ⟨_, rfl⟩
      rw [← hxl] at HOW HAL
      rw [← hxl]
      clear N4 O4 hown htr hSS hlt g2 HI HC hxl
      go_wp2_with (at_builtin; refine wpList_append_own_at _ rfl _ _ 22 rfl w.heap.size 45 i0' z0 4 56 Tryz.underlying22 hi' hz0 hz1 hz2 hz3 (by decide) _ i us rfl HOW.out ⟨w2.heap.size, 0, none⟩ 1 1 [.int .i64 x0, .int .i64 x1, .string x2, .slice al xl cl] rfl rfl ?c1 ?c2 ?c3 ?c4 ?c5 ?_)
      case c1 =>
        intro j u hj
        rcases j with _ | _ | _ | _ | j <;> simp at hj <;> subst hj <;> simp [Addr.add]
      case c2 =>
        intro u hu
        simp only [List.mem_cons, List.not_mem_nil, or_false] at hu
        rcases hu with rfl | rfl | rfl | rfl <;> rfl
      case c3 => have := HB.out; unfold maxLen; omega
      case c4 => have := HB.out; omega
      case c5 => simp; omega
      intro v' w4 hown' hgrow _ hat
      obtain ⟨a1, a2, a3, a4, a5, a6⟩ := HAL.out
      obtain ⟨e0, e1, e2⟩ := HXX.out
      have W5 : UrAt w4 w.heap.size d v' (l.take i ++ [x]) := UrAt.snoc hgrow (by rw [HX.out.2]; exact HOW.out) a1 a2 a3 a5 a6 (by rw [HX.out.2, ← e0, ← e1, ← e2]; exact hown') (by simpa using hat)
      rw [HX.out.1] at W5
      have og : Only (fun k => (Value.slice ao i cap).ownBlock = some k) (w2.alloc (.cells #[.int .i64 x0, .int .i64 x1, .string x2, .slice al xl cl] 45)) w4 := (Only.refl _ _).grown hgrow (fun k e _ => e)
      have O5 : Only (fun _ => False) w w4 := a4.trans og (fun k hk e => by have := (HOW.out.lt k e).1; omega)
      obtain ⟨ao', cap', hv'⟩ := W5.form
      have hlen : (l.take (i + 1)).length = i + 1 := by have : N = l.length := HNN.out; have := HB.out; simp; omega
      rw [hlen] at hv'
      subst hv'
      have HK5 : Hid (UrAt w4 w.heap.size d (.slice ao' (i + 1) cap') (l.take (i + 1)) ∧ Only (fun _ => False) w w4) := ⟨W5, O5⟩
      clear W5 O5 og HAL HOW hown' hgrow hat a1 a2 a3 a4 a5 a6 hi' hz0 hz1 hz2 hz3 hsz1 hsz2 e0 e1 e2 HXX hlen
      have hi4 : i ≤ 1048576 := by have := HB.out; omega
      go_wp2
      go_roundw
      case rel => exact ⟨i + 1, ao', cap', rfl, by go_num, by omega, HK5⟩
      case measure => simp only [vuOf]; have := HB.out; omega
    · obtain rfl : i = N := by omega
      have i1 : ¬ (i : Int) < (i : Int) := by omega
      have HK : Hid (UrAt w1 w.heap.size d (.slice ao i cap) l ∧ Only (fun _ => False) w w1) := by
        have := HI.out
        rw [hNl, List.take_length, ← hNl] at this
        exact this
      clear HI hNl hN4
      go_wp2
      go_ret
      exact ⟨ao, cap, rfl, HK⟩
theorem utrees_any : ∀ (d d' : Nat), d' < d → TuE d' 26 false ∧ TuE d' 66 true
  | 0, d', h => by omega
  | d + 1, d', h => by
    have ih := utrees_any d
    by_cases hd : d' < d
    · exact ih d' hd
    · obtain rfl : d' = d := by omega
      cases d' with
      | zero => exact ⟨fun v t w S h => h.elim, fun v t w S h => h.elim⟩
      | succ e => exact ⟨utree_of e (utrees_of e (ih e (by omega)).1) (uitrees_of e (ih e (by omega)).2), uitree_of e (ih e (by omega)).1⟩
theorem uitrees_any (d : Nat) : TuS d 44 true := uitrees_of d (utrees_any (d + 1) d (by omega)).2
end Go.Proofs.YtgnmedjknbbfhaaGreatDoor
