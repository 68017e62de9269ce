/- The kinds of values, and whether values are of the kinds that are wanted. The numbers by which the library's contracts on strconv.FormatInt and strings.Join stand over this program. A call of a function within a region that draws. -/
import Derived.Test.YtbhpjakjlfkfiabGreatDoorGaj
import Derived.Deep.RegionHeld3
import Derived.Shelf.Strconv.Itoa4
import Derived.Shelf.Strings.OnBuilder
import Derived.Test.YtbhpjakjlfkfiabGreatDoorProg
import Derived.Test.YtbhpjakjlfkfiabGreatDoorGaa
import Derived.BigQuiet
namespace Go.Proofs.YtbhpjakjlfkfiabGreatDoor
open Go.RowKit Go.Lib
set_option linter.unusedSimpArgs false
set_option linter.unusedVariables false
/-- the kind of a value, as prim has it -/
def kd (t : Vt) : Int := if t.k = 1 then 1 else if t.k = 2 then 2 else if t.k = 3 then 4 else if t.k = 4 then 8 else if t.k = 5 then 16 else if t.k = 6 then 32 else 0
set_option maxRecDepth 100000 in
theorem kind_Int (n : Int) (w : World) : Calls Tryz.prog 27 #[.iface 27 (.agg #[.int .i64 n])] w fun e w' => e = .returned (.int .i64 1) ∧ w' = w := by
  have hi := uas_hit 27 37 _ Tryz.underlying27 (by intro m h; cases h)
  go_enter Tryz.func27, Tryz.ntmps27
  go_wp2
  go_ret
  exact ⟨rfl, rfl⟩
set_option maxRecDepth 100000 in
theorem kind_Str (s : ByteArray) (w : World) : Calls Tryz.prog 27 #[.iface 56 (.agg #[.string s])] w fun e w' => e = .returned (.int .i64 2) ∧ w' = w := by
  have mInt := uas_miss 56 27 37 _ Tryz.underlying27 (by intro m h; cases h) (by decide) _ uzero_Int
  have hi := uas_hit 56 37 _ Tryz.underlying56 (by intro m h; cases h)
  go_enter Tryz.func27, Tryz.ntmps27
  go_wp2
  go_ret
  exact ⟨rfl, rfl⟩
set_option maxRecDepth 100000 in
theorem kind_Bool (b : Bool) (w : World) : Calls Tryz.prog 27 #[.iface 58 (.agg #[.bool b])] w fun e w' => e = .returned (.int .i64 4) ∧ w' = w := by
  have mInt := uas_miss 58 27 37 _ Tryz.underlying27 (by intro m h; cases h) (by decide) _ uzero_Int
  have mStr := uas_miss 58 56 37 _ Tryz.underlying56 (by intro m h; cases h) (by decide) _ uzero_Str
  have hi := uas_hit 58 37 _ Tryz.underlying58 (by intro m h; cases h)
  go_enter Tryz.func27, Tryz.ntmps27
  go_wp2
  go_ret
  exact ⟨rfl, rfl⟩
set_option maxRecDepth 100000 in
theorem kind_List (ao : Option Addr) (L c : Nat) (w : World) : Calls Tryz.prog 27 #[.iface 34 (.agg #[.slice ao L c])] w fun e w' => e = .returned (.int .i64 8) ∧ w' = w := by
  have mInt := uas_miss 34 27 37 _ Tryz.underlying27 (by intro m h; cases h) (by decide) _ uzero_Int
  have mStr := uas_miss 34 56 37 _ Tryz.underlying56 (by intro m h; cases h) (by decide) _ uzero_Str
  have mBool := uas_miss 34 58 37 _ Tryz.underlying58 (by intro m h; cases h) (by decide) _ uzero_Bool
  have hi := uas_hit 34 37 _ Tryz.underlying34 (by intro m h; cases h)
  go_enter Tryz.func27, Tryz.ntmps27
  go_wp2
  go_ret
  exact ⟨rfl, rfl⟩
set_option maxRecDepth 100000 in
theorem kind_Quot (ao : Option Addr) (L c : Nat) (w : World) : Calls Tryz.prog 27 #[.iface 62 (.agg #[.slice ao L c])] w fun e w' => e = .returned (.int .i64 16) ∧ w' = w := by
  have mInt := uas_miss 62 27 37 _ Tryz.underlying27 (by intro m h; cases h) (by decide) _ uzero_Int
  have mStr := uas_miss 62 56 37 _ Tryz.underlying56 (by intro m h; cases h) (by decide) _ uzero_Str
  have mBool := uas_miss 62 58 37 _ Tryz.underlying58 (by intro m h; cases h) (by decide) _ uzero_Bool
  have mList := uas_miss 62 34 37 _ Tryz.underlying34 (by intro m h; cases h) (by decide) _ uzero_List
  have hi := uas_hit 62 37 _ Tryz.underlying62 (by intro m h; cases h)
  go_enter Tryz.func27, Tryz.ntmps27
  go_wp2
  go_ret
  exact ⟨rfl, rfl⟩
set_option maxRecDepth 100000 in
theorem kind_Box (n : Int) (w : World) : Calls Tryz.prog 27 #[.iface 64 (.agg #[.int .i64 n])] w fun e w' => e = .returned (.int .i64 32) ∧ w' = w := by
  have mInt := uas_miss 64 27 37 _ Tryz.underlying27 (by intro m h; cases h) (by decide) _ uzero_Int
  have mStr := uas_miss 64 56 37 _ Tryz.underlying56 (by intro m h; cases h) (by decide) _ uzero_Str
  have mBool := uas_miss 64 58 37 _ Tryz.underlying58 (by intro m h; cases h) (by decide) _ uzero_Bool
  have mList := uas_miss 64 34 37 _ Tryz.underlying34 (by intro m h; cases h) (by decide) _ uzero_List
  have mQuot := uas_miss 64 62 37 _ Tryz.underlying62 (by intro m h; cases h) (by decide) _ uzero_Quot
  have hi := uas_hit 64 37 _ Tryz.underlying64 (by intro m h; cases h)
  go_enter Tryz.func27, Tryz.ntmps27
  go_wp2
  go_ret
  exact ⟨rfl, rfl⟩
set_option maxRecDepth 100000 in
theorem kind_nil (w : World) : Calls Tryz.prog 27 #[.nilIface] w fun e w' => e = .returned (.int .i64 0) ∧ w' = w := by
  have mInt := uas_nil 27 37 _ Tryz.underlying27 (by intro m h; cases h) _ uzero_Int
  have mStr := uas_nil 56 37 _ Tryz.underlying56 (by intro m h; cases h) _ uzero_Str
  have mBool := uas_nil 58 37 _ Tryz.underlying58 (by intro m h; cases h) _ uzero_Bool
  have mList := uas_nil 34 37 _ Tryz.underlying34 (by intro m h; cases h) _ uzero_List
  have mQuot := uas_nil 62 37 _ Tryz.underlying62 (by intro m h; cases h) _ uzero_Quot
  have mBox := uas_nil 64 37 _ Tryz.underlying64 (by intro m h; cases h) _ uzero_Box
  go_enter Tryz.func27, Tryz.ntmps27
  go_wp2
  go_ret
  exact ⟨rfl, rfl⟩
theorem kind_any {S : Nat → Prop} {d : Nat} {t : Vt} {v : Value} {w0 : World} (h : TiAt w0 S d false t v) : ∀ w, Calls Tryz.prog 27 #[v] w fun e w' => e = .returned (.int .i64 (kd t)) ∧ w' = w := by
  intro w
  obtain ⟨k, n, s, l⟩ := t
  cases d with
  | zero => exact h.elim
  | succ d =>
    rcases h with ⟨e, _, rfl⟩ | ⟨e, _, rfl⟩ | ⟨e, _, rfl⟩ | ⟨e, _, rfl⟩ | ⟨e, _, rfl⟩ | ⟨e, ao, cap, rfl, _⟩
    · simp only at e
      subst e
      exact kind_Int n w
    · simp only at e
      subst e
      exact kind_Str s w
    · simp only at e
      subst e
      exact kind_Bool _ w
    · simp only at e
      subst e
      exact kind_Box n w
    · simp only at e
      subst e
      exact kind_nil w
    · simp only at e
      rcases e with e | e
      · subst e
        exact kind_List _ _ _ w
      · subst e
        exact kind_Quot _ _ _ w
/-- is a value of one of the kinds k? -/
def fb (t : Vt) (k : Int) : Bool := !(bits BinOp.and IntKind.i64 (kd t) k == 0)
/-- are values of the kinds ks, one by one? -/
def fitB : List Vt → List Int → Bool
  | [], _ => true
  | _ :: _, [] => true
  | t :: l, k :: ks => fb t k && fitB l ks
theorem fitB_eq : ∀ (l : List Vt) (ks : List Int), l.length = ks.length → (fitB l ks = true ↔ ∀ (j : Nat) (x : Vt) (k : Int), l[j]? = some x → ks[j]? = some k → fb x k = true)
  | [], _, _ => ⟨fun _ j x k h => by simp at h, fun _ => rfl⟩
  | _ :: _, [], h => by simp at h
  | t :: l, k :: ks, h => by
    have ih := fitB_eq l ks (by simpa using h)
    simp only [fitB, Bool.and_eq_true, ih]
    constructor
    · rintro ⟨h1, h2⟩ j x y hx hy
      cases j with
      | zero => simp at hx hy; subst hx; subst hy; exact h1
      | succ j => exact h2 j x y (by simpa using hx) (by simpa using hy)
    · intro g
      exact ⟨g 0 t k rfl rfl, fun j x y hx hy => g (j + 1) x y (by simpa using hx) (by simpa using hy)⟩
set_option maxRecDepth 100000 in
set_option maxHeartbeats 4000000 in
theorem fit_any {d : Nat} {l : List Vt} {ks : List Int} {ao : Option Addr} {K cap : Nat} {w : World} {S : Nat → Prop} (hl : PsAt w S d false l ao) (hks : ∀ j k, ks[j]? = some k → w.cell? ⟨K, j, none⟩ = some (.int .i64 k)) (he : l.length = ks.length) (hlen : l.length ≤ 1048576) : Calls Tryz.prog 17 #[.slice ao l.length cap, .slice (some ⟨K, 0, none⟩) l.length l.length] w fun e w' => e = .returned (.bool (fitB l ks)) ∧ Only (fun _ => False) w w' := by
  obtain ⟨Z, hZ⟩ : ∃ Z, Z = fitB l ks := ⟨_, rfl⟩
  obtain ⟨N, hN⟩ : ∃ N, N = l.length := ⟨_, rfl⟩
  have HN : Hid (N = l.length ∧ N ≤ 1048576 ∧ N = ks.length) := ⟨hN, by omega, by omega⟩
  have HT : Hid (PsAt w S d false l ao ∧ (∀ j k, ks[j]? = some k → w.cell? ⟨K, j, none⟩ = some (.int .i64 k))) := ⟨hl, hks⟩
  have HF : Hid (∀ (j : Nat) (x : Vt) (k : Int), l[j]? = some x → ks[j]? = some k → fb x k = false → Z = false) := fun j x k hx hk hf => by
    cases hz : Z with
    | false => rfl
    | true =>
      have := (fitB_eq l ks he).1 (by rw [← hZ]; exact hz) j x k hx hk
      rw [hf] at this
      cases this
  have HY : Hid ((∀ (j : Nat) (x : Vt) (k : Int), l[j]? = some x → ks[j]? = some k → fb x k = true) → Z = true) := fun g => by rw [hZ]; exact (fitB_eq l ks he).2 g
  rw [← hZ, ← hN]
  clear hl hks he hlen hN hZ
  go_enter Tryz.func17, Tryz.ntmps17
  go_wp2
  go_loopw [9] (fun r wr => ∃ j : Nat, r = .int .i64 (j : Int) ∧ j ≤ N ∧ Hid (Only (fun _ => False) w wr ∧ ∀ (i : Nat) (x : Vt) (k : Int), i < j → l[i]? = some x → ks[i]? = some k → fb x k = true)) (fun r _ => N - vuOf r)
  case atStart => exact ⟨0, rfl, Nat.zero_le _, Only.refl _ _, fun i x k h => by omega⟩
  case round =>
    obtain ⟨j, rfl, hj, HI⟩ := hrel
    obtain ⟨w2, hw2⟩ : ∃ w2, w2 = wr := ⟨_, rfl⟩
    rw [← hw2] at HI ⊢
    clear hw2
    by_cases hjN : j < N
    · obtain ⟨x, hx⟩ : ∃ x, l[j]? = some x := ⟨l[j]'(by rw [← HN.out.1]; exact hjN), List.getElem?_eq_getElem _⟩
      obtain ⟨k, hk⟩ : ∃ k, ks[j]? = some k := ⟨ks[j]'(by rw [← HN.out.2.2]; exact hjN), List.getElem?_eq_getElem _⟩
      obtain ⟨g, q, u, ha, hSg, hcw, ht⟩ := HT.out.1 j x hx
      have hcell : w2.cell? ⟨g, q + j, none⟩ = some u := HI.out.1.cell hcw (fun g => g)
      have hKc : ∀ w3, Only (fun _ => False) w2 w3 → w3.cell? ⟨K, j, none⟩ = some (.int .i64 k) := fun w3 o => o.cell (HI.out.1.cell (HT.out.2 j k hk) (fun g => g)) (fun g => g)
      have HC : Hid _ := kind_any ht
      have HX : Hid (j < N ∧ l[j]? = some x ∧ ks[j]? = some k) := ⟨hjN, hx, hk⟩
      have HK : Hid _ := hKc
      have hK0 := hKc w2 (Only.refl _ _)
      have O2 : Hid (Only (fun _ => False) w2 w2) := Only.refl _ _
      have i1 : (j : Int) < (N : Int) := by omega
      have i0 : (0 : Int) ≤ (j : Int) := by omega
      have i4 : j ≤ 1048576 := by have := HN.out.2.1; omega
      subst ha
      obtain ⟨y, hy⟩ : ∃ y, y = kd x := ⟨_, rfl⟩
      rw [← hy] at HC
      have HYE : Hid (y = kd x) := hy
      clear hx hk hjN hj hSg hcw ht hKc hy
      cases hb : (bits BinOp.and IntKind.i64 y k == 0) with
      | true =>
        have HB : Hid (fb x k = false) := by unfold fb Hid; rw [← HYE.out, hb]; rfl
        go_wp2
        go_region_held3 (fun w3 => w3.cell? ⟨K, j, none⟩ = some (.int .i64 k))
          (first | with_reducible exact HK.out _ O2.out | with_reducible exact HK.out _ O2.out.drew | with_reducible exact HK.out _ O2.out.drew.drew)
          (first
            | (go_at_call 27; refine (show Calls Tryz.prog 27 _ _ _ from HC.out _).mono ?_; rintro ex w4 ⟨rfl, rfl⟩))
        go_wp2
        go_ret
        refine ⟨by rw [HF.out j x k HX.out.2.1 HX.out.2.2 HB.out]; rfl, ?_⟩
        repeat (first | exact HI.out.1 | refine Only.drew ?_)
      | false =>
        have HB : Hid (fb x k = true) := by unfold fb Hid; rw [← HYE.out, hb]; rfl
        go_wp2
        go_region_held3 (fun w3 => w3.cell? ⟨K, j, none⟩ = some (.int .i64 k))
          (first | with_reducible exact HK.out _ O2.out | with_reducible exact HK.out _ O2.out.drew | with_reducible exact HK.out _ O2.out.drew.drew)
          (first
            | (go_at_call 27; refine (show Calls Tryz.prog 27 _ _ _ from HC.out _).mono ?_; rintro ex w4 ⟨rfl, rfl⟩))
        have HI2 : Hid (Only (fun _ => False) w w2.drew ∧ ∀ (i : Nat) (x : Vt) (k : Int), i < j + 1 → l[i]? = some x → ks[i]? = some k → fb x k = true) := ⟨HI.out.1.drew, fun i z y hi hz hy => by
          by_cases e : i = j
          · subst e
            have a1 := HX.out.2.1
            have a2 := HX.out.2.2
            rw [hz] at a1
            rw [hy] at a2
            injection a1 with a1
            injection a2 with a2
            subst a1
            subst a2
            exact HB.out
          · exact HI.out.2 i z y (by omega) hz hy⟩
        have HJ : Hid (j < N) := HX.out.1
        clear HC HX HI HK O2 hK0 hcell HB
        go_wp2
        go_roundw
        case rel => exact ⟨j + 1, by go_num, by have := HJ.out; omega, HI2⟩
        case measure => simp only [vuOf]; have := HJ.out; omega
    · obtain rfl : j = N := by omega
      have i1 : ¬ (j : Int) < (j : Int) := by omega
      have HE : Hid (Z = true) := HY.out (fun i x k hx hk => HI.out.2 i x k (by rw [HN.out.1]; exact (List.getElem?_eq_some_iff.1 hx).1) hx hk)
      clear hjN hj
      go_wp2
      go_ret
      exact ⟨by rw [HE.out]; rfl, HI.out.1⟩
end Go.Proofs.YtbhpjakjlfkfiabGreatDoor
namespace Go.Proofs
open Go.Shelf
def Tryz.laysFmt_ren : Go.Shelf.Ren := ⟨fun | 173 => 137 | 246 => 145 | 283 => 149 | 284 => 150 | 285 => 151 | 286 => 152 | 129 => 157 | 317 => 156 | 318 => 158 | 319 => 159 | 320 => 160 | 337 => 163 | 338 => 164 | n => n, fun | 2 => 2 | 3 => 3 | 9 => 9 | 4 => 4 | 171 => 237 | 0 => 0 | 53 => 140 | 37 => 160 | 5 => 5 | 173 => 240 | 212 => 245 | 51 => 148 | 20 => 20 | 213 => 246 | 46 => 201 | 232 => 249 | 233 => 250 | n => n, fun | 17 => 6 | 18 => 7 | 19 => 8 | n => n⟩
theorem Tryz.laysFmt : Go.Proofs.LaysM.n173 Tryz.prog Tryz.laysFmt_ren := {
  mixed := by kernel_rfl
  f129 := Tryz.func157.trans (congrArg some (by kernel_rfl))
  f173 := Tryz.func137.trans (congrArg some (by kernel_rfl))
  f246 := Tryz.func145.trans (congrArg some (by kernel_rfl))
  f283 := Tryz.func149.trans (congrArg some (by kernel_rfl))
  f284 := Tryz.func150.trans (congrArg some (by kernel_rfl))
  f285 := Tryz.func151.trans (congrArg some (by kernel_rfl))
  f286 := Tryz.func152.trans (congrArg some (by kernel_rfl))
  f317 := Tryz.func156.trans (congrArg some (by kernel_rfl))
  f318 := Tryz.func158.trans (congrArg some (by kernel_rfl))
  f319 := Tryz.func159.trans (congrArg some (by kernel_rfl))
  f320 := Tryz.func160.trans (congrArg some (by kernel_rfl))
  f337 := Tryz.func163.trans (congrArg some (by kernel_rfl))
  f338 := Tryz.func164.trans (congrArg some (by kernel_rfl))
  t0 := Tryz.underlying0
  a0 := Tryz.isAgg0
  z0 := Tryz.sizeOf0
  v0 := Tryz.zeroValue0
  t2 := Tryz.underlying2
  a2 := Tryz.isAgg2
  z2 := Tryz.sizeOf2
  v2 := Tryz.zeroValue2
  t3 := Tryz.underlying3
  a3 := Tryz.isAgg3
  z3 := Tryz.sizeOf3
  v3 := Tryz.zeroValue3
  t4 := Tryz.underlying4
  a4 := Tryz.isAgg4
  z4 := Tryz.sizeOf4
  v4 := Tryz.zeroValue4
  t5 := Tryz.underlying5
  a5 := Tryz.isAgg5
  z5 := Tryz.sizeOf5
  v5 := Tryz.zeroValue5
  t9 := Tryz.underlying9
  a9 := Tryz.isAgg9
  z9 := Tryz.sizeOf9
  v9 := Tryz.zeroValue9
  t20 := Tryz.underlying20
  a20 := Tryz.isAgg20
  z20 := Tryz.sizeOf20
  v20 := Tryz.zeroValue20
  t37 := Tryz.underlying160
  a37 := Tryz.isAgg160
  z37 := Tryz.sizeOf160
  v37 := Tryz.zeroValue160
  t46 := Tryz.underlying201
  a46 := Tryz.isAgg201
  z46 := Tryz.sizeOf201
  v46 := Tryz.zeroValue201
  t51 := Tryz.underlying148
  a51 := Tryz.isAgg148
  z51 := Tryz.sizeOf148
  v51 := Tryz.zeroValue148
  t53 := Tryz.underlying140
  a53 := Tryz.isAgg140
  z53 := Tryz.sizeOf140
  v53 := Tryz.zeroValue140
  t171 := Tryz.underlying237
  a171 := Tryz.isAgg237
  z171 := Tryz.sizeOf237
  v171 := Tryz.zeroValue237
  t173 := Tryz.underlying240
  a173 := Tryz.isAgg240
  z173 := Tryz.sizeOf240
  v173 := Tryz.zeroValue240
  t212 := Tryz.underlying245
  a212 := Tryz.isAgg245
  z212 := Tryz.sizeOf245
  v212 := Tryz.zeroValue245
  t213 := Tryz.underlying246
  a213 := Tryz.isAgg246
  z213 := Tryz.sizeOf246
  t232 := Tryz.underlying249
  a232 := Tryz.isAgg249
  z232 := Tryz.sizeOf249
  v232 := Tryz.zeroValue249
  t233 := Tryz.underlying250
  a233 := Tryz.isAgg250
  z233 := Tryz.sizeOf250
  v233 := Tryz.zeroValue250
  g17 := by kernel_rfl
  g18 := by kernel_rfl
  g19 := by kernel_rfl
  i0 := by kernel_rfl
  i2 := by kernel_rfl
  i3 := by kernel_rfl
  i4 := by kernel_rfl
  i5 := by kernel_rfl
  i9 := by kernel_rfl
  i20 := by kernel_rfl
  i37 := by kernel_rfl
  i46 := by kernel_rfl
  i51 := by kernel_rfl
  i53 := by kernel_rfl
  i171 := by kernel_rfl
  i173 := by kernel_rfl
  i212 := by kernel_rfl
  i232 := by kernel_rfl
  i233 := by kernel_rfl
  m17 := by kernel_rfl
  m18 := by kernel_rfl
  m19 := by kernel_rfl }
def Tryz.laysJoin_ren : Go.Shelf.Ren := ⟨fun | 156 => 74 | 165 => 92 | 166 => 93 | 169 => 94 | 240 => 114 | 241 => 115 | 276 => 120 | 277 => 121 | n => n, fun | 31 => 42 | 9 => 9 | 3 => 3 | 4 => 4 | 0 => 0 | 20 => 20 | 72 => 162 | 76 => 166 | 70 => 159 | 37 => 160 | 75 => 165 | 127 => 197 | 164 => 208 | 5 => 5 | 80 => 168 | n => n, fun | n => n⟩
theorem Tryz.laysJoin : Go.Proofs.Lays.n156 Tryz.prog Tryz.laysJoin_ren := {
  mixed := by kernel_rfl
  f156 := Tryz.func74.trans (congrArg some (by kernel_rfl))
  f165 := Tryz.func92.trans (congrArg some (by kernel_rfl))
  f166 := Tryz.func93.trans (congrArg some (by kernel_rfl))
  f169 := Tryz.func94.trans (congrArg some (by kernel_rfl))
  f240 := Tryz.func114.trans (congrArg some (by kernel_rfl))
  f241 := Tryz.func115.trans (congrArg some (by kernel_rfl))
  f276 := Tryz.func120.trans (congrArg some (by kernel_rfl))
  f277 := Tryz.func121.trans (congrArg some (by kernel_rfl))
  t0 := Tryz.underlying0
  a0 := Tryz.isAgg0
  z0 := Tryz.sizeOf0
  v0 := Tryz.zeroValue0
  t3 := Tryz.underlying3
  a3 := Tryz.isAgg3
  z3 := Tryz.sizeOf3
  v3 := Tryz.zeroValue3
  t4 := Tryz.underlying4
  a4 := Tryz.isAgg4
  z4 := Tryz.sizeOf4
  v4 := Tryz.zeroValue4
  t9 := Tryz.underlying9
  a9 := Tryz.isAgg9
  z9 := Tryz.sizeOf9
  v9 := Tryz.zeroValue9
  t20 := Tryz.underlying20
  a20 := Tryz.isAgg20
  z20 := Tryz.sizeOf20
  v20 := Tryz.zeroValue20
  t31 := Tryz.underlying42
  a31 := Tryz.isAgg42
  z31 := Tryz.sizeOf42
  v31 := Tryz.zeroValue42
  t37 := Tryz.underlying160
  a37 := Tryz.isAgg160
  z37 := Tryz.sizeOf160
  v37 := Tryz.zeroValue160
  t70 := Tryz.underlying159
  a70 := Tryz.isAgg159
  z70 := Tryz.sizeOf159
  v70 := Tryz.zeroValue159
  t72 := Tryz.underlying162
  a72 := Tryz.isAgg162
  z72 := Tryz.sizeOf162
  v72 := Tryz.zeroValue162
  t75 := Tryz.underlying165
  a75 := Tryz.isAgg165
  z75 := Tryz.sizeOf165
  v75 := Tryz.zeroValue165
  t76 := Tryz.underlying166
  a76 := Tryz.isAgg166
  z76 := Tryz.sizeOf166
  v76 := Tryz.zeroValue166
  t127 := Tryz.underlying197
  a127 := Tryz.isAgg197
  z127 := Tryz.sizeOf197
  v127 := Tryz.zeroValue197
  t164 := Tryz.underlying208
  a164 := Tryz.isAgg208
  z164 := Tryz.sizeOf208
  v164 := Tryz.zeroValue208 }
theorem Tryz.joinExtra : Go.Proofs.Builder.Extra Tryz.prog Tryz.laysJoin_ren := {
  sizeBuilder := by kernel_rfl
  liesBuilder := by kernel_rfl
  t5 := Tryz.underlying5
  a5 := Tryz.isAgg5
  z5 := Tryz.sizeOf5
  v5 := Tryz.zeroValue5
  infoByte := by kernel_rfl
  cellsByte := by kernel_rfl
  sizeByte := by kernel_rfl
  neB5 := by decide }
end Go.Proofs
namespace Go.Proofs.YtbhpjakjlfkfiabGreatDoor
open Go.RowKit
set_option linter.unusedSimpArgs false
set_option linter.unusedVariables false
theorem Only.drewN {bs : Nat → Prop} {a w : World} (h : Only bs a w) (n : Nat) : Only bs a (w.drewN n) := ⟨h.os, h.tape, h.output, h.size, h.block⟩
section
variable {P : Program} {n l : Nat} {ops : Array Oper} {op : Oper} {a : Act} {w w' : World} {K : Act → World → Prop} {Q : Exit → Act → World → Prop}
theorem wp_call_func {f : Nat} (args : Array Operand) (tys : Array TypeId) (ho : op.op = .call { callee := .value (.func f), args := args, argTypes := tys }) (vs : Array Value) (hvs : args.map a.eval = vs) (he : ∀ args w, (callFunc f args).run P w = .ok (.enter f args) w)
    {R : Ending → World → Prop} (hc : Calls P f vs w R) (hR : ∀ e w', R e w' → ∃ v, e = .returned v ∧ K (a.put op.dst v) w') : op.wp P a w K Q := by
  have hr : (execOp a.eval op).run P w = .ok (.enter f vs) w := by
    simp [execOp, ho, resolve, invoke, go_sem, he, hvs, Result.andThen]
  unfold Oper.wp
  rw [hr, Oper.upon_enter]
  refine hc.mono fun e w' h => ?_
  obtain ⟨v, rfl, hk⟩ := hR e w' h
  exact hk
end
end Go.Proofs.YtbhpjakjlfkfiabGreatDoor
