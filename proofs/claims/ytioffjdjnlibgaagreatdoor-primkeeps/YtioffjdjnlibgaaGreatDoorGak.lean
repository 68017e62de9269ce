/- The kinds of values, and whether values are of the kinds that are wanted. The numbers by which the library's contracts on strconv.FormatInt and strings.Join stand over this program. A call of a function within a region that draws. Texts of characters by the document: Chars, Bad, Name, and what they are. -/
import Derived.Test.YtioffjdjnlibgaaGreatDoorGaj
import Derived.Deep.RegionHeld3
import Derived.Shelf.Strconv.Itoa4
import Derived.Shelf.Strings.OnBuilder
import Derived.Test.YtioffjdjnlibgaaGreatDoorProg
import Derived.Test.YtioffjdjnlibgaaGreatDoorGaa
import Derived.BigQuiet
import Derived.Test.YtioffjdjnlibgaaGreatDoorGae
import Derived.Lib.MapLaws
import Derived.Lib.RuneCountTail
import Derived.Deep.QuietTactic
namespace Go.Proofs.YtioffjdjnlibgaaGreatDoor
open Go.RowKit Go.Lib
set_option linter.unusedSimpArgs false
set_option linter.unusedVariables false
/-- the kind of a value, as prim has it -/
def kd (t : Vt) : Int := if t.k = 1 then 1 else if t.k = 2 then 2 else if t.k = 3 then 4 else if t.k = 4 then 8 else if t.k = 5 then 16 else if t.k = 6 then 32 else 0
set_option maxRecDepth 100000 in
theorem kind_Int (n : Int) (w : World) : Calls Tryz.prog 23 #[.iface 27 (.agg #[.int .i64 n])] w fun e w' => e = .returned (.int .i64 1) ∧ w' = w := by
  have hi := uas_hit 27 37 _ Tryz.underlying27 (by intro m h; cases h)
  go_enter Tryz.func23, Tryz.ntmps23
  go_wp2
  go_ret
  exact ⟨rfl, rfl⟩
set_option maxRecDepth 100000 in
theorem kind_Str (s : ByteArray) (w : World) : Calls Tryz.prog 23 #[.iface 56 (.agg #[.string s])] w fun e w' => e = .returned (.int .i64 2) ∧ w' = w := by
  have mInt := uas_miss 56 27 37 _ Tryz.underlying27 (by intro m h; cases h) (by decide) _ uzero_Int
  have hi := uas_hit 56 37 _ Tryz.underlying56 (by intro m h; cases h)
  go_enter Tryz.func23, Tryz.ntmps23
  go_wp2
  go_ret
  exact ⟨rfl, rfl⟩
set_option maxRecDepth 100000 in
theorem kind_Bool (b : Bool) (w : World) : Calls Tryz.prog 23 #[.iface 58 (.agg #[.bool b])] w fun e w' => e = .returned (.int .i64 4) ∧ w' = w := by
  have mInt := uas_miss 58 27 37 _ Tryz.underlying27 (by intro m h; cases h) (by decide) _ uzero_Int
  have mStr := uas_miss 58 56 37 _ Tryz.underlying56 (by intro m h; cases h) (by decide) _ uzero_Str
  have hi := uas_hit 58 37 _ Tryz.underlying58 (by intro m h; cases h)
  go_enter Tryz.func23, Tryz.ntmps23
  go_wp2
  go_ret
  exact ⟨rfl, rfl⟩
set_option maxRecDepth 100000 in
theorem kind_List (ao : Option Addr) (L c : Nat) (w : World) : Calls Tryz.prog 23 #[.iface 34 (.agg #[.slice ao L c])] w fun e w' => e = .returned (.int .i64 8) ∧ w' = w := by
  have mInt := uas_miss 34 27 37 _ Tryz.underlying27 (by intro m h; cases h) (by decide) _ uzero_Int
  have mStr := uas_miss 34 56 37 _ Tryz.underlying56 (by intro m h; cases h) (by decide) _ uzero_Str
  have mBool := uas_miss 34 58 37 _ Tryz.underlying58 (by intro m h; cases h) (by decide) _ uzero_Bool
  have hi := uas_hit 34 37 _ Tryz.underlying34 (by intro m h; cases h)
  go_enter Tryz.func23, Tryz.ntmps23
  go_wp2
  go_ret
  exact ⟨rfl, rfl⟩
set_option maxRecDepth 100000 in
theorem kind_Quot (ao : Option Addr) (L c : Nat) (w : World) : Calls Tryz.prog 23 #[.iface 62 (.agg #[.slice ao L c])] w fun e w' => e = .returned (.int .i64 16) ∧ w' = w := by
  have mInt := uas_miss 62 27 37 _ Tryz.underlying27 (by intro m h; cases h) (by decide) _ uzero_Int
  have mStr := uas_miss 62 56 37 _ Tryz.underlying56 (by intro m h; cases h) (by decide) _ uzero_Str
  have mBool := uas_miss 62 58 37 _ Tryz.underlying58 (by intro m h; cases h) (by decide) _ uzero_Bool
  have mList := uas_miss 62 34 37 _ Tryz.underlying34 (by intro m h; cases h) (by decide) _ uzero_List
  have hi := uas_hit 62 37 _ Tryz.underlying62 (by intro m h; cases h)
  go_enter Tryz.func23, Tryz.ntmps23
  go_wp2
  go_ret
  exact ⟨rfl, rfl⟩
set_option maxRecDepth 100000 in
theorem kind_Box (n : Int) (w : World) : Calls Tryz.prog 23 #[.iface 64 (.agg #[.int .i64 n])] w fun e w' => e = .returned (.int .i64 32) ∧ w' = w := by
  have mInt := uas_miss 64 27 37 _ Tryz.underlying27 (by intro m h; cases h) (by decide) _ uzero_Int
  have mStr := uas_miss 64 56 37 _ Tryz.underlying56 (by intro m h; cases h) (by decide) _ uzero_Str
  have mBool := uas_miss 64 58 37 _ Tryz.underlying58 (by intro m h; cases h) (by decide) _ uzero_Bool
  have mList := uas_miss 64 34 37 _ Tryz.underlying34 (by intro m h; cases h) (by decide) _ uzero_List
  have mQuot := uas_miss 64 62 37 _ Tryz.underlying62 (by intro m h; cases h) (by decide) _ uzero_Quot
  have hi := uas_hit 64 37 _ Tryz.underlying64 (by intro m h; cases h)
  go_enter Tryz.func23, Tryz.ntmps23
  go_wp2
  go_ret
  exact ⟨rfl, rfl⟩
set_option maxRecDepth 100000 in
theorem kind_nil (w : World) : Calls Tryz.prog 23 #[.nilIface] w fun e w' => e = .returned (.int .i64 0) ∧ w' = w := by
  have mInt := uas_nil 27 37 _ Tryz.underlying27 (by intro m h; cases h) _ uzero_Int
  have mStr := uas_nil 56 37 _ Tryz.underlying56 (by intro m h; cases h) _ uzero_Str
  have mBool := uas_nil 58 37 _ Tryz.underlying58 (by intro m h; cases h) _ uzero_Bool
  have mList := uas_nil 34 37 _ Tryz.underlying34 (by intro m h; cases h) _ uzero_List
  have mQuot := uas_nil 62 37 _ Tryz.underlying62 (by intro m h; cases h) _ uzero_Quot
  have mBox := uas_nil 64 37 _ Tryz.underlying64 (by intro m h; cases h) _ uzero_Box
  go_enter Tryz.func23, Tryz.ntmps23
  go_wp2
  go_ret
  exact ⟨rfl, rfl⟩
theorem kind_any {S : Nat → Prop} {d : Nat} {t : Vt} {v : Value} {w0 : World} (h : TiAt w0 S d false t v) : ∀ w, Calls Tryz.prog 23 #[v] w fun e w' => e = .returned (.int .i64 (kd t)) ∧ w' = w := by
  intro w
  obtain ⟨k, n, s, l⟩ := t
  cases d with
  | zero => exact h.elim
  | succ d =>
    rcases h with ⟨e, _, rfl⟩ | ⟨e, _, rfl⟩ | ⟨e, _, rfl⟩ | ⟨e, _, rfl⟩ | ⟨e, _, rfl⟩ | ⟨e, ao, cap, rfl, _⟩
    · simp only at e
      subst e
      exact kind_Int n w
    · simp only at e
      subst e
      exact kind_Str s w
    · simp only at e
      subst e
      exact kind_Bool _ w
    · simp only at e
      subst e
      exact kind_Box n w
    · simp only at e
      subst e
      exact kind_nil w
    · simp only at e
      rcases e with e | e
      · subst e
        exact kind_List _ _ _ w
      · subst e
        exact kind_Quot _ _ _ w
/-- is a value of one of the kinds k? -/
def fb (t : Vt) (k : Int) : Bool := !(bits BinOp.and IntKind.i64 (kd t) k == 0)
/-- are values of the kinds ks, one by one? -/
def fitB : List Vt → List Int → Bool
  | [], _ => true
  | _ :: _, [] => true
  | t :: l, k :: ks => fb t k && fitB l ks
theorem fitB_eq : ∀ (l : List Vt) (ks : List Int), l.length = ks.length → (fitB l ks = true ↔ ∀ (j : Nat) (x : Vt) (k : Int), l[j]? = some x → ks[j]? = some k → fb x k = true)
  | [], _, _ => ⟨fun _ j x k h => by simp at h, fun _ => rfl⟩
  | _ :: _, [], h => by simp at h
  | t :: l, k :: ks, h => by
    have ih := fitB_eq l ks (by simpa using h)
    simp only [fitB, Bool.and_eq_true, ih]
    constructor
    · rintro ⟨h1, h2⟩ j x y hx hy
      cases j with
      | zero => simp at hx hy; subst hx; subst hy; exact h1
      | succ j => exact h2 j x y (by simpa using hx) (by simpa using hy)
    · intro g
      exact ⟨g 0 t k rfl rfl, fun j x y hx hy => g (j + 1) x y (by simpa using hx) (by simpa using hy)⟩
set_option maxRecDepth 100000 in
set_option maxHeartbeats 4000000 in
theorem fit_any {d : Nat} {l : List Vt} {ks : List Int} {ao : Option Addr} {K cap : Nat} {w : World} {S : Nat → Prop} (hl : PsAt w S d false l ao) (hks : ∀ j k, ks[j]? = some k → w.cell? ⟨K, j, none⟩ = some (.int .i64 k)) (he : l.length = ks.length) (hlen : l.length ≤ 2513169434900) : Calls Tryz.prog 14 #[.slice ao l.length cap, .slice (some ⟨K, 0, none⟩) l.length l.length] w fun e w' => e = .returned (.bool (fitB l ks)) ∧ Only (fun _ => False) w w' := by
  obtain ⟨Z, hZ⟩ : ∃ Z, Z = fitB l ks := ⟨_, rfl⟩
  obtain ⟨N, hN⟩ : ∃ N, N = l.length := ⟨_, rfl⟩
  have HN : Hid (N = l.length ∧ N ≤ 2513169434900 ∧ N = ks.length) := ⟨hN, by omega, by omega⟩
  have HT : Hid (PsAt w S d false l ao ∧ (∀ j k, ks[j]? = some k → w.cell? ⟨K, j, none⟩ = some (.int .i64 k))) := ⟨hl, hks⟩
  have HF : Hid (∀ (j : Nat) (x : Vt) (k : Int), l[j]? = some x → ks[j]? = some k → fb x k = false → Z = false) := fun j x k hx hk hf => by
    cases hz : Z with
    | false => rfl
    | true =>
      have := (fitB_eq l ks he).1 (by rw [← hZ]; exact hz) j x k hx hk
      rw [hf] at this
      cases this
  have HY : Hid ((∀ (j : Nat) (x : Vt) (k : Int), l[j]? = some x → ks[j]? = some k → fb x k = true) → Z = true) := fun g => by rw [hZ]; exact (fitB_eq l ks he).2 g
  rw [← hZ, ← hN]
  clear hl hks he hlen hN hZ
  go_enter Tryz.func14, Tryz.ntmps14
  go_wp2
  go_loopw [9] (fun r wr => ∃ j : Nat, r = .int .i64 (j : Int) ∧ j ≤ N ∧ Hid (Only (fun _ => False) w wr ∧ ∀ (i : Nat) (x : Vt) (k : Int), i < j → l[i]? = some x → ks[i]? = some k → fb x k = true)) (fun r _ => N - vuOf r)
  case atStart => exact ⟨0, rfl, Nat.zero_le _, Only.refl _ _, fun i x k h => by omega⟩
  case round =>
    obtain ⟨j, rfl, hj, HI⟩ := hrel
    obtain ⟨w2, hw2⟩ : ∃ w2, w2 = wr := ⟨_, rfl⟩
    rw [← hw2] at HI ⊢
    clear hw2
    by_cases hjN : j < N
    · obtain ⟨x, hx⟩ : ∃ x, l[j]? = some x := ⟨l[j]'(by rw [← HN.out.1]; exact hjN), List.getElem?_eq_getElem _⟩
      obtain ⟨k, hk⟩ : ∃ k, ks[j]? = some k := ⟨ks[j]'(by rw [← HN.out.2.2]; exact hjN), List.getElem?_eq_getElem _⟩
      obtain ⟨g, q, u, ha, hSg, hcw, ht⟩ := HT.out.1 j x hx
      have hcell : w2.cell? ⟨g, q + j, none⟩ = some u := HI.out.1.cell hcw (fun g => g)
      have hKc : ∀ w3, Only (fun _ => False) w2 w3 → w3.cell? ⟨K, j, none⟩ = some (.int .i64 k) := fun w3 o => o.cell (HI.out.1.cell (HT.out.2 j k hk) (fun g => g)) (fun g => g)
      have HC : Hid _ := kind_any ht
      have HX : Hid (j < N ∧ l[j]? = some x ∧ ks[j]? = some k) := ⟨hjN, hx, hk⟩
      have HK : Hid _ := hKc
      have hK0 := hKc w2 (Only.refl _ _)
      have O2 : Hid (Only (fun _ => False) w2 w2) := Only.refl _ _
      have i1 : (j : Int) < (N : Int) := by omega
      have i0 : (0 : Int) ≤ (j : Int) := by omega
      have i4 : j ≤ 2513169434900 := by have := HN.out.2.1; omega
      subst ha
      obtain ⟨y, hy⟩ : ∃ y, y = kd x := ⟨_, rfl⟩
      rw [← hy] at HC
      have HYE : Hid (y = kd x) := hy
      clear hx hk hjN hj hSg hcw ht hKc hy
      cases hb : (bits BinOp.and IntKind.i64 y k == 0) with
      | true =>
        have HB : Hid (fb x k = false) := by unfold fb Hid; rw [← HYE.out, hb]; rfl
        go_wp2
        go_region_held3 (fun w3 => w3.cell? ⟨K, j, none⟩ = some (.int .i64 k))
          (first | with_reducible exact HK.out _ O2.out | with_reducible exact HK.out _ O2.out.drew | with_reducible exact HK.out _ O2.out.drew.drew)
          (first
            | (go_at_call 23; refine (show Calls Tryz.prog 23 _ _ _ from HC.out _).mono ?_; rintro ex w4 ⟨rfl, rfl⟩))
        go_wp2
        go_ret
        refine ⟨by rw [HF.out j x k HX.out.2.1 HX.out.2.2 HB.out]; rfl, ?_⟩
        repeat (first | exact HI.out.1 | refine Only.drew ?_)
      | false =>
        have HB : Hid (fb x k = true) := by unfold fb Hid; rw [← HYE.out, hb]; rfl
        go_wp2
        go_region_held3 (fun w3 => w3.cell? ⟨K, j, none⟩ = some (.int .i64 k))
          (first | with_reducible exact HK.out _ O2.out | with_reducible exact HK.out _ O2.out.drew | with_reducible exact HK.out _ O2.out.drew.drew)
          (first
            | (go_at_call 23; refine (show Calls Tryz.prog 23 _ _ _ from HC.out _).mono ?_; rintro ex w4 ⟨rfl, rfl⟩))
        have HI2 : Hid (Only (fun _ => False) w w2.drew ∧ ∀ (i : Nat) (x : Vt) (k : Int), i < j + 1 → l[i]? = some x → ks[i]? = some k → fb x k = true) := ⟨HI.out.1.drew, fun i z y hi hz hy => by
          by_cases e : i = j
          · subst e
            have a1 := HX.out.2.1
            have a2 := HX.out.2.2
            rw [hz] at a1
            rw [hy] at a2
            injection a1 with a1
            injection a2 with a2
            subst a1
            subst a2
            exact HB.out
          · exact HI.out.2 i z y (by omega) hz hy⟩
        have HJ : Hid (j < N) := HX.out.1
        clear HC HX HI HK O2 hK0 hcell HB
        go_wp2
        go_roundw
        case rel => exact ⟨j + 1, by go_num, by have := HJ.out; omega, HI2⟩
        case measure => simp only [vuOf]; have := HJ.out; omega
    · obtain rfl : j = N := by omega
      have i1 : ¬ (j : Int) < (j : Int) := by omega
      have HE : Hid (Z = true) := HY.out (fun i x k hx hk => HI.out.2 i x k (by rw [HN.out.1]; exact (List.getElem?_eq_some_iff.1 hx).1) hx hk)
      clear hjN hj
      go_wp2
      go_ret
      exact ⟨by rw [HE.out]; rfl, HI.out.1⟩
end Go.Proofs.YtioffjdjnlibgaaGreatDoor
namespace Go.Proofs
open Go.Shelf
def Tryz.laysFmt_ren : Go.Shelf.Ren := ⟨fun | 173 => 124 | 246 => 132 | 283 => 136 | 284 => 137 | 285 => 138 | 286 => 139 | 129 => 144 | 317 => 143 | 318 => 145 | 319 => 146 | 320 => 147 | 337 => 150 | 338 => 151 | n => n, fun | 2 => 2 | 3 => 3 | 9 => 9 | 4 => 4 | 171 => 226 | 0 => 0 | 53 => 131 | 37 => 150 | 5 => 5 | 173 => 229 | 212 => 234 | 51 => 137 | 20 => 20 | 213 => 235 | 46 => 190 | 232 => 238 | 233 => 239 | n => n, fun | 17 => 6 | 18 => 7 | 19 => 8 | n => n⟩
theorem Tryz.laysFmt : Go.Proofs.LaysM.n173 Tryz.prog Tryz.laysFmt_ren := {
  mixed := by kernel_rfl
  f129 := Tryz.func144.trans (congrArg some (by kernel_rfl))
  f173 := Tryz.func124.trans (congrArg some (by kernel_rfl))
  f246 := Tryz.func132.trans (congrArg some (by kernel_rfl))
  f283 := Tryz.func136.trans (congrArg some (by kernel_rfl))
  f284 := Tryz.func137.trans (congrArg some (by kernel_rfl))
  f285 := Tryz.func138.trans (congrArg some (by kernel_rfl))
  f286 := Tryz.func139.trans (congrArg some (by kernel_rfl))
  f317 := Tryz.func143.trans (congrArg some (by kernel_rfl))
  f318 := Tryz.func145.trans (congrArg some (by kernel_rfl))
  f319 := Tryz.func146.trans (congrArg some (by kernel_rfl))
  f320 := Tryz.func147.trans (congrArg some (by kernel_rfl))
  f337 := Tryz.func150.trans (congrArg some (by kernel_rfl))
  f338 := Tryz.func151.trans (congrArg some (by kernel_rfl))
  t0 := Tryz.underlying0
  a0 := Tryz.isAgg0
  z0 := Tryz.sizeOf0
  v0 := Tryz.zeroValue0
  t2 := Tryz.underlying2
  a2 := Tryz.isAgg2
  z2 := Tryz.sizeOf2
  v2 := Tryz.zeroValue2
  t3 := Tryz.underlying3
  a3 := Tryz.isAgg3
  z3 := Tryz.sizeOf3
  v3 := Tryz.zeroValue3
  t4 := Tryz.underlying4
  a4 := Tryz.isAgg4
  z4 := Tryz.sizeOf4
  v4 := Tryz.zeroValue4
  t5 := Tryz.underlying5
  a5 := Tryz.isAgg5
  z5 := Tryz.sizeOf5
  v5 := Tryz.zeroValue5
  t9 := Tryz.underlying9
  a9 := Tryz.isAgg9
  z9 := Tryz.sizeOf9
  v9 := Tryz.zeroValue9
  t20 := Tryz.underlying20
  a20 := Tryz.isAgg20
  z20 := Tryz.sizeOf20
  v20 := Tryz.zeroValue20
  t37 := Tryz.underlying150
  a37 := Tryz.isAgg150
  z37 := Tryz.sizeOf150
  v37 := Tryz.zeroValue150
  t46 := Tryz.underlying190
  a46 := Tryz.isAgg190
  z46 := Tryz.sizeOf190
  v46 := Tryz.zeroValue190
  t51 := Tryz.underlying137
  a51 := Tryz.isAgg137
  z51 := Tryz.sizeOf137
  v51 := Tryz.zeroValue137
  t53 := Tryz.underlying131
  a53 := Tryz.isAgg131
  z53 := Tryz.sizeOf131
  v53 := Tryz.zeroValue131
  t171 := Tryz.underlying226
  a171 := Tryz.isAgg226
  z171 := Tryz.sizeOf226
  v171 := Tryz.zeroValue226
  t173 := Tryz.underlying229
  a173 := Tryz.isAgg229
  z173 := Tryz.sizeOf229
  v173 := Tryz.zeroValue229
  t212 := Tryz.underlying234
  a212 := Tryz.isAgg234
  z212 := Tryz.sizeOf234
  v212 := Tryz.zeroValue234
  t213 := Tryz.underlying235
  a213 := Tryz.isAgg235
  z213 := Tryz.sizeOf235
  t232 := Tryz.underlying238
  a232 := Tryz.isAgg238
  z232 := Tryz.sizeOf238
  v232 := Tryz.zeroValue238
  t233 := Tryz.underlying239
  a233 := Tryz.isAgg239
  z233 := Tryz.sizeOf239
  v233 := Tryz.zeroValue239
  g17 := by kernel_rfl
  g18 := by kernel_rfl
  g19 := by kernel_rfl
  i0 := by kernel_rfl
  i2 := by kernel_rfl
  i3 := by kernel_rfl
  i4 := by kernel_rfl
  i5 := by kernel_rfl
  i9 := by kernel_rfl
  i20 := by kernel_rfl
  i37 := by kernel_rfl
  i46 := by kernel_rfl
  i51 := by kernel_rfl
  i53 := by kernel_rfl
  i171 := by kernel_rfl
  i173 := by kernel_rfl
  i212 := by kernel_rfl
  i232 := by kernel_rfl
  i233 := by kernel_rfl
  m17 := by kernel_rfl
  m18 := by kernel_rfl
  m19 := by kernel_rfl }
def Tryz.laysJoin_ren : Go.Shelf.Ren := ⟨fun | 156 => 64 | 165 => 80 | 166 => 81 | 169 => 82 | 240 => 101 | 241 => 102 | 276 => 107 | 277 => 108 | n => n, fun | 31 => 53 | 9 => 9 | 3 => 3 | 4 => 4 | 0 => 0 | 20 => 20 | 72 => 152 | 76 => 156 | 70 => 149 | 37 => 150 | 75 => 155 | 127 => 186 | 164 => 197 | 5 => 5 | 80 => 158 | n => n, fun | n => n⟩
theorem Tryz.laysJoin : Go.Proofs.Lays.n156 Tryz.prog Tryz.laysJoin_ren := {
  mixed := by kernel_rfl
  f156 := Tryz.func64.trans (congrArg some (by kernel_rfl))
  f165 := Tryz.func80.trans (congrArg some (by kernel_rfl))
  f166 := Tryz.func81.trans (congrArg some (by kernel_rfl))
  f169 := Tryz.func82.trans (congrArg some (by kernel_rfl))
  f240 := Tryz.func101.trans (congrArg some (by kernel_rfl))
  f241 := Tryz.func102.trans (congrArg some (by kernel_rfl))
  f276 := Tryz.func107.trans (congrArg some (by kernel_rfl))
  f277 := Tryz.func108.trans (congrArg some (by kernel_rfl))
  t0 := Tryz.underlying0
  a0 := Tryz.isAgg0
  z0 := Tryz.sizeOf0
  v0 := Tryz.zeroValue0
  t3 := Tryz.underlying3
  a3 := Tryz.isAgg3
  z3 := Tryz.sizeOf3
  v3 := Tryz.zeroValue3
  t4 := Tryz.underlying4
  a4 := Tryz.isAgg4
  z4 := Tryz.sizeOf4
  v4 := Tryz.zeroValue4
  t9 := Tryz.underlying9
  a9 := Tryz.isAgg9
  z9 := Tryz.sizeOf9
  v9 := Tryz.zeroValue9
  t20 := Tryz.underlying20
  a20 := Tryz.isAgg20
  z20 := Tryz.sizeOf20
  v20 := Tryz.zeroValue20
  t31 := Tryz.underlying53
  a31 := Tryz.isAgg53
  z31 := Tryz.sizeOf53
  v31 := Tryz.zeroValue53
  t37 := Tryz.underlying150
  a37 := Tryz.isAgg150
  z37 := Tryz.sizeOf150
  v37 := Tryz.zeroValue150
  t70 := Tryz.underlying149
  a70 := Tryz.isAgg149
  z70 := Tryz.sizeOf149
  v70 := Tryz.zeroValue149
  t72 := Tryz.underlying152
  a72 := Tryz.isAgg152
  z72 := Tryz.sizeOf152
  v72 := Tryz.zeroValue152
  t75 := Tryz.underlying155
  a75 := Tryz.isAgg155
  z75 := Tryz.sizeOf155
  v75 := Tryz.zeroValue155
  t76 := Tryz.underlying156
  a76 := Tryz.isAgg156
  z76 := Tryz.sizeOf156
  v76 := Tryz.zeroValue156
  t127 := Tryz.underlying186
  a127 := Tryz.isAgg186
  z127 := Tryz.sizeOf186
  v127 := Tryz.zeroValue186
  t164 := Tryz.underlying197
  a164 := Tryz.isAgg197
  z164 := Tryz.sizeOf197
  v164 := Tryz.zeroValue197 }
theorem Tryz.joinExtra : Go.Proofs.Builder.Extra Tryz.prog Tryz.laysJoin_ren := {
  sizeBuilder := by kernel_rfl
  liesBuilder := by kernel_rfl
  t5 := Tryz.underlying5
  a5 := Tryz.isAgg5
  z5 := Tryz.sizeOf5
  v5 := Tryz.zeroValue5
  infoByte := by kernel_rfl
  cellsByte := by kernel_rfl
  sizeByte := by kernel_rfl
  neB5 := by decide }
end Go.Proofs
namespace Go.Proofs.YtioffjdjnlibgaaGreatDoor
open Go.RowKit
set_option linter.unusedSimpArgs false
set_option linter.unusedVariables false
theorem Only.drewN {bs : Nat → Prop} {a w : World} (h : Only bs a w) (n : Nat) : Only bs a (w.drewN n) := ⟨h.os, h.tape, h.output, h.size, h.block⟩
section
variable {P : Program} {n l : Nat} {ops : Array Oper} {op : Oper} {a : Act} {w w' : World} {K : Act → World → Prop} {Q : Exit → Act → World → Prop}
theorem wp_call_func {f : Nat} (args : Array Operand) (tys : Array TypeId) (ho : op.op = .call { callee := .value (.func f), args := args, argTypes := tys }) (vs : Array Value) (hvs : args.map a.eval = vs) (he : ∀ args w, (callFunc f args).run P w = .ok (.enter f args) w)
    {R : Ending → World → Prop} (hc : Calls P f vs w R) (hR : ∀ e w', R e w' → ∃ v, e = .returned v ∧ K (a.put op.dst v) w') : op.wp P a w K Q := by
  have hr : (execOp a.eval op).run P w = .ok (.enter f vs) w := by
    simp [execOp, ho, resolve, invoke, go_sem, he, hvs, Result.andThen]
  unfold Oper.wp
  rw [hr, Oper.upon_enter]
  refine hc.mono fun e w' h => ?_
  obtain ⟨v, rfl, hk⟩ := hR e w' h
  exact hk
end
end Go.Proofs.YtioffjdjnlibgaaGreatDoor
namespace Go.Proofs.YtioffjdjnlibgaaGreatDoor
open Go.RowKit Go.Lib
set_option linter.unusedSimpArgs false
set_option linter.unusedVariables false
set_option maxRecDepth 10000 in
/-- What is decoded is a character. -/
theorem decode_vr (s : ByteArray) (pos : Nat) : Vr (Utf8.decode s pos).1 := by
  rw [decode_at]
  have k0 := (s.get! pos).toNat_lt
  have k1 := (s.get! (pos + 1)).toNat_lt
  have k2 := (s.get! (pos + 2)).toNat_lt
  have k3 := (s.get! (pos + 3)).toNat_lt
  unfold Vr
  rcases decodeN_shape (s.size - pos) (s.get! pos).toNat (s.get! (pos + 1)).toNat (s.get! (pos + 2)).toNat (s.get! (pos + 3)).toNat with ⟨c, e⟩ | ⟨c1, c2, c3, cv, e⟩ | ⟨c1, c2, c3, c4, cv, cs, e⟩ | ⟨c1, c2, c3, c4, c5, cv, cw, e⟩ | e <;> rw [e] <;> dsimp only <;> omega
/-- The bytes of characters. -/
def enL (l : List Nat) : List UInt8 := l.flatMap fun (r : Nat) => encodeRune (r : Int)
def tx (l : List Nat) : ByteArray := ⟨(enL l).toArray⟩
theorem alloc_at (W : World) (o : Obj) (n : Nat) (h : n = W.heap.size) : (W.alloc o).heap[n]? = some o := by
  subst h
  exact Array.getElem?_push_size ..
theorem enL_app (a b : List Nat) : enL (a ++ b) = enL a ++ enL b := by simp [enL]
theorem decode_wd (s : ByteArray) (pos : Nat) (h : pos < s.size) : pos + (Utf8.decode s pos).2 ≤ s.size := by
  rw [decode_at]
  rcases decodeN_shape (s.size - pos) (s.get! pos).toNat (s.get! (pos + 1)).toNat (s.get! (pos + 2)).toNat (s.get! (pos + 3)).toNat with ⟨c, e⟩ | ⟨c1, c2, c3, cv, e⟩ | ⟨c1, c2, c3, c4, cv, cs, e⟩ | ⟨c1, c2, c3, c4, c5, cv, cw, e⟩ | e <;> rw [e] <;> dsimp only <;> omega
theorem stL_le (s : ByteArray) : ∀ (b pos : Nat), stL s (crs s b pos) ≤ s.size
  | 0, pos => by simp [crs, stL]
  | b + 1, pos => by
    by_cases hp : pos < s.size
    · rw [show crs s (b + 1) pos = (pos, (Utf8.decode s pos).1) :: crs s b (pos + (Utf8.decode s pos).2) by simp [crs, hp]]
      unfold stL
      split
      · exact Nat.le_of_lt hp
      · exact stL_le s b _
    · rw [crs_end hp]
      exact Nat.le_refl _
theorem addr_add (g k : Nat) : (⟨g, 0, none⟩ : Addr).add k = ⟨g, k, none⟩ := by
  unfold Addr.add
  split
  · simp_all
  · simp
theorem owns_lower {w : World} {B C : Nat} {e : TypeId} {sz : Nat} {v : Value} {n : Nat} {xs : List Value} (h : w.ownsRowF B e sz v n xs) (hC : C ≤ B) : w.ownsRowF C e sz v n xs := by
  refine ⟨h.1, ?_⟩
  rcases h.2 with g | ⟨g, cap, cur, fz, h1, h2, h3⟩
  · exact .inl g
  · exact .inr ⟨g, cap, cur, fz, h1, by omega, h3⟩
def wr (c : Nat) : Nat := (encodeRune (c : Int)).length
def wl (l : List Nat) : Nat := (enL l).length
def VL (l : List Nat) : Prop := ∀ c ∈ l, Vr c
theorem wl_nil : wl [] = 0 := rfl
theorem wl_cons (c : Nat) (l : List Nat) : wl (c :: l) = wr c + wl l := by simp [wl, wr, enL]
theorem wl_app (a b : List Nat) : wl (a ++ b) = wl a + wl b := by simp [wl, enL]
theorem wr_pos (c : Nat) : 1 ≤ wr c := by
  have := (runeCells_le (c : Int)).1
  rw [runeCells_length] at this
  exact this
theorem tx_size (l : List Nat) : (tx l).size = wl l := by simp [tx, wl, ByteArray.size]
theorem tx_data (l : List Nat) : (tx l).data.toList = enL l := by simp [tx]
theorem tx_inj {s : ByteArray} {l : List Nat} (h : s.data.toList = enL l) : s = tx l := by
  apply ByteArray.ext
  apply Array.toList_inj.1
  rw [tx_data, h]
theorem byte_of {n : Nat} (h : n < 256) : n.toUInt8.toNat = n := by
  show (UInt8.ofNat n).toNat = n
  rw [UInt8.toNat_ofNat']
  omega
theorem enc1 {c : Nat} (h : c ≤ 127) : encodeRune (c : Int) = [c.toUInt8] := by
  unfold encodeRune
  rw [encodeRuneZ_one (by omega) (by omega)]
  simp
theorem enc2 {c : Nat} (h0 : 128 ≤ c) (h1 : c ≤ 2047) : encodeRune (c : Int) = [(192 + c / 64).toUInt8, (128 + c % 64).toUInt8] := by
  unfold encodeRune
  rw [encodeRuneZ_two (by omega) (by omega)]
  simp only [List.map_cons, List.map_nil]
  congr 2 <;> omega
theorem enc3 {c : Nat} (h : (2048 ≤ c ∧ c < 55296) ∨ (57343 < c ∧ c ≤ 65535)) : encodeRune (c : Int) = [(224 + c / 4096).toUInt8, (128 + c / 64 % 64).toUInt8, (128 + c % 64).toUInt8] := by
  unfold encodeRune
  rw [encodeRuneZ_three (by omega)]
  simp only [List.map_cons, List.map_nil]
  congr 2
theorem enc4 {c : Nat} (h0 : 65536 ≤ c) (h1 : c ≤ 1114111) : encodeRune (c : Int) = [(240 + c / 262144).toUInt8, (128 + c / 4096 % 64).toUInt8, (128 + c / 64 % 64).toUInt8, (128 + c % 64).toUInt8] := by
  unfold encodeRune
  rw [encodeRuneZ_four (by omega) (by omega)]
  simp only [List.map_cons, List.map_nil]
  congr 2
/-- What was encoded is decoded. -/
theorem decodeL_enc {c : Nat} (hc : Vr c) (t : List UInt8) : decodeL (encodeRune (c : Int) ++ t) = (c, wr c) := by
  unfold wr
  rw [decodeL_N]
  unfold Vr at hc
  by_cases h1 : c ≤ 127
  · rw [enc1 h1]
    simp only [List.cons_append, List.nil_append, List.getD_cons_zero, List.length_cons, List.length_nil]
    rw [byte_of (by omega)]
    unfold decodeN
    rw [if_pos (by omega)]
  · by_cases h2 : c ≤ 2047
    · rw [enc2 (by omega) h2]
      simp only [List.cons_append, List.nil_append, List.getD_cons_zero, List.getD_cons_succ, List.length_cons, List.length_nil]
      rw [byte_of (by omega), byte_of (by omega)]
      unfold decodeN
      rw [if_neg (by omega), if_pos ⟨by omega, by omega, by omega⟩, if_pos (by omega)]
      congr 1
      omega
    · by_cases h3 : c ≤ 65535
      · rw [enc3 (by omega)]
        simp only [List.cons_append, List.nil_append, List.getD_cons_zero, List.getD_cons_succ, List.length_cons, List.length_nil]
        rw [byte_of (by omega), byte_of (by omega), byte_of (by omega)]
        unfold decodeN
        have e : (224 + c / 4096) % 16 * 4096 + (128 + c / 64 % 64) % 64 * 64 + (128 + c % 64) % 64 = c := by omega
        rw [if_neg (by omega), if_neg (by omega), if_pos ⟨by omega, ⟨by omega, by omega⟩, by omega, by omega⟩, e, if_pos ⟨by omega, by omega⟩]
      · rw [enc4 (by omega) (by omega)]
        simp only [List.cons_append, List.nil_append, List.getD_cons_zero, List.getD_cons_succ, List.length_cons, List.length_nil]
        rw [byte_of (by omega), byte_of (by omega), byte_of (by omega), byte_of (by omega)]
        unfold decodeN
        have e : (240 + c / 262144) % 8 * 262144 + (128 + c / 4096 % 64) % 64 * 4096 + (128 + c / 64 % 64) % 64 * 64 + (128 + c % 64) % 64 = c := by omega
        rw [if_neg (by omega), if_neg (by omega), if_neg (by omega), if_pos ⟨by omega, ⟨by omega, by omega⟩, ⟨by omega, by omega⟩, by omega, by omega⟩, e, if_pos ⟨by omega, by omega⟩]
theorem decode_tx (p : List Nat) {c : Nat} (hc : Vr c) (q : List Nat) : Utf8.decode (tx (p ++ c :: q)) (wl p) = (c, wr c) := by
  rw [← decodeL_drop, tx_data, enL_app]
  unfold wl
  rw [List.drop_left, show c :: q = [c] ++ q from rfl, enL_app, show enL [c] = encodeRune (c : Int) by simp [enL]]
  exact decodeL_enc hc _
/-- Characters with their places. -/
def pl : Nat → List Nat → List (Nat × Nat)
  | _, [] => []
  | o, c :: r => (o, c) :: pl (o + wr c) r
theorem crs_tx : ∀ (q p : List Nat) (b : Nat), VL q → wl q ≤ b → crs (tx (p ++ q)) b (wl p) = pl (wl p) q
  | [], p, b, _, _ => by
    rw [crs_end (by rw [tx_size, List.append_nil]; exact Nat.lt_irrefl _)]
    rfl
  | c :: q, p, b, h, hb => by
    have hc := h c (List.mem_cons_self ..)
    have hw := wr_pos c
    rw [wl_cons] at hb
    have hp : wl p < (tx (p ++ c :: q)).size := by rw [tx_size, wl_app, wl_cons]; omega
    obtain ⟨b', rfl, e⟩ := crs_go (b := b) hp (by rw [tx_size, wl_app, wl_cons]; omega)
    rw [e, decode_tx p hc q]
    have := crs_tx q (p ++ [c]) b' (fun x hx => h x (List.mem_cons_of_mem _ hx)) (by omega)
    rw [wl_app, wl_cons, wl_nil, Nat.add_zero, List.append_assoc] at this
    rw [show p ++ c :: q = p ++ ([c] ++ q) from rfl, this]
    rfl
theorem crs_tx0 {q : List Nat} (h : VL q) : crs (tx q) (tx q).size 0 = pl 0 q := by
  have := crs_tx q [] (tx q).size h (by rw [tx_size]; exact Nat.le_refl _)
  exact this
/-- A text that has the characters q from the place a on. -/
def Sfx (s : ByteArray) (q : List Nat) (a : Nat) : Prop := ∃ p, s = tx (p ++ q) ∧ a = wl p ∧ VL q
theorem sfx_all {q : List Nat} (h : VL q) : Sfx (tx q) q 0 := ⟨[], rfl, rfl, h⟩
theorem Sfx.size {s : ByteArray} {q : List Nat} {a : Nat} (h : Sfx s q a) : s.size = a + wl q := by
  obtain ⟨p, rfl, rfl, _⟩ := h
  rw [tx_size, wl_app]
theorem Sfx.drop {s : ByteArray} {m q : List Nat} {a : Nat} (h : Sfx s (m ++ q) a) : Sfx s q (a + wl m) := by
  obtain ⟨p, rfl, rfl, hv⟩ := h
  exact ⟨p ++ m, by rw [List.append_assoc], by rw [wl_app], fun c hc => hv c (List.mem_append_right _ hc)⟩
theorem Sfx.vl {s : ByteArray} {q : List Nat} {a : Nat} (h : Sfx s q a) : VL q := by obtain ⟨p, _, _, hv⟩ := h; exact hv
theorem Sfx.extract {s : ByteArray} {m q : List Nat} {a : Nat} (h : Sfx s (m ++ q) a) : s.extract a (a + wl m) = tx m := by
  obtain ⟨p, rfl, rfl, hv⟩ := h
  apply tx_inj
  rw [ByteArray.data_extract, Array.toList_extract, tx_data, enL_app, enL_app]
  simp [wl, List.extract, List.take_append, List.drop_append]
theorem Sfx.rest {s : ByteArray} {q : List Nat} {a : Nat} (h : Sfx s q a) : s.extract a s.size = tx q := by
  have : Sfx s (q ++ []) a := by rw [List.append_nil]; exact h
  rw [h.size]
  exact this.extract
theorem Sfx.pos {s : ByteArray} {q : List Nat} {a b : Nat} (h : Sfx s q a) (g : Sfx s q b) : a = b := by
  have := h.size
  have := g.size
  omega
theorem Sfx.decode {s : ByteArray} {c : Nat} {q : List Nat} {a : Nat} (h : Sfx s (c :: q) a) : Utf8.decode s a = (c, wr c) := by
  obtain ⟨p, rfl, rfl, hv⟩ := h
  exact decode_tx p (hv c (List.mem_cons_self ..)) q
theorem Sfx.tail {s : ByteArray} {c : Nat} {q : List Nat} {a : Nat} (h : Sfx s (c :: q) a) : Sfx s q (a + wr c) := by
  have : Sfx s ([c] ++ q) a := h
  have := this.drop
  rwa [wl_cons, wl_nil, Nat.add_zero] at this
theorem pre_take {X p : ByteArray} (h : preB X p = true) : X.data.toList.take p.size = p.data.toList := by
  unfold preB at h
  simp only [Bool.and_eq_true, decide_eq_true_eq, beq_iff_eq] at h
  have := h.2
  rw [ByteArray.toList_eq, ByteArray.toList_eq, ByteArray.data_extract, Array.toList_extract] at this
  simpa using this
/-- A text without a byte that belongs to no character is a row of characters. -/
theorem valid_from (s : ByteArray) : ∀ (b pos : Nat), pos ≤ s.size → s.size ≤ pos + b → stL s (crs s b pos) = s.size → ∃ l, VL l ∧ s.data.toList.drop pos = enL l := by
  intro b
  induction b with
  | zero =>
    intro pos h1 h2 _
    refine ⟨[], fun c hc => by simp at hc, ?_⟩
    rw [List.drop_eq_nil_of_le (by rw [Array.length_toList]; exact h2)]
    rfl
  | succ b ih =>
    intro pos h1 h2 h3
    by_cases hp : pos < s.size
    · have hw := wid_pos s pos hp
      have hwp := decode_wd s pos hp
      rw [show crs s (b + 1) pos = (pos, (Utf8.decode s pos).1) :: crs s b (pos + (Utf8.decode s pos).2) by simp [crs, hp]] at h3
      unfold stL at h3
      have hne : s.data.toList.drop pos ≠ [] := by
        intro g
        have := congrArg List.length g
        rw [List.length_drop, Array.length_toList] at this
        have : s.data.size - pos = 0 := this
        have : s.data.size = s.size := rfl
        omega
      have hdl := decodeL_drop s pos
      by_cases hbad : (Utf8.decode s pos).1 = 65533 ∧ preB (s.extract pos s.size) rpB = false
      · rw [if_pos hbad] at h3
        omega
      · rw [if_neg hbad] at h3
        obtain ⟨l, hl, e⟩ := ih (pos + (Utf8.decode s pos).2) hwp (by omega) h3
        have hv : ¬ ((decodeL (s.data.toList.drop pos)).1 = 65533 ∧ (decodeL (s.data.toList.drop pos)).2 = 1) := by
          rw [hdl]
          intro g
          have hpre : preB (s.extract pos s.size) rpB = true := by
            cases hx : preB (s.extract pos s.size) rpB with
            | true => rfl
            | false => exact absurd ⟨g.1, hx⟩ hbad
          have ht := pre_take hpre
          have hx : (s.extract pos s.size).data.toList = s.data.toList.drop pos := by
            rw [ByteArray.data_extract, Array.toList_extract]
            show List.extract _ _ _ = _
            rw [List.extract, List.take_of_length_le]
            rw [List.length_drop, Array.length_toList]
            exact Nat.le_refl _
          rw [hx] at ht
          have e3 : s.data.toList.drop pos = encodeRune ((65533 : Nat) : Int) ++ (s.data.toList.drop pos).drop 3 := by
            have : encodeRune ((65533 : Nat) : Int) = rpB.data.toList := rfl
            rw [this, ← ht]
            exact (List.take_append_drop 3 _).symm
          rw [e3, decodeL_enc (by unfold Vr; omega)] at hdl
          rw [← hdl] at g
          exact absurd g.2 (by decide)
        have he := encode_decode _ hne hv
        rw [hdl] at he
        refine ⟨(Utf8.decode s pos).1 :: l, ?_, ?_⟩
        · intro c hc
          rcases List.mem_cons.1 hc with rfl | hc
          · exact decode_vr s pos
          · exact hl c hc
        · rw [show enL ((Utf8.decode s pos).1 :: l) = encodeRune ((Utf8.decode s pos).1 : Int) ++ enL l by simp [enL], he, ← e, ← List.drop_drop, List.take_append_drop]
    · refine ⟨[], fun c hc => by simp at hc, ?_⟩
      rw [List.drop_eq_nil_of_le (by rw [Array.length_toList]; show s.size ≤ pos; omega)]
      rfl
theorem valid_tx {s : ByteArray} (h : ¬ stR s < s.size) : ∃ l, VL l ∧ s = tx l := by
  have h2 := stL_le s s.size 0
  unfold stR at h
  obtain ⟨l, hl, e⟩ := valid_from s s.size 0 (Nat.zero_le _) (by omega) (by omega)
  rw [List.drop_zero] at e
  exact ⟨l, hl, tx_inj e⟩
theorem stR_tx {l : List Nat} (h : VL l) : ¬ stR (tx l) < (tx l).size := by
  have key : ∀ (q : List Nat) (o : Nat), Sfx (tx l) q o → stL (tx l) (pl o q) = (tx l).size := by
    intro q
    induction q with
    | nil => intro o _; rfl
    | cons c q ih =>
      intro o ho
      rw [pl]
      unfold stL
      rw [if_neg]
      · exact ih _ ho.tail
      · rintro ⟨rfl, hp⟩
        rw [ho.rest] at hp
        have e : (tx (65533 :: q)).extract 0 3 = tx [65533] := by
          have : Sfx (tx (65533 :: q)) ([65533] ++ q) 0 := sfx_all ho.vl
          have := this.extract
          rwa [show 0 + wl [65533] = 3 from rfl] at this
        unfold preB at hp
        rw [show rpB.size = 3 from rfl, e, show tx [65533] = rpB from rfl] at hp
        have hz : 3 ≤ (tx (65533 :: q)).size := by rw [tx_size, wl_cons, show wr 65533 = 3 from rfl]; omega
        rw [decide_eq_true hz] at hp
        simp at hp
  unfold stR
  rw [crs_tx0 h, key l 0 (sfx_all h)]
  omega
/-- A character of a text: its number, its place, the place behind it, and whether the byte belongs to none. -/
structure Chr where
  r : Nat
  a : Nat
  z : Nat
  b : Bool
def chr1 (s : ByteArray) (x : Nat × Nat) : Chr := if x.2 = 65533 ∧ preB (s.extract x.1 s.size) rpB = false then ⟨x.2, x.1, x.1 + 1, true⟩ else ⟨x.2, x.1, x.1 + wr x.2, false⟩
def chrL (s : ByteArray) : List Chr := (chs s).map (chr1 s)
def chCs (l : List Chr) : List Value := l.flatMap fun c => [.int .i32 (c.r : Int), .int .i64 (c.a : Int), .int .i64 (c.z : Int), .bool c.b]
theorem chCs_snoc (l : List Chr) (c : Chr) : chCs (l ++ [c]) = chCs l ++ [.int .i32 (c.r : Int), .int .i64 (c.a : Int), .int .i64 (c.z : Int), .bool c.b] := by simp [chCs]
theorem chCs_get : ∀ (l : List Chr) (i : Nat) (t : Chr), l[i]? = some t → (chCs l)[i * 4]? = some (.int .i32 (t.r : Int)) ∧ (chCs l)[i * 4 + 1]? = some (.int .i64 (t.a : Int)) ∧ (chCs l)[i * 4 + 2]? = some (.int .i64 (t.z : Int)) ∧ (chCs l)[i * 4 + 3]? = some (.bool t.b)
  | [], i, t, h => by simp at h
  | x :: l, 0, t, h => by
    simp only [List.getElem?_cons_zero, Option.some.injEq] at h
    subst h
    simp [chCs]
  | x :: l, i + 1, t, h => by
    have := chCs_get l i t (by simpa using h)
    have e : ∀ k, (chCs (x :: l))[k + 4]? = (chCs l)[k]? := fun k => by simp [chCs]
    rw [show (i + 1) * 4 = i * 4 + 4 by omega, show i * 4 + 4 + 1 = i * 4 + 1 + 4 by omega, show i * 4 + 4 + 2 = i * 4 + 2 + 4 by omega, show i * 4 + 4 + 3 = i * 4 + 3 + 4 by omega, e, e, e, e]
    exact this
/-- The language's own encoding of a character. -/
theorem encode_tx {c : Nat} (hc : Vr c) : Utf8.encode (c : Int) = tx [c] := by
  apply tx_inj
  rw [show enL [c] = encodeRune (c : Int) by simp [enL]]
  have hv : Utf8.valid (c : Int) = true := by
    unfold Vr at hc
    simp only [Utf8.valid, Bool.and_eq_true, Bool.or_eq_true, decide_eq_true_eq]
    omega
  unfold Utf8.encode
  simp only [hv, if_true, Int.toNat_natCast]
  unfold Vr at hc
  by_cases h1 : c ≤ 127
  · rw [enc1 h1, if_pos (by omega)]
  · by_cases h2 : c ≤ 2047
    · rw [enc2 (by omega) h2, if_neg (by omega), if_pos (by omega)]
    · by_cases h3 : c ≤ 65535
      · rw [enc3 (by omega), if_neg (by omega), if_neg (by omega), if_pos (by omega)]
      · rw [enc4 (by omega) (by omega), if_neg (by omega), if_neg (by omega), if_neg (by omega)]
theorem wr_le (c : Nat) : wr c ≤ 4 := by
  have := (runeCells_le (c : Int)).2
  rw [runeCells_length] at this
  exact this
theorem ext3 (s : ByteArray) (i : Nat) (h : i + 3 ≤ s.size) : (s.extract i s.size).extract 0 3 = s.extract i (i + 3) := by
  apply ByteArray.ext
  simp only [ByteArray.data_extract, Array.extract_extract, Nat.add_zero]
  rw [show min (i + 3) s.size = i + 3 by omega]
theorem list_inj {x y : ByteArray} (h : x.toList = y.toList) : x = y := by
  rw [ByteArray.toList_eq, ByteArray.toList_eq] at h
  exact ByteArray.ext (Array.toList_inj.1 h)
/-- The three bytes of the character FFFD stand at a place, or not. -/
theorem pre_three (s : ByteArray) (i : Nat) (hi : i ≤ s.size) : preB (s.extract i s.size) rpB = decide (i + 3 ≤ s.size ∧ s.extract i (i + 3) = rpB) := by
  have hz : (s.extract i s.size).size = s.size - i := by rw [ByteArray.size_extract]; omega
  unfold preB
  rw [show rpB.size = 3 from rfl, hz]
  by_cases h : i + 3 ≤ s.size
  · rw [ext3 s i h, decide_eq_true (by omega : 3 ≤ s.size - i), Bool.true_and]
    by_cases h2 : s.extract i (i + 3) = rpB
    · rw [decide_eq_true ⟨h, h2⟩, h2]
      simp
    · rw [decide_eq_false (fun g => h2 g.2), Bool.eq_false_iff]
      intro g
      exact h2 (list_inj (by simpa using g))
  · rw [decide_eq_false (by omega : ¬ 3 ≤ s.size - i), decide_eq_false (fun g => h g.1)]
    rfl
theorem new_cells (W : World) (t : TypeId) (a b c d : Value) : ∀ (j : Nat) (u : Value), [a, b, c, d][j]? = some u → (W.alloc (.cells #[a, b, c, d] t)).cell? ((⟨W.heap.size, 0, none⟩ : Addr).add j) = some u := by
  intro j u hj
  rw [addr_add, blk_cells (alloc_at W _ _ rfl)]
  simpa using hj
theorem one4 (x y z : Int) (b : Bool) : ∀ u ∈ [Value.int .i32 x, .int .i64 y, .int .i64 z, .bool b], u.oneCell' = true := by
  intro u hu
  simp only [List.mem_cons, List.not_mem_nil, or_false] at hu
  rcases hu with rfl | rfl | rfl | rfl <;> rfl
def badL : List Chr → Int
  | [] => -1
  | c :: l => if c.b = true then (c.a : Int) else badL l
theorem badL_st (s : ByteArray) : ∀ (l : List (Nat × Nat)), (∀ x ∈ l, x.1 < s.size) → badL (l.map (chr1 s)) = if stL s l < s.size then (stL s l : Int) else -1
  | [], _ => by simp [badL, stL]
  | (i, c) :: l, h => by
    have hi := h (i, c) (List.mem_cons_self ..)
    rw [List.map_cons, badL, stL]
    unfold chr1
    by_cases hb : c = 65533 ∧ preB (s.extract i s.size) rpB = false
    · rw [if_pos hb, if_pos rfl, if_pos hb, if_pos hi]
    · rw [if_neg hb, if_neg (by simp), if_neg hb]
      exact badL_st s l (fun x hx => h x (List.mem_cons_of_mem _ hx))
theorem crs_lt (s : ByteArray) : ∀ (b pos : Nat), ∀ x ∈ crs s b pos, x.1 < s.size
  | 0, pos, x, hx => by simp [crs] at hx
  | b + 1, pos, x, hx => by
    by_cases hp : pos < s.size
    · rw [show crs s (b + 1) pos = (pos, (Utf8.decode s pos).1) :: crs s b (pos + (Utf8.decode s pos).2) by simp [crs, hp]] at hx
      rcases List.mem_cons.1 hx with rfl | hx
      · exact hp
      · exact crs_lt s b _ x hx
    · rw [crs_end hp] at hx
      simp at hx
theorem crs_len (s : ByteArray) : ∀ (b pos : Nat), pos ≤ s.size → (crs s b pos).length ≤ s.size - pos
  | 0, pos, _ => by simp [crs]
  | b + 1, pos, h => by
    by_cases hp : pos < s.size
    · rw [show crs s (b + 1) pos = (pos, (Utf8.decode s pos).1) :: crs s b (pos + (Utf8.decode s pos).2) by simp [crs, hp], List.length_cons]
      have := wid_pos s pos hp
      have := decode_wd s pos hp
      have := crs_len s b (pos + (Utf8.decode s pos).2) (by omega)
      omega
    · rw [crs_end hp]
      simp
theorem chrL_len (s : ByteArray) : (chrL s).length ≤ s.size := by
  have := crs_len s s.size 0 (Nat.zero_le _)
  unfold chrL chs
  rw [List.length_map]
  omega
def badR (s : ByteArray) : Int := if stR s < s.size then (stR s : Int) else -1
theorem badR_eq (s : ByteArray) : badL (chrL s) = badR s := badL_st s _ (crs_lt s _ _)
theorem badL_drop {l : List Chr} {i : Nat} {t : Chr} (h : l[i]? = some t) : badL (l.drop i) = if t.b = true then (t.a : Int) else badL (l.drop (i + 1)) := by
  have hi := (List.getElem?_eq_some_iff.1 h).1
  have : l.drop i = t :: l.drop (i + 1) := by
    rw [← (List.getElem?_eq_some_iff.1 h).2]
    exact List.drop_eq_getElem_cons hi
  rw [this, badL]
/-- The nought of a digit's script, or 0. -/
def rs (c : Nat) : Nat := if 48 ≤ c ∧ c ≤ 57 then 48 else if 1632 ≤ c ∧ c ≤ 1641 then 1632 else if 65296 ≤ c ∧ c ≤ 65305 then 65296 else 0
/-- A row of characters that can be read. -/
def RdC (w : World) (v : Value) (l : List Chr) : Prop := ∃ ao cap, v = .slice ao l.length cap ∧ l.length ≤ cap ∧ ∀ i t, l[i]? = some t → ∃ g o, ao = some ⟨g, o, none⟩ ∧ g < w.heap.size ∧ w.cell? ⟨g, o + i * 4, none⟩ = some (.int .i32 (t.r : Int)) ∧ w.cell? ⟨g, o + i * 4 + 1, none⟩ = some (.int .i64 (t.a : Int)) ∧ w.cell? ⟨g, o + i * 4 + 2, none⟩ = some (.int .i64 (t.z : Int)) ∧ w.cell? ⟨g, o + i * 4 + 3, none⟩ = some (.bool t.b)
theorem RdC.only {w w' : World} {v : Value} {l : List Chr} (h : RdC w v l) (o : Only (fun _ => False) w w') : RdC w' v l := by
  obtain ⟨ao, cap, e, hc, h⟩ := h
  refine ⟨ao, cap, e, hc, fun i t ht => ?_⟩
  obtain ⟨g, oo, e1, hg, c0, c1, c2, c3⟩ := h i t ht
  exact ⟨g, oo, e1, Nat.lt_of_lt_of_le hg o.size, o.cell c0 (fun x => x), o.cell c1 (fun x => x), o.cell c2 (fun x => x), o.cell c3 (fun x => x)⟩
/-- The digits of one script, from the first on. -/
def rnum (nt : Nat) : List Nat → Nat → Nat × Bool
  | [], n => (n, true)
  | c :: l, n => if rs c ≠ nt then (0, false) else rnum nt l (min (10 * n + (c - rs c)) 1152921504606846977)
def rminus (l : List Nat) : Bool := decide (l.head? = some 45 ∨ l.head? = some 8722)
def rrest (l : List Nat) : List Nat := if rminus l then l.tail else l
def rnumM (mn : Bool) : List Nat → Nat × Bool × Bool
  | [] => (0, mn, false)
  | c :: r => if rs c = 0 then (0, mn, false) else ((rnum (rs c) (c :: r) 0).1, mn, (rnum (rs c) (c :: r) 0).2)
def rnumL (l : List Nat) : Nat × Bool × Bool := rnumM (rminus l) (rrest l)
theorem rs_digit {c : Nat} (h : rs c ≠ 0) : rs c ≤ c ∧ c - rs c ≤ 9 := by
  unfold rs at h ⊢
  split
  · omega
  · split
    · omega
    · split
      · omega
      · rename_i h1 h2 h3
        simp [h1, h2, h3] at h
def rnV (x : Nat × Bool × Bool) : Value := .tuple #[.int .u64 (x.1 : Int), .bool x.2.1, .bool x.2.2]
theorem chr_runes (s : ByteArray) : (chrL s).map (·.r) = rns s := by
  unfold chrL rns
  rw [List.map_map]
  apply List.map_congr_left
  intro x _
  simp only [Function.comp, chr1]
  split <;> rfl
/-- The characters behind a place, as a text of its own. -/
theorem crs_tail (s : ByteArray) (n : Nat) (hn : n ≤ s.size) : ∀ (b pos : Nat), (crs (s.extract n s.size) b pos).map (·.2) = (crs s b (n + pos)).map (·.2)
  | 0, pos => rfl
  | b + 1, pos => by
    have hz : (s.extract n s.size).size = s.size - n := by rw [ByteArray.size_extract]; omega
    by_cases hp : n + pos < s.size
    · rw [show crs s (b + 1) (n + pos) = (n + pos, (Utf8.decode s (n + pos)).1) :: crs s b (n + pos + (Utf8.decode s (n + pos)).2) by simp [crs, hp]]
      rw [show crs (s.extract n s.size) (b + 1) pos = (pos, (Utf8.decode (s.extract n s.size) pos).1) :: crs (s.extract n s.size) b (pos + (Utf8.decode (s.extract n s.size) pos).2) by simp [crs, hz]; omega]
      rw [tail_decode, List.map_cons, List.map_cons, crs_tail s n hn b, Nat.add_assoc]
    · rw [crs_end (by omega), crs_end (by omega)]
theorem crs_fuel (s : ByteArray) : ∀ (b b' pos : Nat), s.size ≤ pos + b → s.size ≤ pos + b' → crs s b pos = crs s b' pos
  | b, b', pos, h, h' => by
    induction b generalizing b' pos with
    | zero => rw [crs_end (by omega), crs_end (by omega)]
    | succ b ih =>
      by_cases hp : pos < s.size
      · have := wid_pos s pos hp
        obtain ⟨b2, rfl⟩ : ∃ k, b' = k + 1 := ⟨b' - 1, by omega⟩
        rw [show crs s (b + 1) pos = (pos, (Utf8.decode s pos).1) :: crs s b (pos + (Utf8.decode s pos).2) by simp [crs, hp], show crs s (b2 + 1) pos = (pos, (Utf8.decode s pos).1) :: crs s b2 (pos + (Utf8.decode s pos).2) by simp [crs, hp], ih b2 _ (by omega) (by omega)]
      · rw [crs_end hp, crs_end hp]
theorem rns_nil {s : ByteArray} (h : s.size = 0) : rns s = [] := by
  unfold rns chs
  rw [crs_end (by omega)]
  rfl
theorem rns_cons {s : ByteArray} (h : 0 < s.size) : rns s = (Utf8.decode s 0).1 :: rns (s.extract (Utf8.decode s 0).2 s.size) := by
  have hw := wid_pos s 0 h
  have hwd := decode_wd s 0 h
  have hz : (s.extract (Utf8.decode s 0).2 s.size).size = s.size - (Utf8.decode s 0).2 := by rw [ByteArray.size_extract]; omega
  obtain ⟨b, hb, e⟩ := crs_go (s := s) (b := s.size) (pos := 0) h (by omega)
  unfold rns chs
  rw [e, List.map_cons, crs_tail s _ (by omega), Nat.add_zero, hz, Nat.zero_add]
  congr 2
  exact crs_fuel s _ _ _ (by omega) (by omega)
/-- A text begins with a character. -/
theorem pre_rune (s : ByteArray) {c : Nat} (hc : Vr c) (hb : c ≠ 65533) : preB s (tx [c]) = decide ((rns s).head? = some c) := by
  have hw := wr_pos c
  have hts : (tx [c]).size = wr c := by rw [tx_size, wl_cons, wl_nil, Nat.add_zero]
  have htd : (tx [c]).data.toList = encodeRune (c : Int) := by rw [tx_data]; simp [enL]
  rw [Bool.eq_iff_iff, decide_eq_true_iff]
  constructor
  · intro h
    have ht := pre_take h
    rw [hts, htd] at ht
    have hs : 0 < s.size := by have := preB_le h; omega
    have e3 : s.data.toList = encodeRune (c : Int) ++ s.data.toList.drop (wr c) := by
      rw [← ht]
      exact (List.take_append_drop _ _).symm
    have hd := decodeL_drop s 0
    rw [List.drop_zero, e3, decodeL_enc hc] at hd
    rw [rns_cons hs, ← hd]
    rfl
  · intro h
    by_cases hs : 0 < s.size
    · rw [rns_cons hs] at h
      simp only [List.head?_cons, Option.some.injEq] at h
      have hd := decodeL_drop s 0
      rw [List.drop_zero] at hd
      have hne : s.data.toList ≠ [] := by
        intro g
        have := congrArg List.length g
        rw [Array.length_toList] at this
        have : s.size = 0 := this
        omega
      have he := encode_decode s.data.toList hne (by rw [hd, h]; intro g; exact hb g.1)
      rw [hd, h] at he
      have hle := decodeL_le s.data.toList hne
      rw [hd] at hle
      have hl : wr c = (Utf8.decode s 0).2 := by
        unfold wr
        rw [he, List.length_take]
        omega
      unfold preB
      rw [hts]
      have hsz : s.data.toList.length = s.size := Array.length_toList
      rw [decide_eq_true (by omega : wr c ≤ s.size), Bool.true_and, beq_iff_eq, ByteArray.toList_eq, ByteArray.toList_eq, htd, he, ← hl, ByteArray.data_extract, Array.toList_extract]
      simp
    · rw [rns_nil (by omega)] at h
      simp at h
theorem hy_tx : hyB = tx [45] := rfl
theorem mi_tx : miB = tx [8722] := rfl
theorem sgn_runes (s : ByteArray) : rns (sgn s).1 = rrest (rns s) ∧ (sgn s).2 = rminus (rns s) := by
  unfold sgn rrest
  have h1 := pre_rune s (c := 45) (.inl (by decide)) (by decide)
  have h2 := pre_rune s (c := 8722) (.inl (by decide)) (by decide)
  rw [← hy_tx] at h1
  rw [← mi_tx] at h2
  rw [h1, h2]
  by_cases g1 : (rns s).head? = some 45
  · have hm : rminus (rns s) = true := by unfold rminus; exact decide_eq_true (.inl g1)
    rw [if_pos (by simpa using g1), hm, if_pos rfl]
    refine ⟨?_, rfl⟩
    have hs : 0 < s.size := by
      rcases Nat.eq_zero_or_pos s.size with h | h
      · rw [rns_nil h] at g1; simp at g1
      · exact h
    have e := rns_cons hs
    rw [e] at g1
    simp only [List.head?_cons, Option.some.injEq] at g1
    have hd : (Utf8.decode s 0).2 = 1 := by
      by_cases ha : (s[0]'hs).toNat < 128
      · rw [decode_ascii s 0 hs ha]
      · have := (decode_high s 0 hs (by omega)).1
        omega
    rw [e, hd]
    rfl
  · rw [if_neg (by simpa using g1)]
    by_cases g2 : (rns s).head? = some 8722
    · have hm : rminus (rns s) = true := by unfold rminus; exact decide_eq_true (.inr g2)
      rw [if_pos (by simpa using g2), hm, if_pos rfl]
      refine ⟨?_, rfl⟩
      have hs : 0 < s.size := by
        rcases Nat.eq_zero_or_pos s.size with h | h
        · rw [rns_nil h] at g2; simp at g2
        · exact h
      have e := rns_cons hs
      have hp : preB s (tx [8722]) = true := by rw [← mi_tx, h2]; simpa using g2
      have ht := pre_take hp
      have hd : (Utf8.decode s 0).2 = 3 := by
        have e3 : s.data.toList = encodeRune ((8722 : Nat) : Int) ++ s.data.toList.drop 3 := by
          have : encodeRune ((8722 : Nat) : Int) = (tx [8722]).data.toList := rfl
          rw [this, ← ht]
          exact (List.take_append_drop _ _).symm
        have hd := decodeL_drop s 0
        rw [List.drop_zero, e3, decodeL_enc (.inl (by decide))] at hd
        rw [← hd]
        rfl
      rw [e, hd]
      rfl
    · have hm : rminus (rns s) = false := by unfold rminus; exact decide_eq_false (fun g => g.elim g1 g2)
      rw [if_neg (by simpa using g2), hm, if_neg (by simp)]
      exact ⟨rfl, rfl⟩
theorem scr_rs (c : Nat) : scr (c : Int) = if rs c = 0 then none else some (rs c : Int) := by
  unfold scr rs inS
  simp only [decide_eq_true_eq]
  by_cases h1 : 48 ≤ c ∧ c ≤ 57
  · rw [if_pos (by omega), if_pos h1]; rfl
  · rw [if_neg (by omega), if_neg h1]
    by_cases h2 : 1632 ≤ c ∧ c ≤ 1641
    · rw [if_pos (by omega), if_pos h2]; rfl
    · rw [if_neg (by omega), if_neg h2]
      by_cases h3 : 65296 ≤ c ∧ c ≤ 65305
      · rw [if_pos (by omega), if_pos h3]; rfl
      · rw [if_neg (by omega), if_neg h3]; rfl
theorem ins_rs (c d : Nat) (h : rs d ≠ 0) : inS (c : Int) (rs d : Int) = decide (rs c = rs d) := by
  unfold inS
  rw [Bool.eq_iff_iff, decide_eq_true_iff, decide_eq_true_iff]
  unfold rs at h ⊢
  by_cases h1 : 48 ≤ d ∧ d ≤ 57
  · simp only [if_pos h1] at h ⊢
    constructor
    · intro g; rw [if_pos (by omega)]
    · intro g
      split at g
      · omega
      · split at g
        · omega
        · split at g <;> omega
  · simp only [if_neg h1] at h ⊢
    by_cases h2 : 1632 ≤ d ∧ d ≤ 1641
    · simp only [if_pos h2] at h ⊢
      constructor
      · intro g; rw [if_neg (by omega), if_pos (by omega)]
      · intro g
        split at g
        · omega
        · split at g
          · omega
          · split at g <;> omega
    · simp only [if_neg h2] at h ⊢
      by_cases h3 : 65296 ≤ d ∧ d ≤ 65305
      · simp only [if_pos h3] at h ⊢
        constructor
        · intro g; rw [if_neg (by omega), if_neg (by omega), if_pos (by omega)]
        · intro g
          split at g
          · omega
          · split at g
            · omega
            · split at g <;> omega
      · simp only [if_neg h3] at h
        exact absurd rfl h
theorem nat_rnum (d : Nat) (hd : rs d ≠ 0) : ∀ (l : List Nat) (np nr : Nat), nr = min np 1152921504606846977 → (natL l (rs d : Int) true np).2 = (rnum (rs d) l nr).2 ∧ ((rnum (rs d) l nr).2 = true → (rnum (rs d) l nr).1 = min (natL l (rs d : Int) true np).1 1152921504606846977)
  | [], np, nr, h => ⟨rfl, fun _ => h⟩
  | c :: l, np, nr, h => by
    rw [natL, rnum, ins_rs c d hd]
    by_cases hc : rs c = rs d
    · rw [if_pos (by simpa using hc), if_neg (by simpa using hc)]
      have hdg := rs_digit (c := c) (by rw [hc]; exact hd)
      refine nat_rnum d hd l _ _ ?_
      unfold dig
      rw [hc] at hdg ⊢
      split
      · omega
      · omega
    · rw [if_neg (by simpa using hc), if_pos hc]
      exact ⟨rfl, fun g => by simp at g⟩
/-- What the document's Number answers. -/
def rNumR (s : ByteArray) : Int × Int :=
  if (rnumL (rns s)).2.2 = false then (0, 9)
  else if (rnumL (rns s)).2.1 = true ∧ (rnumL (rns s)).1 ≤ 1152921504606846976 then (-((rnumL (rns s)).1 : Int), 0)
  else if 1152921504606846975 < (rnumL (rns s)).1 then (0, 11)
  else ((rnumL (rns s)).1, 0)
theorem num_same (s : ByteArray) : rNumR s = numR s ∧ ((numR s).2 = 9 ↔ (rnumL (rns s)).2.2 = false) := by
  obtain ⟨h1, h2⟩ := sgn_runes s
  unfold rNumR numR rnumL
  rw [h1, h2]
  have key : ∀ (l : List Nat) (mn : Bool), (rnumM mn l).2.1 = mn ∧ (natL l 0 false 0).2 = (rnumM mn l).2.2 ∧ ((rnumM mn l).2.2 = true → (rnumM mn l).1 = min (natL l 0 false 0).1 1152921504606846977) := by
    intro l mn
    cases l with
    | nil => exact ⟨rfl, rfl, fun g => by simp [rnumM] at g⟩
    | cons c l =>
      rw [rnumM, natL, scr_rs]
      by_cases hc : rs c = 0
      · rw [if_pos hc, if_pos hc]
        exact ⟨rfl, rfl, fun g => by simp at g⟩
      · rw [if_neg hc, if_neg hc]
        have hdg := rs_digit hc
        rw [rnum, if_neg (by simp)]
        have := nat_rnum c hc l (dig 0 c (rs c : Int)) (min (10 * 0 + (c - rs c)) 1152921504606846977) (by unfold dig; rw [if_pos (by omega)]; omega)
        exact ⟨rfl, this.1, this.2⟩
  obtain ⟨k1, k2, k3⟩ := key (rrest (rns s)) (rminus (rns s))
  obtain ⟨p, hp⟩ : ∃ p, p = natL (rrest (rns s)) 0 false 0 := ⟨_, rfl⟩
  obtain ⟨r, hr⟩ : ∃ r, r = rnumM (rminus (rns s)) (rrest (rns s)) := ⟨_, rfl⟩
  rw [← hp, ← hr] at k2 k3
  rw [← hr] at k1
  rw [← hp, ← hr]
  obtain ⟨pn, po⟩ := p
  obtain ⟨rn, rm, ro⟩ := r
  clear hp hr h1 h2 key
  obtain ⟨mn, hmn⟩ : ∃ mn, mn = rminus (rns s) := ⟨_, rfl⟩
  rw [← hmn] at k1 ⊢
  clear hmn
  dsimp only at k1 k2 k3 ⊢
  subst k1
  subst k2
  cases po with
  | false => exact ⟨rfl, by simp⟩
  | true =>
    have k4 := k3 rfl
    clear k3
    have f1 : ¬ (true = false) := by simp
    rw [if_neg f1, if_neg f1]
    cases rm with
    | true =>
      by_cases hle : pn ≤ 1152921504606846976
      · have : rn = pn := by omega
        subst this
        rw [if_pos ⟨rfl, hle⟩, if_pos ⟨rfl, hle⟩]
        simp
      · have h3 : ¬ (true = true ∧ rn ≤ 1152921504606846976) := fun g => by have := g.2; omega
        have h4 : ¬ (true = true ∧ pn ≤ 1152921504606846976) := fun g => hle g.2
        have h5 : 1152921504606846975 < rn := by omega
        have h6 : ¬ (true = false ∧ pn ≤ 1152921504606846975) := fun g => by simp at g
        rw [if_neg h3, if_neg h4, if_pos h5, if_neg h6]
        simp
    | false =>
      have h3 : ∀ x : Nat, ¬ (false = true ∧ x ≤ 1152921504606846976) := fun x g => by simp at g
      rw [if_neg (h3 rn), if_neg (h3 pn)]
      by_cases hle : pn ≤ 1152921504606846975
      · have : rn = pn := by omega
        subst this
        rw [if_neg (by omega), if_pos ⟨rfl, hle⟩]
        simp
      · have h5 : 1152921504606846975 < rn := by omega
        have h6 : ¬ (false = false ∧ pn ≤ 1152921504606846975) := fun g => hle g.2
        rw [if_pos h5, if_neg h6]
        simp
/-- What a name is, by its characters. -/
theorem nmL_all : ∀ (l : List Nat) (k : Nat), k + l.length ≤ 32 → nmL l k = (decide (0 < k + l.length) && l.all ofN)
  | [], k, h => by simp [nmL]
  | c :: l, k, h => by
    rw [List.length_cons] at h
    rw [nmL, List.all_cons, List.length_cons]
    by_cases hc : ofN c = false
    · rw [if_pos (.inr hc), hc]; simp
    · rw [if_neg (fun g => g.elim (by omega) hc), nmL_all l (k + 1) (by omega)]
      simp only [Bool.not_eq_false] at hc
      rw [hc, Bool.true_and, decide_eq_true (by omega), decide_eq_true (by omega)]
theorem nmL_long : ∀ (l : List Nat) (k : Nat), k ≤ 32 → 32 < k + l.length → nmL l k = false
  | [], k, h0, h => by simp at h; omega
  | c :: l, k, h0, h => by
    rw [nmL]
    rw [List.length_cons] at h
    split
    · rfl
    · rename_i g
      exact nmL_long l (k + 1) (by omega) (by omega)
theorem qu_tx : quB = tx [34] := rfl
theorem name_eq (s : ByteArray) : nameB s = (!(s.toList == [33]) && !decide ((rns s).head? = some 34) && decide (0 < (rns s).length) && decide ((rns s).length ≤ 32) && (rns s).all ofN && !(rnumL (rns s)).2.2) := by
  unfold nameB nmdB
  have h1 := (num_same s).2
  have h2 := pre_rune s (c := 34) (.inl (by decide)) (by decide)
  rw [← qu_tx] at h2
  rw [h2]
  have h3 : decide ((numR s).2 = 9) = !(rnumL (rns s)).2.2 := by
    rw [Bool.eq_iff_iff, decide_eq_true_iff, h1]
    simp
  rw [h3]
  cases s.toList == [33] with
  | true => simp
  | false =>
    by_cases h34 : (rns s).head? = some 34
    · simp [h34]
    · simp only [Bool.false_eq_true, if_false, decide_eq_false h34, Bool.not_false, Bool.true_and]
      by_cases hl : (rns s).length ≤ 32
      · rw [nmL_all _ 0 (by omega), decide_eq_true hl, Nat.zero_add, Bool.and_true, Bool.and_comm]
      · rw [nmL_long _ 0 (by omega) (by omega), decide_eq_false hl]
        simp
theorem all_drop {l : List Nat} {k : Nat} (h : k < l.length) (P : Nat → Bool) : (l.drop k).all P = (P (l[k]'h) && (l.drop (k + 1)).all P) := by
  rw [List.drop_eq_getElem_cons h, List.all_cons]
end Go.Proofs.YtioffjdjnlibgaaGreatDoor
