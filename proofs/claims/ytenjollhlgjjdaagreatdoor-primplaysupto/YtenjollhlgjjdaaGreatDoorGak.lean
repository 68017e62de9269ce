import Derived.Test.YtenjollhlgjjdaaGreatDoorGaa
import Derived.Test.YtenjollhlgjjdaaGreatDoorGac
import Derived.Test.YtenjollhlgjjdaaGreatDoorGah
import Derived.Test.YtenjollhlgjjdaaGreatDoorGaj
import Derived.Lib.ItoaLen
import Derived.Test.YtenjollhlgjjdaaGreatDoorGae
import Derived.Shelf.Strings.Fields
import Derived.Shelf.Slices.Turned
import Derived.Shelf.Utf8.RuneCount
import Derived.Test.YtenjollhlgjjdaaGreatDoorProg
/-           -/
set_option linter.unusedSimpArgs false
set_option linter.unusedVariables false
set_option maxRecDepth 100000
set_option maxHeartbeats 40000000
namespace Go.Proofs.YtenjollhlgjjdaaGreatDoor
open Go.RowKit Go.Lib
def Pw (w : World) : Prop := Lib.TabIs Tryz.prog w "internal/strconv.uint64pow10" .u64 Lib.pow10Tab
def Tx (w : World) : Prop := Tb w ∧ Pw w
theorem Pw.frame {w w' : World} (h : Pw w) (o : Only (fun _ => False) w w') : Pw w' := by
 unfold Pw Lib.TabIs at *
 unfold World.var? at *
 cases hg : Tryz.prog.globalNamed "internal/strconv.uint64pow10" with
 | none => rw [hg] at h; simp at h
 | some g =>
   rw [hg] at h
   simp only [Option.bind_some] at h ⊢
   cases hb : w.heap[g]? with
   | none => rw [hb] at h; simp at h
   | some ob =>
     rw [hb] at h
     rw [o.block g (Array.getElem?_eq_some_iff.1 hb).1 (fun g => g), hb]
     exact h
theorem Tx.frame {w w' : World} (h : Tx w) (o : Only (fun _ => False) w w') : Tx w' := ⟨h.1.frame o, h.2.frame o⟩
theorem only_grow {w : World} (k : Nat) (os : Array Obj) : Only (fun _ => False) w (Go.Sort.grow (w.drewN k) os) := by
 refine ⟨rfl, rfl, rfl, ?_, fun i hi _ => ?_⟩
 ·show w.heap.size ≤ (w.heap ++ os).size
  rw [Array.size_append]
  omega
 ·show (w.heap ++ os)[i]? = w.heap[i]?
  rw [Array.getElem?_append_left hi]
theorem fmt_any (n : Int) (h0 : -9223372036854775808 ≤ n) (h1 : n ≤ 9223372036854775807) (w : World) (h : Pw w) : Calls Tryz.prog 164 #[.int .i64 n, .int .i64 10] w fun e w' => e = .returned (.string ⟨(Lib.itoa n).toArray⟩) ∧ Only (fun _ => False) w w' :=
 (Any.strconv_FormatInt_10 Tryz.laysFmt n h0 h1 w h).mono fun e w' ⟨he, k, os, hw⟩ => ⟨he, by rw [hw]; exact only_grow k os⟩
def PsV (v : Value) : Prop := ∀ (M : Nat) (w : World), Tb w → MlB w M 1024 → Mg M → Calls Tryz.prog 161 #[.pointer (some ⟨M, 0, none⟩), v, .int .i64 32] w fun e w' => e = .returned (.bool true) ∧ Only (fun b => b = M) w w'
def WvV (v : Value) (t : ByteArray) : Prop := ∀ (B b : Nat) (w : World), Tx w → WrU B b [] false w → B ≤ w.heap.size → Calls Tryz.prog 158 #[.pointer (some ⟨b, 0, none⟩), v] w fun e w' => e = .returned (.tuple #[]) ∧ Hid (WrU B b (strCells t) true w' ∧ Only (fun k => B ≤ k) w w')
theorem mlB_keep {w w' : World} {M : Nat} {k : Int} (h : MlB w M k) (o : Only (fun _ => False) w w') : MlB w' M k := (o.block M (Array.getElem?_eq_some_iff.1 h).1 (fun g => g)).trans h
theorem ps_int (n : Int) (h1 : -1152921504606846976 ≤ n) (h2 : n ≤ 1152921504606846975) : PsV (.iface 35 (.agg #[.int .i64 n])) := by
 intro M w _ h _
 have HM : Hid (Calls Tryz.prog 162 #[.pointer (some ⟨M, 0, none⟩)] w fun e w' => e = .returned (.bool true) ∧ Only (fun b => b = M) w w' ∧ MlB w' M (1024 - 1)) := pmore_any M 1024 w h (by omega) (by omega)
 have hInt := va_hit 35 41 _ Tryz.underlying35 (by intro m h; cases h)
 clear h
 go_enter Tryz.func161, Tryz.ntmps161
 go_wp2_with fail
 refine (show Calls Tryz.prog 162 _ _ _ from HM.out).mono ?_
 rintro e w1 ⟨rfl, o1, _⟩
 have O1 : Hid (Only (fun b => b = M) w w1) := o1
 clear HM o1
 go_wp2
 all_goals
  go_ret
  exact ⟨by simp [*], O1.out.alloc _⟩
theorem ps_bool (b : Bool) : PsV (.iface 61 (.agg #[.bool b])) := by
 intro M w _ h _
 have HM : Hid (Calls Tryz.prog 162 #[.pointer (some ⟨M, 0, none⟩)] w fun e w' => e = .returned (.bool true) ∧ Only (fun b => b = M) w w' ∧ MlB w' M (1024 - 1)) := pmore_any M 1024 w h (by omega) (by omega)
 have hInt := va_miss 61 35 41 _ Tryz.underlying35 (by intro m h; cases h) (by decide) _ zI
 have hStr := va_miss 61 59 41 _ Tryz.underlying59 (by intro m h; cases h) (by decide) _ zS
 have hBl := va_hit 61 41 _ Tryz.underlying61 (by intro m h; cases h)
 clear h
 go_enter Tryz.func161, Tryz.ntmps161
 go_wp2_with fail
 refine (show Calls Tryz.prog 162 _ _ _ from HM.out).mono ?_
 rintro e w1 ⟨rfl, o1, _⟩
 have O1 : Hid (Only (fun b => b = M) w w1) := o1
 clear HM o1
 go_wp2
 all_goals
  go_ret
  refine ⟨by simp [*], ?_⟩
  repeat' first | exact O1.out | apply Only.alloc
theorem ps_str (s : ByteArray) (h1 : s.size ≤ 4096) (h2 : vlB s = true) : PsV (.iface 59 (.agg #[.string s])) := by
 intro M w hT h hg
 have HM : Hid (Calls Tryz.prog 162 #[.pointer (some ⟨M, 0, none⟩)] w fun e w' => e = .returned (.bool true) ∧ Only (fun b => b = M) w w' ∧ MlB w' M (1024 - 1)) := pmore_any M 1024 w h (by omega) (by omega)
 have HV : Hid (∀ w1, Only (fun b => b = M) w w1 → Calls Tryz.prog 146 #[.string s] w1 fun e w' => e = .returned (.bool true) ∧ Only (fun _ => False) w1 w') := fun w1 o => by
  have := valid_any s (by omega) w1 (hT.keep o hg.1 hg.2.1 hg.2.2)
  rwa [h2] at this
 have hInt := va_miss 59 35 41 _ Tryz.underlying35 (by intro m h; cases h) (by decide) _ zI
 have hStr := va_hit 59 41 _ Tryz.underlying59 (by intro m h; cases h)
 have i1 : (s.size : Int) ≤ 4096 := by omega
 clear h hT hg h1 h2
 go_enter Tryz.func161, Tryz.ntmps161
 go_wp2_with fail
 refine (show Calls Tryz.prog 162 _ _ _ from HM.out).mono ?_
 rintro e w1 ⟨rfl, o1, _⟩
 have O1 : Hid (Only (fun b => b = M) w w1) := o1
 clear HM o1
 go_wp2_with fail
 refine (show Calls Tryz.prog 146 _ _ _ from HV.out _ (by repeat' first | exact O1.out | apply Only.alloc)).mono ?_
 rintro e w2 ⟨rfl, o2⟩
 have O2 : Hid (Only (fun b => b = M) w w2) := Only.trans (by repeat' first | exact O1.out | apply Only.alloc) o2 (fun _ _ g => g.elim)
 clear HV o2
 go_wp2
 go_ret
 exact ⟨rfl, O2.out⟩
theorem wword0 {B b : Nat} {s : ByteArray} (hs : s.size ≤ 1000000) (w1 : World) (h : WrU B b [] false w1) (hB : B ≤ w1.heap.size) : Calls Tryz.prog 159 #[.pointer (some ⟨b, 0, none⟩), .string s] w1 fun e w' => e = .returned (.tuple #[]) ∧ Hid (WrU B b (strCells s) true w' ∧ Only (fun k => B ≤ k) w1 w') := (wword_first B b [] s w1 h (by simp) hs hB).mono fun e w' g => ⟨g.1, by have := g.2.out; rw [List.nil_append] at this; exact this⟩
theorem wfull0 {B b : Nat} {w : World} (h : WrU B b [] false w) : Calls Tryz.prog 156 #[.pointer (some ⟨b, 0, none⟩)] w fun e w' => e = .returned (.bool false) ∧ w' = w := by
 have := wfull_any B b _ false w h
 rwa [show decide (65536 < (([] : List Value).length : Int)) = false by simp] at this
theorem wv_int (n : Int) (h0 : -9223372036854775808 ≤ n) (h1 : n ≤ 9223372036854775807) : WvV (.iface 35 (.agg #[.int .i64 n])) ⟨(Lib.itoa n).toArray⟩ := by
 intro B b w hT h hBw
 have hz : (⟨(Lib.itoa n).toArray⟩ : ByteArray).size ≤ 1000000 := by
  have := Lib.itoa_length_le n h0 h1
  show (Lib.itoa n).toArray.size ≤ _
  simp
  omega
 obtain ⟨T, hTt⟩ : ∃ T : ByteArray, T = ⟨(Lib.itoa n).toArray⟩ := ⟨_, rfl⟩
 have HF : Hid _ := wfull0 h
 have HI : Hid (∀ w1, Only (fun _ => False) w w1 → Calls Tryz.prog 164 #[.int .i64 n, .int .i64 10] w1 fun e w' => e = .returned (.string T) ∧ Only (fun _ => False) w1 w') := fun w1 o => by
  rw [hTt]
  exact fmt_any n h0 h1 w1 (hT.2.frame o)
 have HW : Hid (∀ w1, Only (fun _ => False) w w1 → Calls Tryz.prog 159 #[.pointer (some ⟨b, 0, none⟩), .string T] w1 fun e w' => e = .returned (.tuple #[]) ∧ Hid (WrU B b (strCells T) true w' ∧ Only (fun k => B ≤ k) w1 w')) := fun w1 o => by
  rw [hTt]
  exact wword0 hz w1 (h.only o) (Nat.le_trans hBw o.size)
 have hInt := va_hit 35 41 _ Tryz.underlying35 (by intro m h; cases h)
 have O0 : Hid (Only (fun _ => False) w w) := Only.refl _ _
 rw [← hTt]
 clear h hBw hT hz hTt h0 h1
 go_enter Tryz.func158, Tryz.ntmps158
 go_wp2_with fail
 refine (show Calls Tryz.prog 156 _ _ _ from HF.out).mono ?_
 rintro e w1 ⟨rfl, hw⟩
 obtain rfl : w = w1 := hw.symm
 clear HF hw
 go_wp2_with fail
 refine (show Calls Tryz.prog 164 _ _ _ from HI.out _ (by repeat' first | exact O0.out | apply Only.alloc)).mono ?_
 rintro e w2 ⟨rfl, o2⟩
 have O2 : Hid (Only (fun _ => False) w w2) := Only.trans (by repeat' first | exact O0.out | apply Only.alloc) o2 (fun _ _ g => g)
 clear HI o2
 go_wp2_with fail
 refine (show Calls Tryz.prog 159 _ _ _ from HW.out _ O2.out).mono ?_
 rintro e w3 ⟨rfl, g3⟩
 clear HW
 go_wp2
 go_end0
 exact ⟨rfl, g3.out.1, (O2.out.mono (fun _ _ h => h.elim)).trans g3.out.2 (fun _ _ g => g)⟩
theorem wv_str (s : ByteArray) (h1 : s.size ≤ 4096) (h2 : vlB s = true) (hq : (quoR s).1.size ≤ 1000000) : WvV (.iface 59 (.agg #[.string s])) (quoR s).1 := by
 intro B b w hT h hBw
 obtain ⟨T, hTt⟩ : ∃ T, T = (quoR s).1 := ⟨_, rfl⟩
 obtain ⟨E, hE⟩ : ∃ T, T = (quoR s).2 := ⟨_, rfl⟩
 have HF : Hid _ := wfull0 h
 have HI : Hid (∀ w1, Calls Tryz.prog 165 #[.string s] w1 fun e w' => e = .returned (.tuple #[.string T, .int .i64 E]) ∧ Only (fun _ => False) w1 w') := fun w1 => by
  rw [hTt, hE]
  exact (quoted_any s (by omega) w1).mono fun e w' g => ⟨g.1, ⟨g.2.out.os, g.2.out.tape, g.2.out.output, g.2.out.size, fun k hk _ => g.2.out.block k hk⟩⟩
 have HW : Hid (∀ w1, Only (fun _ => False) w w1 → Calls Tryz.prog 159 #[.pointer (some ⟨b, 0, none⟩), .string T] w1 fun e w' => e = .returned (.tuple #[]) ∧ Hid (WrU B b (strCells T) true w' ∧ Only (fun k => B ≤ k) w1 w')) := fun w1 o => by
  rw [hTt]
  exact wword0 hq w1 (h.only o) (Nat.le_trans hBw o.size)
 have hInt := va_miss 59 35 41 _ Tryz.underlying35 (by intro m h; cases h) (by decide) _ zI
 have hStr := va_hit 59 41 _ Tryz.underlying59 (by intro m h; cases h)
 have O0 : Hid (Only (fun _ => False) w w) := Only.refl _ _
 rw [← hTt]
 clear h hBw hT hq hTt h1 h2 hE
 go_enter Tryz.func158, Tryz.ntmps158
 go_wp2_with fail
 refine (show Calls Tryz.prog 156 _ _ _ from HF.out).mono ?_
 rintro e w1 ⟨rfl, hw⟩
 obtain rfl : w = w1 := hw.symm
 clear HF hw
 go_wp2_with fail
 refine (show Calls Tryz.prog 165 _ _ _ from HI.out _).mono ?_
 rintro e w2 ⟨rfl, o2⟩
 have O2 : Hid (Only (fun _ => False) w w2) := Only.trans (by repeat' first | exact O0.out | apply Only.alloc) o2 (fun _ _ g => g)
 clear HI o2
 go_wp2_with fail
 refine (show Calls Tryz.prog 159 _ _ _ from HW.out _ O2.out).mono ?_
 rintro e w3 ⟨rfl, g3⟩
 clear HW
 go_wp2
 go_end0
 exact ⟨rfl, g3.out.1, (O2.out.mono (fun _ _ h => h.elim)).trans g3.out.2 (fun _ _ g => g)⟩
def flT (b : Bool) : ByteArray := if b then ⟨#[116]⟩ else ⟨#[102]⟩
theorem wflag_any (y : Bool) (B b : Nat) (w : World) (h : WrU B b [] false w) (hBw : B ≤ w.heap.size) : Calls Tryz.prog 166 #[.pointer (some ⟨b, 0, none⟩), .bool y] w fun e w' => e = .returned (.tuple #[]) ∧ Hid (WrU B b (strCells (flT y)) true w' ∧ Only (fun k => B ≤ k) w w') := by
 have HW : Hid (Calls Tryz.prog 159 #[.pointer (some ⟨b, 0, none⟩), .string (flT y)] w fun e w' => e = .returned (.tuple #[]) ∧ Hid (WrU B b (strCells (flT y)) true w' ∧ Only (fun k => B ≤ k) w w')) := wword0 (by cases y <;> decide) w h hBw
 clear h hBw
 cases y
 all_goals
  unfold flT at HW ⊢
  go_enter Tryz.func166, Tryz.ntmps166
  go_wp2_with fail
  refine (show Calls Tryz.prog 159 _ _ _ from HW.out).mono ?_
  rintro e w3 ⟨rfl, g3⟩
  clear HW
  go_wp2
  first | go_end0 | ((try simp only [Exit.inBlock, Exit.then]); refine bodyPost_ret (results_none rfl _ _ _) rfl ?_)
  exact ⟨rfl, g3.out⟩
theorem wv_bool (y : Bool) : WvV (.iface 61 (.agg #[.bool y])) (flT y) := by
 intro B b w hT h hBw
 have HF : Hid _ := wfull0 h
 have HW : Hid (∀ w1, Only (fun _ => False) w w1 → Calls Tryz.prog 166 #[.pointer (some ⟨b, 0, none⟩), .bool y] w1 fun e w' => e = .returned (.tuple #[]) ∧ Hid (WrU B b (strCells (flT y)) true w' ∧ Only (fun k => B ≤ k) w1 w')) := fun w1 o => wflag_any y B b w1 (h.only o) (Nat.le_trans hBw o.size)
 have hInt := va_miss 61 35 41 _ Tryz.underlying35 (by intro m h; cases h) (by decide) _ zI
 have hStr := va_miss 61 59 41 _ Tryz.underlying59 (by intro m h; cases h) (by decide) _ zS
 have hBl := va_hit 61 41 _ Tryz.underlying61 (by intro m h; cases h)
 have O0 : Hid (Only (fun _ => False) w w) := Only.refl _ _
 obtain ⟨T, hTt⟩ : ∃ T, T = flT y := ⟨_, rfl⟩
 rw [← hTt] at HW ⊢
 clear h hBw hT hTt
 go_enter Tryz.func158, Tryz.ntmps158
 go_wp2_with fail
 refine (show Calls Tryz.prog 156 _ _ _ from HF.out).mono ?_
 rintro e w1 ⟨rfl, hw⟩
 obtain rfl : w = w1 := hw.symm
 clear HF hw
 go_wp2_with fail
 refine (show Calls Tryz.prog 166 _ _ _ from HW.out _ (by repeat' first | exact O0.out | apply Only.alloc)).mono ?_
 rintro e w3 ⟨rfl, g3⟩
 have G3 : Hid (WrU B b (strCells T) true w3 ∧ Only (fun k => B ≤ k) w w3) := ⟨g3.out.1, Only.trans (show Only (fun k => B ≤ k) w _ by repeat' first | exact (Only.refl _ _) | apply Only.alloc) g3.out.2 (fun _ _ g => g)⟩
 clear HW g3
 go_wp2
 go_end0
 exact ⟨rfl, G3.out⟩
theorem RiAt.ps {w : World} {B d : Nat} {T : TypeId} {i : Bool} {ao : Option Addr} {n cap : Nat} {l : List Vt} (h : RiAt w B T d i (.slice ao n cap) l) : ∃ S, PsAt w S d i l ao ∧ ∀ b, S b → B ≤ b ∧ b < w.heap.size := by
 obtain ⟨us, S, ho, ht, hS⟩ := h
 refine ⟨fun b => S b ∨ (Value.slice ao n cap).ownBlock = some b, fun j x hx => ?_, fun b hb => ?_⟩
 ·obtain ⟨u, h1, h2⟩ := ht j x hx
  rcases ho.2 with ⟨h3, h4⟩ | ⟨g, cp, cur, hv, hB, hg, hn, hcm, hcs, htk⟩
  ·have := (List.getElem?_eq_some_iff.1 hx).1
   omega
  ·cases hv
   have hc := ho.cells (g := g) rfl j u h1
   rw [addr_ad] at hc
   exact ⟨g, 0, u, rfl, .inr rfl, by simpa using hc, h2.step (fun _ g => .inl g) (fun _ _ _ g => g) (Nat.le_refl _)⟩
 ·rcases hb with h | h
  ·exact ⟨(hS b h).1, (hS b h).2.1.1⟩
  ·exact ho.lt b h
def WtC (name : ByteArray) (ks : List Int) : Prop := ∀ w, Calls Tryz.prog 14 #[.string name] w fun e w' => ∃ K, e = .returned (.tuple #[.slice (some ⟨K, 0, none⟩) ks.length ks.length, .bool true]) ∧ Hid ((∀ j k, ks[j]? = some k → w'.cell? ⟨K, j, none⟩ = some (.int .i64 k)) ∧ Only (fun _ => False) w w')
def CyP (r : Except Int (List Vt)) (D : Nat) (w : World) (e : Ending) (w' : World) : Prop :=
 match r with
 | .error n => ∃ v, e = .returned (.tuple #[v, .int .i64 n]) ∧ (n == 0) = false ∧ Only (fun _ => False) w w'
 | .ok ls => ∃ ao cap, e = .returned (.tuple #[.slice ao ls.length cap, .int .i64 0]) ∧ (∃ S, PsAt w' S D false ls ao ∧ ∀ b, S b → b < w'.heap.size) ∧ (∀ x ∈ ls, ∃ e, SmT e x) ∧ ls.length ≤ 3 ∧ Only (fun _ => False) w w'
def CyC (name : ByteArray) (ks : List Int) (cy : Nat → List Vt → Except Int (List Vt)) : Prop := ∀ (d : Nat) (l : List Vt) (G q : Nat) (w : World) (S : Nat → Prop), PsAt w S d false l (some ⟨G, q, none⟩) → (∀ b, S b → b < w.heap.size) → l.length = ks.length → (∀ x ∈ l, ∃ e, SmT e x) → l.all (sdB d) = true → fitB l ks = true → Tx w →
 Calls Tryz.prog 16 #[.string name, .slice (some ⟨G, q, none⟩) l.length l.length] w fun e w' => CyP (cy d l) (d + 2) w e w'
def fnR (d : Nat) (pre : List Vt) : Except Int (List Vt) → Except Int (List Vt)
 | .error n => .error n
 | .ok ls => if ls.all (sdB (d + 2)) then .ok (pre ++ ls) else .error 11
def doR (d : Nat) (ks : List Int) (cy : Nat → List Vt → Except Int (List Vt)) (l : List Vt) : Except Int (List Vt) :=
 if l.all (sdB d) = false then .error 1 else if l.length < ks.length then .error 16 else if fitB (l.drop (l.length - ks.length)) ks = false then .error 17 else fnR d (l.take (l.length - ks.length)) (cy d (l.drop (l.length - ks.length)))
def DoP (r : Except Int (List Vt)) (D m : Nat) (w : World) (e : Ending) (w' : World) : Prop :=
 match r with
 | .error n => e = .returned (.tuple #[.slice none 0 0, .int .i64 n]) ∧ (n == 0) = false ∧ Only (fun _ => False) w w'
 | .ok ls => ∃ ao cap, e = .returned (.tuple #[.slice ao ls.length cap, .int .i64 0]) ∧ Hid (RiAt w' w.heap.size 41 D false (.slice ao ls.length cap) ls ∧ Only (fun _ => False) w w' ∧ (∀ x ∈ ls, ∃ e, SmT e x) ∧ ls.length ≤ m + 3)
theorem sk_row {w w3 w' : World} {d D b G G2 : Nat} {l ls : List Vt} {v : Value} {us1 us2 : List Value} {S1 S2 : Nat → Prop} (hd : d ≤ D) (hb : b ≤ l.length)
  (t1 : ∀ (j : Nat) (x : Vt), l[j]? = some x → ∃ u, us1[j]? = some u ∧ TiAt w3 S1 d false x u) (s1 : ∀ b, S1 b → w.heap.size ≤ b ∧ Liv w3 b) (e1 : us1.length = l.length)
  (t2 : ∀ (j : Nat) (x : Vt), ls[j]? = some x → ∃ u, us2[j]? = some u ∧ TiAt w3 S2 D false x u) (s2 : ∀ b, S2 b → w.heap.size ≤ b ∧ Liv w3 b) (e2 : us2.length = ls.length)
  (o : Only (fun _ => False) w3 w') (ho : w'.ownsRow w3.heap.size 41 1 v (us1.take b ++ us2).length (us1.take b ++ us2)) (hw : w.heap.size ≤ w3.heap.size) : RiAt w' w.heap.size 41 D false v (l.take b ++ ls) := by
 have eL : (us1.take b ++ us2).length = (l.take b ++ ls).length := by simp [e1, e2]
 rw [eL] at ho
 refine ⟨us1.take b ++ us2, fun x => S1 x ∨ S2 x, ho.mono hw, fun j x hx => ?_, fun x hx => ?_⟩
 ·by_cases hj : j < b
  ·have h1 : l[j]? = some x := by
    rw [List.getElem?_append_left (by simp; omega), List.getElem?_take, if_pos hj] at hx
    exact hx
   obtain ⟨u, p1, p2⟩ := t1 j x h1
   refine ⟨u, ?_, (p2.only o (fun _ _ g => g)).step (fun _ g => .inl g) (fun _ _ _ g => g) hd⟩
   rw [List.getElem?_append_left (by simp; omega), List.getElem?_take, if_pos hj]
   exact p1
  ·have h1 : ls[j - b]? = some x := by
    rw [List.getElem?_append_right (by simp; omega)] at hx
    simpa [Nat.min_eq_left hb] using hx
   obtain ⟨u, p1, p2⟩ := t2 _ x h1
   refine ⟨u, ?_, (p2.only o (fun _ _ g => g)).step (fun _ g => .inr g) (fun _ _ _ g => g) (Nat.le_refl _)⟩
   rw [List.getElem?_append_right (by simp; omega)]
   simpa [e1, Nat.min_eq_left hb] using p1
 ·have h1 : w.heap.size ≤ x ∧ Liv w3 x := by
   rcases hx with g | g
   ·exact s1 x g
   ·exact s2 x g
  refine ⟨h1.1, h1.2.only o (fun g => g), fun e => ?_⟩
  have := (ho.lt x e).1
  have := h1.2.1
  omega
theorem sl_from (N b m G : Nat) (hN : N = b + m) (hm : 1 ≤ m) (hB : N ≤ 1048576) (w : World) : (Instr.slice 25 (.slice (some ⟨G, 0, none⟩) N N) (some (.int .i64 (b : Int))) none none).run Tryz.prog w = .ok (.slice (some ⟨G, b, none⟩) m m) w := by
 have k1 : (b : Int) ≤ (N : Int) := by omega
 have k0 : (0 : Int) ≤ (b : Int) := by omega
 have e1 : ((N : Int) - (b : Int)).toNat = m := by omega
 have e2 : N - b = m := by omega
 have e3 : ¬ m = 0 := by omega
 have e4 : ¬ N = b := by omega
 have e5 : ¬ N - b = 0 := by omega
 clear hN
 go_simp
theorem sl_upto (N b G : Nat) (hN : b ≤ N) (hB : N ≤ 1048576) (w : World) : (Instr.slice 25 (.slice (some ⟨G, 0, none⟩) N N) none (some (.int .i64 (b : Int))) none).run Tryz.prog w = .ok (.slice (some ⟨G, 0, none⟩) b N) w := by
 have k1 : (b : Int) ≤ (N : Int) := by omega
 have k0 : (0 : Int) ≤ (b : Int) := by omega
 go_simp
theorem do_any {name : ByteArray} {ks : List Int} {cy : Nat → List Vt → Except Int (List Vt)} (hW : WtC name ks) (hC : CyC name ks cy) (hk : 1 ≤ ks.length) (hk3 : ks.length ≤ 3) {d : Nat} {l : List Vt} {ao : Option Addr} {cap : Nat} {w : World} {S : Nat → Prop} (hl : PsAt w S d false l ao) (hS : ∀ b, S b → b < w.heap.size) (hsm : ∀ x ∈ l, ∃ e, SmT e x) (hlen : l.length ≤ 1048576) (hT : Tx w) :
  Calls Tryz.prog 7 #[.string name, .slice ao l.length cap] w fun e w' => DoP (doR d ks cy l) (d + 2) l.length w e w' := by
 have HC1 : Hid _ := copies_any (cap := cap) hl hS hsm hlen hT.1
 have HW : Hid (WtC name ks) := hW
 obtain ⟨N, hN⟩ : ∃ N, N = l.length := ⟨_, rfl⟩
 obtain ⟨m, hm⟩ : ∃ m, m = ks.length := ⟨_, rfl⟩
 obtain ⟨R, hR⟩ : ∃ R, R = doR d ks cy l := ⟨_, rfl⟩
 have HT : Hid (Tx w ∧ N = l.length ∧ m = ks.length ∧ R = doR d ks cy l ∧ N ≤ 1048576 ∧ 1 ≤ m ∧ m ≤ 3 ∧ (∀ x ∈ l, ∃ e, SmT e x) ∧ CyC name ks cy) := ⟨hT, hN, hm, hR, by omega, by omega, by omega, hsm, hC⟩
 have HE : Hid (∀ n w', R = .error n → (n == 0) = false → Only (fun _ => False) w w' → DoP R (d + 2) N w (.returned (.tuple #[.slice none 0 0, .int .i64 n])) w') := fun n w' h hn o => by rw [h]; exact ⟨rfl, hn, o⟩
 rw [← hN, ← hR]
 rw [← hN] at HC1
 clear hW hC hk hk3 hl hS hsm hlen hT hN hm hR
 cases hZ : l.all (sdB d) with
 | false =>
   rw [hZ] at HC1
   have HR : Hid (R = .error 1) := by rw [HT.out.2.2.2.1]; unfold doR Hid; rw [if_pos hZ]
   clear hZ
   go_enter Tryz.func7, Tryz.ntmps7
   go_wp2_with fail
   refine (show Calls Tryz.prog 13 _ _ _ from HC1.out).mono ?_
   rintro e w1 ⟨v, rfl, _, hv, o1⟩
   obtain rfl := hv rfl
   have O1 : Hid (Only (fun _ => False) w w1) := o1
   clear HC1 o1 hv
   go_wp2
   go_ret2
   exact HE.out _ _ HR.out rfl O1.out
 | true =>
   rw [hZ] at HC1
   have HZ : Hid (l.all (sdB d) = true) := hZ
   clear hZ
   go_enter Tryz.func7, Tryz.ntmps7
   go_wp2_with fail
   refine (show Calls Tryz.prog 13 _ _ _ from HC1.out).mono ?_
   rintro e w1 ⟨v, rfl, hv, _, o1⟩
   obtain ⟨G, rfl, hsk⟩ := hv rfl
   have HS1 : Hid (SkAt w1 w.heap.size d l G ∧ Only (fun _ => False) w w1) := ⟨hsk, o1⟩
   rw [← HT.out.2.1]
   clear HC1 o1 hv hsk
   go_wp2_with fail
   refine (show Calls Tryz.prog 14 _ _ _ from HW.out _).mono ?_
   rintro e w2 ⟨K, rfl, G2⟩
   have HS2 : Hid (SkAt w2 w.heap.size d l G ∧ Only (fun _ => False) w w2 ∧ ∀ j k, ks[j]? = some k → w2.cell? ⟨K, j, none⟩ = some (.int .i64 k)) := ⟨HS1.out.1.only G2.out.2 (fun _ _ g => g), HS1.out.2.trans G2.out.2 (fun _ _ g => g), G2.out.1⟩
   rw [← HT.out.2.2.1]
   clear HS1 G2 HW
   by_cases hlt : N < m
   ·have HR : Hid (R = .error 16) := by
     rw [HT.out.2.2.2.1]
     unfold doR Hid
     rw [if_neg (by rw [HZ.out]; simp), if_pos (by rw [← HT.out.2.1, ← HT.out.2.2.1]; exact hlt)]
    have h1 : (N : Int) - (m : Int) < 0 := by omega
    have h2 : N ≤ 1048576 := HT.out.2.2.2.2.1
    have h3 : m ≤ 3 := HT.out.2.2.2.2.2.2.1
    clear hlt
    go_wp2
    go_ret2
    exact HE.out _ _ HR.out rfl HS2.out.2.1
   ·obtain ⟨b, hb⟩ : ∃ b, N = b + m := ⟨N - m, by omega⟩
    have hsub : (N : Int) - (m : Int) = (b : Int) := by omega
    have h0 : ¬ ((b : Int) < 0) := by omega
    have h2 : N ≤ 1048576 := HT.out.2.2.2.2.1
    have h3 : m ≤ 3 := HT.out.2.2.2.2.2.2.1
    have hs1 := sl_from N b m G hb HT.out.2.2.2.2.2.1 h2
    have hs2 := sl_upto N b G (by omega) h2
    have eb : l.length - ks.length = b := by rw [← HT.out.2.1, ← HT.out.2.2.1]; omega
    have ed : (l.drop b).length = m := by rw [List.length_drop, ← HT.out.2.1]; omega
    obtain ⟨S2, p2, sb2⟩ := HS2.out.1.ps b
    have HF : Hid _ := fit_any (cap := m) p2 HS2.out.2.2 (by rw [ed]; exact HT.out.2.2.1) (by omega)
    rw [ed] at HF
    have HRD : Hid (R = if fitB (l.drop b) ks = false then .error 17 else fnR d (l.take b) (cy d (l.drop b))) := by
     rw [HT.out.2.2.2.1]
     unfold doR Hid
     rw [if_neg (by rw [HZ.out]; simp), if_neg (by rw [← HT.out.2.1, ← HT.out.2.2.1]; exact hlt), eb]
    have HB : Hid (N = b + m ∧ (l.drop b).length = m) := ⟨hb, ed⟩
    clear hlt hb eb ed p2 sb2
    go_wp2_with fail
    refine (show Calls Tryz.prog 15 _ _ _ from HF.out).mono ?_
    rintro e w3 ⟨rfl, o3⟩
    have HS3 : Hid (SkAt w3 w.heap.size d l G ∧ Only (fun _ => False) w w3) := ⟨HS2.out.1.only o3 (fun _ _ g => g), HS2.out.2.1.trans o3 (fun _ _ g => g)⟩
    clear HS2 HF o3
    cases hf : fitB (l.drop b) ks with
    | false =>
      have HR : Hid (R = .error 17) := by rw [HRD.out, if_pos hf]; exact rfl
      clear hf
      go_wp2
      go_ret2
      exact HE.out _ _ HR.out rfl HS3.out.2
    | true =>
      obtain ⟨S3, p3, sb3⟩ := HS3.out.1.ps b
      have HCY : Hid _ := HT.out.2.2.2.2.2.2.2.2 d (l.drop b) G b w3 S3 p3 (fun x hx => (sb3 x hx).2) (by rw [HB.out.2]; exact HT.out.2.2.1) (fun x hx => HT.out.2.2.2.2.2.2.2.1 x (List.mem_of_mem_drop hx)) (by
       rw [List.all_eq_true]
       intro x hx
       exact List.all_eq_true.1 HZ.out x (List.mem_of_mem_drop hx)) hf (HT.out.1.frame HS3.out.2)
      rw [HB.out.2] at HCY
      obtain ⟨Y, hY⟩ : ∃ Y, Y = cy d (l.drop b) := ⟨_, rfl⟩
      have HR2 : Hid (R = fnR d (l.take b) Y) := by
       rw [HRD.out, if_neg (by rw [hf]; simp), hY]
       exact rfl
      rw [← hY] at HCY
      clear hf HRD hY p3 sb3
      cases Y with
      | error n =>
        have HR : Hid (R = .error n) := HR2.out
        clear HR2
        go_wp2_with fail
        refine (show Calls Tryz.prog 16 _ _ _ from HCY.out).mono ?_
        rintro e w4 ⟨v, rfl, hn0, o4⟩
        have O4 : Hid (Only (fun _ => False) w w4) := HS3.out.2.trans o4 (fun _ _ g => g)
        clear HCY o4
        go_wp2
        go_ret2
        exact HE.out _ _ HR.out hn0 O4.out
      | ok ls =>
        go_wp2_with fail
        refine (show Calls Tryz.prog 16 _ _ _ from HCY.out).mono ?_
        rintro e w4 ⟨a4, c4, rfl, ⟨S4, p4, sb4⟩, sm4, l4, o4⟩
        have HS4 : Hid (SkAt w4 w.heap.size d l G ∧ Only (fun _ => False) w w4) := ⟨HS3.out.1.only o4 (fun _ _ g => g), HS3.out.2.trans o4 (fun _ _ g => g)⟩
        have HC4 : Hid _ := copies_any (cap := c4) p4 sb4 sm4 (by omega) (HT.out.1.frame HS4.out.2).1
        have HL4 : Hid (ls.length ≤ 3 ∧ ∀ x ∈ ls, ∃ e, SmT e x) := ⟨l4, sm4⟩
        obtain ⟨n4, hn4⟩ : ∃ n4, n4 = ls.length := ⟨_, rfl⟩
        rw [← hn4] at HC4
        rw [← hn4]
        have HN4 : Hid (n4 = ls.length) := hn4
        clear HCY o4 HS3 p4 sb4 sm4 l4 hn4
        cases hz : ls.all (sdB (d + 2)) with
        | false =>
          have HR : Hid (R = .error 11) := by
           have := HR2.out
           simp only [fnR] at this
           rw [hz] at this
           exact this
          rw [hz] at HC4
          clear hz HR2
          go_wp2_with fail
          refine (show Calls Tryz.prog 13 _ _ _ from HC4.out).mono ?_
          rintro e w5 ⟨v, rfl, _, hv, o5⟩
          obtain rfl := hv rfl
          have O5 : Hid (Only (fun _ => False) w w5) := HS4.out.2.trans o5 (fun _ _ g => g)
          clear HC4 o5 hv
          go_wp2
          go_ret2
          exact HE.out _ _ HR.out rfl O5.out
        | true =>
          have HR : Hid (R = .ok (l.take b ++ ls)) := by
           have := HR2.out
           simp only [fnR] at this
           rw [hz] at this
           exact this
          rw [hz] at HC4
          clear hz HR2
          go_wp2_with fail
          refine (show Calls Tryz.prog 13 _ _ _ from HC4.out).mono ?_
          rintro e w5 ⟨v, rfl, hv, _, o5⟩
          obtain ⟨G5, rfl, hsk⟩ := hv rfl
          have HS5 : Hid (SkAt w5 w.heap.size d l G ∧ SkAt w5 w4.heap.size (d + 2) ls G5 ∧ Only (fun _ => False) w w5 ∧ Only (fun _ => False) w w4) := ⟨HS4.out.1.only o5 (fun _ _ g => g), hsk, HS4.out.2.trans o5 (fun _ _ g => g), HS4.out.2⟩
          rw [← HN4.out]
          clear HC4 o5 hv hsk HS4
          have HK : Hid (∀ (Q : Nat) (w6 : World), Only (fun _ => False) w5 w6 → w6.cell? ⟨Q, 0, none⟩ = some (.slice (some ⟨G, 0, none⟩) b N) → w6.cell? ⟨Q, 1, none⟩ = some (.slice (some ⟨G5, 0, none⟩) n4 n4) → Calls Tryz.prog 17 #[.slice (some ⟨Q, 0, none⟩) 2 2] w6 fun e w' => ∃ ao cap, e = .returned (.slice ao (b + n4) cap) ∧ Hid (RiAt w' w.heap.size 41 (d + 2) false (.slice ao (b + n4) cap) (l.take b ++ ls) ∧ Only (fun _ => False) w w')) := fun Q w6 o6 c0 c1 => by
           obtain ⟨us, S1, u1, u2, u3, u4, u5⟩ := HS5.out.1.only o6 (fun _ _ g => g)
           obtain ⟨vs, S2, v1, v2, v3, v4, v5⟩ := HS5.out.2.1.only o6 (fun _ _ g => g)
           have hbl : b ≤ l.length := by rw [← HT.out.2.1, HB.out.1]; omega
           have et : (us.take b).length = b := by simp [u1, Nat.min_eq_left hbl]
           have ev : vs.length = n4 := v1.trans HN4.out.symm
           have one1 : ∀ u ∈ us, u.oneCell' = true := fun u hu => by
            obtain ⟨j, hj⟩ := List.getElem?_of_mem hu
            have hjl : j < l.length := by rw [← u1]; exact (List.getElem?_eq_some_iff.1 hj).1
            obtain ⟨y, q1, q2⟩ := u5 j _ (List.getElem?_eq_getElem hjl)
            rw [hj] at q1
            injection q1 with q1
            rw [q1]
            exact q2.one
           have one2 : ∀ u ∈ vs, u.oneCell' = true := fun u hu => by
            obtain ⟨j, hj⟩ := List.getElem?_of_mem hu
            have hjl : j < ls.length := by rw [← v1]; exact (List.getElem?_eq_some_iff.1 hj).1
            obtain ⟨y, q1, q2⟩ := v5 j _ (List.getElem?_eq_getElem hjl)
            rw [hj] at q1
            injection q1 with q1
            rw [q1]
            exact q2.one
           have hN := HT.out.2.2.2.2.1
           have hl3 := HL4.out.1
           have cc := concat_Value (us.take b) vs (some ⟨G, 0, none⟩) (some ⟨G5, 0, none⟩) N n4 Q w6 (fun u hu => one1 u (List.mem_of_mem_take hu)) one2 (by rw [et]; have := HB.out.1; omega) (by omega)
            (fun ad e j u hu => by
             cases e
             rw [addr_ad, cell_of_row _ _ _ _ _ _ u2]
             have hj := (List.getElem?_eq_some_iff.1 hu).1
             rw [List.getElem?_take, if_pos (by omega)] at hu
             simpa using hu)
            (fun ad e j u hu => by
             cases e
             rw [addr_ad, cell_of_row _ _ _ _ _ _ v2]
             simpa using hu) (fun e => by cases e) (fun e => by cases e) (by rw [et]; exact c0) (by rw [ev]; exact c1)
           refine cc.mono fun e w' g => ?_
           obtain ⟨v, he, ⟨ao, cap, hv⟩, g1, g2⟩ := g
           have e5 : (us.take b ++ vs).length = b + n4 := by rw [List.length_append, et, ev]
           have e6 : w.heap.size ≤ w6.heap.size := (HS5.out.2.2.1.trans o6 (fun _ _ g => g)).size
           refine ⟨ao, cap, by rw [he, hv, e5], ?_, (HS5.out.2.2.1.trans o6 (fun _ _ g => g)).trans g2 (fun _ _ g => g)⟩
           rw [hv, e5] at g1
           exact sk_row (G := G) (G2 := G5) (w3 := w6) (by omega) hbl u5 (fun x hx => ⟨(u4 x hx).1, (u4 x hx).2.1⟩) u1 v5 (fun x hx => ⟨Nat.le_trans HS5.out.2.2.2.size (v4 x hx).1, (v4 x hx).2.1⟩) v1 g2 (by rw [e5]; exact g1) e6
          have HPO : Hid (∀ ao cap w', RiAt w' w.heap.size 41 (d + 2) false (.slice ao (b + n4) cap) (l.take b ++ ls) → Only (fun _ => False) w w' → DoP R (d + 2) N w (.returned (.tuple #[.slice ao (b + n4) cap, .int .i64 0])) w') := fun ao cap w' h o => by
           have e7 : (l.take b ++ ls).length = b + n4 := by
            have h9 : b ≤ l.length := by rw [← HT.out.2.1, HB.out.1]; omega
            rw [List.length_append, List.length_take, Nat.min_eq_left h9, HN4.out]
           rw [HR.out]
           refine ⟨ao, cap, by rw [e7], by rw [e7]; exact h, o, fun x hx => ?_, by rw [e7, HN4.out, HB.out.1]; have := HL4.out.1; omega⟩
           rcases List.mem_append.1 hx with g | g
           ·exact HT.out.2.2.2.2.2.2.2.1 x (List.mem_of_mem_take g)
           ·exact HL4.out.2 x g
          have O5 : Hid (Only (fun _ => False) w5 w5) := Only.refl _ _
          clear HS5 HR HT HB HL4 HZ HE
          go_wp2_with fail
          refine (show Calls Tryz.prog 17 _ _ _ from HK.out _ _ (by first | exact O5.out.alloc _ | exact (O5.out.alloc _).drew | exact O5.out.drew.alloc _) (by simp [go_sem]) (by simp [go_sem])).mono ?_
          rintro e w7 ⟨a7, c7, rfl, G7⟩
          clear HK
          go_wp2
          go_ret2
          exact HPO.out _ _ _ G7.out.1 G7.out.2
end Go.Proofs.YtenjollhlgjjdaaGreatDoor
namespace Go.Proofs
open Go.Shelf
def Tryz.laysFields_ren : Go.Shelf.Ren := ⟨fun | 157 => 45 | 229 => 74 | 199 => 75 | 261 => 103 | 311 => 128 | 312 => 129 | n => n, fun | 9 => 9 | 31 => 56 | 3 => 3 | 5 => 5 | 4 => 4 | 119 => 123 | 0 => 0 | 40 => 125 | 152 => 166 | 21 => 21 | 154 => 168 | 51 => 169 | 141 => 171 | 196 => 204 | 193 => 201 | 198 => 207 | 49 => 205 | 194 => 202 | 201 => 210 | 226 => 224 | 46 => 225 | 227 => 226 | n => n, fun | 0 => 0 | 6 => 1 | n => n⟩
theorem Tryz.laysFields : Go.Proofs.Lays.n157 Tryz.prog Tryz.laysFields_ren := {
 mixed := by kernel_rfl
 f157 := Tryz.func45.trans (congrArg some (by kernel_rfl))
 f199 := Tryz.func75.trans (congrArg some (by kernel_rfl))
 f229 := Tryz.func74.trans (congrArg some (by kernel_rfl))
 f261 := Tryz.func103.trans (congrArg some (by kernel_rfl))
 f311 := Tryz.func128.trans (congrArg some (by kernel_rfl))
 f312 := Tryz.func129.trans (congrArg some (by kernel_rfl))
 t0 := Tryz.underlying0
 a0 := Tryz.isAgg0
 z0 := Tryz.sizeOf0
 v0 := Tryz.zeroValue0
 t3 := Tryz.underlying3
 a3 := Tryz.isAgg3
 z3 := Tryz.sizeOf3
 v3 := Tryz.zeroValue3
 t4 := Tryz.underlying4
 a4 := Tryz.isAgg4
 z4 := Tryz.sizeOf4
 v4 := Tryz.zeroValue4
 t5 := Tryz.underlying5
 a5 := Tryz.isAgg5
 z5 := Tryz.sizeOf5
 v5 := Tryz.zeroValue5
 t9 := Tryz.underlying9
 a9 := Tryz.isAgg9
 z9 := Tryz.sizeOf9
 v9 := Tryz.zeroValue9
 t21 := Tryz.underlying21
 a21 := Tryz.isAgg21
 z21 := Tryz.sizeOf21
 v21 := Tryz.zeroValue21
 t31 := Tryz.underlying56
 a31 := Tryz.isAgg56
 z31 := Tryz.sizeOf56
 v31 := Tryz.zeroValue56
 t40 := Tryz.underlying125
 a40 := Tryz.isAgg125
 z40 := Tryz.sizeOf125
 v40 := Tryz.zeroValue125
 t46 := Tryz.underlying225
 a46 := Tryz.isAgg225
 z46 := Tryz.sizeOf225
 v46 := Tryz.zeroValue225
 t49 := Tryz.underlying205
 a49 := Tryz.isAgg205
 z49 := Tryz.sizeOf205
 v49 := Tryz.zeroValue205
 t51 := Tryz.underlying169
 a51 := Tryz.isAgg169
 z51 := Tryz.sizeOf169
 v51 := Tryz.zeroValue169
 t119 := Tryz.underlying123
 a119 := Tryz.isAgg123
 z119 := Tryz.sizeOf123
 t141 := Tryz.underlying171
 a141 := Tryz.isAgg171
 z141 := Tryz.sizeOf171
 v141 := Tryz.zeroValue171
 t152 := Tryz.underlying166
 a152 := Tryz.isAgg166
 z152 := Tryz.sizeOf166
 v152 := Tryz.zeroValue166
 t154 := Tryz.underlying168
 a154 := Tryz.isAgg168
 z154 := Tryz.sizeOf168
 v154 := Tryz.zeroValue168
 t193 := Tryz.underlying201
 a193 := Tryz.isAgg201
 z193 := Tryz.sizeOf201
 v193 := Tryz.zeroValue201
 t194 := Tryz.underlying202
 a194 := Tryz.isAgg202
 z194 := Tryz.sizeOf202
 v194 := Tryz.zeroValue202
 t196 := Tryz.underlying204
 a196 := Tryz.isAgg204
 z196 := Tryz.sizeOf204
 v196 := Tryz.zeroValue204
 t198 := Tryz.underlying207
 a198 := Tryz.isAgg207
 z198 := Tryz.sizeOf207
 v198 := Tryz.zeroValue207
 t201 := Tryz.underlying210
 a201 := Tryz.isAgg210
 z201 := Tryz.sizeOf210
 v201 := Tryz.zeroValue210
 t226 := Tryz.underlying224
 a226 := Tryz.isAgg224
 z226 := Tryz.sizeOf224
 v226 := Tryz.zeroValue224
 t227 := Tryz.underlying226
 a227 := Tryz.isAgg226
 z227 := Tryz.sizeOf226
 v227 := Tryz.zeroValue226
 g0 := by kernel_rfl
 g6 := by kernel_rfl }
def Tryz.laysContains_ren : Go.Shelf.Ren := ⟨fun | 110 => 23 | 109 => 44 | n => n, fun | 31 => 56 | 9 => 9 | 4 => 4 | 3 => 3 | 0 => 0 | n => n, fun | n => n⟩
theorem Tryz.laysContains : Go.Proofs.Lays.n110 Tryz.prog Tryz.laysContains_ren := {
 mixed := by kernel_rfl
 f109 := Tryz.func44.trans (congrArg some (by kernel_rfl))
 f110 := Tryz.func23.trans (congrArg some (by kernel_rfl))
 t0 := Tryz.underlying0
 a0 := Tryz.isAgg0
 z0 := Tryz.sizeOf0
 v0 := Tryz.zeroValue0
 t3 := Tryz.underlying3
 a3 := Tryz.isAgg3
 z3 := Tryz.sizeOf3
 v3 := Tryz.zeroValue3
 t4 := Tryz.underlying4
 a4 := Tryz.isAgg4
 z4 := Tryz.sizeOf4
 v4 := Tryz.zeroValue4
 t9 := Tryz.underlying9
 a9 := Tryz.isAgg9
 z9 := Tryz.sizeOf9
 v9 := Tryz.zeroValue9
 t31 := Tryz.underlying56
 a31 := Tryz.isAgg56
 z31 := Tryz.sizeOf56
 v31 := Tryz.zeroValue56 }
def Tryz.laysRunes_ren : Go.Shelf.Ren := ⟨fun | 195 => 84 | n => n, fun | 9 => 9 | 3 => 3 | 0 => 0 | 4 => 4 | n => n, fun | n => n⟩
theorem Tryz.laysRunes : Go.Proofs.Lays.n195 Tryz.prog Tryz.laysRunes_ren := {
 mixed := by kernel_rfl
 f195 := Tryz.func84.trans (congrArg some (by kernel_rfl))
 t0 := Tryz.underlying0
 a0 := Tryz.isAgg0
 z0 := Tryz.sizeOf0
 v0 := Tryz.zeroValue0
 t3 := Tryz.underlying3
 a3 := Tryz.isAgg3
 z3 := Tryz.sizeOf3
 v3 := Tryz.zeroValue3
 t4 := Tryz.underlying4
 a4 := Tryz.isAgg4
 z4 := Tryz.sizeOf4
 v4 := Tryz.zeroValue4
 t9 := Tryz.underlying9
 a9 := Tryz.isAgg9
 z9 := Tryz.sizeOf9
 v9 := Tryz.zeroValue9 }
end Go.Proofs
namespace Go.Proofs.YtenjollhlgjjdaaGreatDoor
open Go.RowKit Go.Lib
def As (w : World) : Prop := Lib.TabIs Tryz.prog w "strings.asciiSpace" .u8 Lib.asciiSpaceTab
theorem As.frame {w w' : World} (h : As w) (o : Only (fun _ => False) w w') : As w' := by
 unfold As Lib.TabIs at *
 unfold World.var? at *
 cases hg : Tryz.prog.globalNamed "strings.asciiSpace" with
 | none => rw [hg] at h; simp at h
 | some g =>
   rw [hg] at h
   simp only [Option.bind_some] at h ⊢
   cases hb : w.heap[g]? with
   | none => rw [hb] at h; simp at h
   | some ob =>
     rw [hb] at h
     rw [o.block g (Array.getElem?_eq_some_iff.1 hb).1 (fun g => g), hb]
     exact h
def Ty (w : World) : Prop := Tx w ∧ As w
theorem Ty.frame {w w' : World} (h : Ty w) (o : Only (fun _ => False) w w') : Ty w' := ⟨h.1.frame o, h.2.frame o⟩
def pmText : ByteArray := ⟨#[100, 117, 112, 32, 100, 114, 111, 112, 32, 115, 119, 97, 112, 32, 111, 118, 101, 114, 32, 114, 111, 116, 32, 110, 105, 112, 32, 116, 117, 99, 107, 32, 43, 32, 45, 32, 42, 32, 47, 32, 109, 111, 100, 32, 110, 101, 103, 32, 97, 98, 115, 32, 109, 105, 110, 32, 109, 97, 120, 32, 60, 32, 62, 32, 61, 32, 97, 110, 100, 32, 111, 114, 32, 110, 111, 116, 32, 105, 110, 116, 63, 32, 115, 116, 114, 63, 32, 98, 111, 111, 108, 63, 32, 108, 105, 115, 116, 63, 32, 113, 117, 111, 116, 63, 32, 98, 111, 120, 63, 32, 108, 101, 110, 103, 116, 104, 32, 97, 112, 112, 101, 110, 100, 32, 110, 116, 104, 32, 115, 108, 105, 99, 101, 32, 119, 114, 97, 112, 32, 112, 97, 105, 114, 32, 117, 110, 112, 97, 105, 114, 32, 114, 101, 118, 101, 114, 115, 101, 32, 99, 117, 114, 114, 121, 32, 99, 111, 109, 112, 111, 115, 101, 32, 62, 115, 116, 114, 32, 62, 105, 110, 116, 32, 99, 97, 108, 108, 32, 100, 105, 112, 32, 107, 101, 101, 112, 32, 105, 102, 32, 119, 104, 101, 110, 32, 116, 105, 109, 101, 115, 32, 101, 97, 99, 104, 32, 108, 111, 111, 112, 32, 98, 111, 120, 32, 103, 101, 116, 32, 112, 117, 116, 32, 46]⟩
def pmNames : List ByteArray := [⟨#[100, 117, 112]⟩, ⟨#[100, 114, 111, 112]⟩, ⟨#[115, 119, 97, 112]⟩, ⟨#[111, 118, 101, 114]⟩, ⟨#[114, 111, 116]⟩, ⟨#[110, 105, 112]⟩, ⟨#[116, 117, 99, 107]⟩, ⟨#[43]⟩, ⟨#[45]⟩, ⟨#[42]⟩, ⟨#[47]⟩, ⟨#[109, 111, 100]⟩, ⟨#[110, 101, 103]⟩, ⟨#[97, 98, 115]⟩, ⟨#[109, 105, 110]⟩, ⟨#[109, 97, 120]⟩, ⟨#[60]⟩, ⟨#[62]⟩, ⟨#[61]⟩, ⟨#[97, 110, 100]⟩, ⟨#[111, 114]⟩, ⟨#[110, 111, 116]⟩, ⟨#[105, 110, 116, 63]⟩, ⟨#[115, 116, 114, 63]⟩, ⟨#[98, 111, 111, 108, 63]⟩, ⟨#[108, 105, 115, 116, 63]⟩, ⟨#[113, 117, 111, 116, 63]⟩, ⟨#[98, 111, 120, 63]⟩, ⟨#[108, 101, 110, 103, 116, 104]⟩, ⟨#[97, 112, 112, 101, 110, 100]⟩, ⟨#[110, 116, 104]⟩, ⟨#[115, 108, 105, 99, 101]⟩, ⟨#[119, 114, 97, 112]⟩, ⟨#[112, 97, 105, 114]⟩, ⟨#[117, 110, 112, 97, 105, 114]⟩, ⟨#[114, 101, 118, 101, 114, 115, 101]⟩, ⟨#[99, 117, 114, 114, 121]⟩, ⟨#[99, 111, 109, 112, 111, 115, 101]⟩, ⟨#[62, 115, 116, 114]⟩, ⟨#[62, 105, 110, 116]⟩, ⟨#[99, 97, 108, 108]⟩, ⟨#[100, 105, 112]⟩, ⟨#[107, 101, 101, 112]⟩, ⟨#[105, 102]⟩, ⟨#[119, 104, 101, 110]⟩, ⟨#[116, 105, 109, 101, 115]⟩, ⟨#[101, 97, 99, 104]⟩, ⟨#[108, 111, 111, 112]⟩, ⟨#[98, 111, 120]⟩, ⟨#[103, 101, 116]⟩, ⟨#[112, 117, 116]⟩, ⟨#[46]⟩]
theorem nm_fields : (Lib.fields pmText.data.toList).map (fun l => Value.string ⟨l.toArray⟩) = pmNames.map Value.string := by kernel_rfl
theorem nm_len : (Lib.fields pmText.data.toList).length = 52 := by kernel_rfl
theorem nm_ascii : ∀ (j : Nat) b, pmText.data.toList[j]? = some b → b.toNat < 128 := by
 have h : pmText.data.toList.all (fun b => decide (b.toNat < 128)) = true := by kernel_rfl
 intro j b hb
 have := List.all_eq_true.1 h b (List.mem_of_getElem? hb)
 simpa using this
theorem fields_names (w : World) (h : As w) : Calls Tryz.prog 45 #[.string pmText] w fun e w' => e = .returned (.slice (some ⟨w.heap.size, 0, none⟩) 52 52) ∧ w' = w.alloc (.cells (pmNames.map Value.string).toArray 9) := by
 have := Any.strings_Fields Tryz.laysFields (by kernel_rfl) (by kernel_rfl) pmText w (of_decide_eq_true (by kernel_rfl)) nm_ascii h
 rw [nm_len, nm_fields] at this
 exact this
theorem names_any (w : World) (h : As w) : Calls Tryz.prog 24 #[] w fun e w' => e = .returned (.slice (some ⟨w.heap.size, 0, none⟩) 52 52) ∧ w' = w.alloc (.cells (pmNames.map Value.string).toArray 9) := by
 have HF : Hid _ := fields_names w h
 clear h
 go_enter Tryz.func24, Tryz.ntmps24
 go_wp2_with fail
 refine (show Calls Tryz.prog 45 _ _ _ from HF.out).mono ?_
 rintro e w1 ⟨rfl, hw⟩
 subst hw
 go_wp2
 go_ret
 exact ⟨rfl, rfl⟩
def isB (s : ByteArray) : Bool := Lib.containsS pmNames s
theorem is_any (s : ByteArray) (w : World) (h : As w) : Calls Tryz.prog 10 #[.string s] w fun e w' => e = .returned (.bool (isB s)) ∧ Only (fun _ => False) w w' := by
 have HN : Hid _ := names_any w h
 obtain ⟨W, hW⟩ : ∃ W, W = w.alloc (.cells (pmNames.map Value.string).toArray 9) := ⟨_, rfl⟩
 have o1 : Only (fun _ => False) w W := by rw [hW]; exact (Only.refl _ w).alloc _
 have HC : Hid _ := Any.slices_Contains_string Tryz.laysContains w.heap.size 0 52 52 pmNames s W (by decide) (by omega) (fun j hj => by
  rw [hW, vblk_cells (valloc_at w _ _ rfl), Nat.zero_add, List.getElem?_toArray, List.getElem?_map, List.getD_eq_getElem?_getD, List.getElem?_eq_getElem hj]
  rfl)
 rw [← hW] at HN
 have HO : Hid (Only (fun _ => False) w W) := o1
 obtain ⟨Z, hZ⟩ : ∃ Z, Z = isB s := ⟨_, rfl⟩
 have HZ : Hid (Lib.containsS (pmNames.take 52) s = Z) := by rw [hZ]; exact rfl
 rw [← hZ]
 clear h hW o1 hZ
 go_enter Tryz.func10, Tryz.ntmps10
 go_wp2_with fail
 refine (show Calls Tryz.prog 24 _ _ _ from HN.out).mono ?_
 rintro e w1 ⟨rfl, hw⟩
 obtain rfl := hw.symm
 go_wp2_with fail
 refine (show Calls Tryz.prog 23 _ _ _ from HC.out).mono ?_
 rintro e w1 ⟨rfl, hw⟩
 obtain rfl := hw.symm
 rw [HZ.out]
 go_wp2
 go_ret
 exact ⟨rfl, HO.out⟩
theorem ints_new (ks : List Int) (t : TypeId) (w : World) : ∀ (j : Nat) (k : Int), ks[j]? = some k → (w.alloc (.cells (ks.map (Value.int .i64)).toArray t)).cell? ⟨w.heap.size, j, none⟩ = some (.int .i64 k) := fun j k hk => by
 rw [vblk_cells (valloc_at w _ _ rfl)]
 simp [hk]
def MvC (name : ByteArray) (ps : List Int) : Prop := ∀ w, Calls Tryz.prog 29 #[.string name] w fun e w' => ∃ ao c, e = .returned (.tuple #[.slice ao ps.length c, .bool true]) ∧ Hid ((∀ (j : Nat) (k : Int), ps[j]? = some k → ∃ g q, ao = some ⟨g, q, none⟩ ∧ w'.cell? ⟨g, q + j, none⟩ = some (.int .i64 k)) ∧ Only (fun _ => False) w w')
def MnC (name : ByteArray) : Prop := ∀ w, Calls Tryz.prog 29 #[.string name] w fun e w' => e = .returned (.tuple #[.slice none 0 0, .bool false]) ∧ w' = w
theorem gwt_0 : (WtC ⟨#[100, 117, 112]⟩ [63]) ∧ (WtC ⟨#[110, 105, 112]⟩ [63, 63]) ∧ (WtC ⟨#[47]⟩ [1, 1]) ∧ (WtC ⟨#[109, 97, 120]⟩ [1, 1]) ∧ (WtC ⟨#[111, 114]⟩ [4, 4]) ∧ (WtC ⟨#[108, 105, 115, 116, 63]⟩ [63]) ∧ (WtC ⟨#[110, 116, 104]⟩ [1, 10]) ∧ (WtC ⟨#[114, 101, 118, 101, 114, 115, 101]⟩ [10]) := by
 refine ⟨?_, ?_, ?_, ?_, ?_, ?_, ?_, ?_⟩
 all_goals
  intro w
  have O0 : Hid (Only (fun _ => False) w w) := Only.refl _ _
  go_enter Tryz.func14, Tryz.ntmps14
  go_wp2
  go_ret2
  exact ⟨_, rfl, ints_new _ _ w, O0.out.alloc _⟩
theorem wt_0 : WtC ⟨#[100, 117, 112]⟩ [63] := gwt_0.1
theorem gmv_0 : (MvC ⟨#[100, 117, 112]⟩ [0, 0]) ∧ (MvC ⟨#[110, 105, 112]⟩ [1]) := by
 refine ⟨?_, ?_⟩
 all_goals
  intro w
  have O0 : Hid (Only (fun _ => False) w w) := Only.refl _ _
  go_enter Tryz.func29, Tryz.ntmps29
  go_wp2
  go_ret2
  exact ⟨some ⟨_, 0, none⟩, _, rfl, fun j k hk => ⟨_, 0, rfl, by rw [Nat.zero_add]; exact ints_new _ _ w j k hk⟩, O0.out.alloc _⟩
theorem mv_0 : MvC ⟨#[100, 117, 112]⟩ [0, 0] := gmv_0.1
theorem wt_5 : WtC ⟨#[110, 105, 112]⟩ [63, 63] := gwt_0.2.1
theorem mv_5 : MvC ⟨#[110, 105, 112]⟩ [1] := gmv_0.2
theorem wt_10 : WtC ⟨#[47]⟩ [1, 1] := gwt_0.2.2.1
theorem gmn_10 : (MnC ⟨#[47]⟩) ∧ (MnC ⟨#[109, 97, 120]⟩) ∧ (MnC ⟨#[111, 114]⟩) ∧ (MnC ⟨#[108, 105, 115, 116, 63]⟩) ∧ (MnC ⟨#[110, 116, 104]⟩) ∧ (MnC ⟨#[114, 101, 118, 101, 114, 115, 101]⟩) := by
 refine ⟨?_, ?_, ?_, ?_, ?_, ?_⟩
 all_goals
  intro w
  go_enter Tryz.func29, Tryz.ntmps29
  go_wp2
  go_ret2
  exact ⟨rfl, rfl⟩
theorem mn_10 : MnC ⟨#[47]⟩ := gmn_10.1
theorem wt_15 : WtC ⟨#[109, 97, 120]⟩ [1, 1] := gwt_0.2.2.2.1
theorem mn_15 : MnC ⟨#[109, 97, 120]⟩ := gmn_10.2.1
theorem wt_20 : WtC ⟨#[111, 114]⟩ [4, 4] := gwt_0.2.2.2.2.1
theorem mn_20 : MnC ⟨#[111, 114]⟩ := gmn_10.2.2.1
theorem wt_25 : WtC ⟨#[108, 105, 115, 116, 63]⟩ [63] := gwt_0.2.2.2.2.2.1
theorem mn_25 : MnC ⟨#[108, 105, 115, 116, 63]⟩ := gmn_10.2.2.2.1
theorem wt_30 : WtC ⟨#[110, 116, 104]⟩ [1, 10] := gwt_0.2.2.2.2.2.2.1
theorem mn_30 : MnC ⟨#[110, 116, 104]⟩ := gmn_10.2.2.2.2.1
theorem wt_35 : WtC ⟨#[114, 101, 118, 101, 114, 115, 101]⟩ [10] := gwt_0.2.2.2.2.2.2.2
theorem mn_35 : MnC ⟨#[114, 101, 118, 101, 114, 115, 101]⟩ := gmn_10.2.2.2.2.2
theorem gwt_1 : (WtC ⟨#[100, 114, 111, 112]⟩ [63]) ∧ (WtC ⟨#[116, 117, 99, 107]⟩ [63, 63]) ∧ (WtC ⟨#[109, 111, 100]⟩ [1, 1]) ∧ (WtC ⟨#[60]⟩ [1, 1]) ∧ (WtC ⟨#[110, 111, 116]⟩ [4]) ∧ (WtC ⟨#[113, 117, 111, 116, 63]⟩ [63]) ∧ (WtC ⟨#[115, 108, 105, 99, 101]⟩ [1, 1, 10]) ∧ (WtC ⟨#[99, 117, 114, 114, 121]⟩ [63, 16]) := by
 refine ⟨?_, ?_, ?_, ?_, ?_, ?_, ?_, ?_⟩
 all_goals
  intro w
  have O0 : Hid (Only (fun _ => False) w w) := Only.refl _ _
  go_enter Tryz.func14, Tryz.ntmps14
  go_wp2
  go_ret2
  exact ⟨_, rfl, ints_new _ _ w, O0.out.alloc _⟩
theorem wt_1 : WtC ⟨#[100, 114, 111, 112]⟩ [63] := gwt_1.1
theorem mv_1 : MvC ⟨#[100, 114, 111, 112]⟩ [] := by
 intro w
 have O0 : Hid (Only (fun _ => False) w w) := Only.refl _ _
 go_enter Tryz.func29, Tryz.ntmps29
 go_wp2
 go_ret2
 exact ⟨none, 0, rfl, fun j k hk => by simp at hk, O0.out⟩
theorem wt_6 : WtC ⟨#[116, 117, 99, 107]⟩ [63, 63] := gwt_1.2.1
theorem mv_6 : MvC ⟨#[116, 117, 99, 107]⟩ [1, 0, 1] := by
 intro w
 have O0 : Hid (Only (fun _ => False) w w) := Only.refl _ _
 go_enter Tryz.func29, Tryz.ntmps29
 go_wp2
 go_ret2
 exact ⟨some ⟨_, 0, none⟩, _, rfl, fun j k hk => ⟨_, 0, rfl, by rw [Nat.zero_add]; exact ints_new _ _ w j k hk⟩, O0.out.alloc _⟩
theorem wt_11 : WtC ⟨#[109, 111, 100]⟩ [1, 1] := gwt_1.2.2.1
theorem gmn_11 : (MnC ⟨#[109, 111, 100]⟩) ∧ (MnC ⟨#[60]⟩) ∧ (MnC ⟨#[110, 111, 116]⟩) ∧ (MnC ⟨#[113, 117, 111, 116, 63]⟩) ∧ (MnC ⟨#[115, 108, 105, 99, 101]⟩) ∧ (MnC ⟨#[99, 117, 114, 114, 121]⟩) := by
 refine ⟨?_, ?_, ?_, ?_, ?_, ?_⟩
 all_goals
  intro w
  go_enter Tryz.func29, Tryz.ntmps29
  go_wp2
  go_ret2
  exact ⟨rfl, rfl⟩
theorem mn_11 : MnC ⟨#[109, 111, 100]⟩ := gmn_11.1
theorem wt_16 : WtC ⟨#[60]⟩ [1, 1] := gwt_1.2.2.2.1
theorem mn_16 : MnC ⟨#[60]⟩ := gmn_11.2.1
theorem wt_21 : WtC ⟨#[110, 111, 116]⟩ [4] := gwt_1.2.2.2.2.1
theorem mn_21 : MnC ⟨#[110, 111, 116]⟩ := gmn_11.2.2.1
theorem wt_26 : WtC ⟨#[113, 117, 111, 116, 63]⟩ [63] := gwt_1.2.2.2.2.2.1
theorem mn_26 : MnC ⟨#[113, 117, 111, 116, 63]⟩ := gmn_11.2.2.2.1
theorem wt_31 : WtC ⟨#[115, 108, 105, 99, 101]⟩ [1, 1, 10] := gwt_1.2.2.2.2.2.2.1
theorem mn_31 : MnC ⟨#[115, 108, 105, 99, 101]⟩ := gmn_11.2.2.2.2.1
theorem wt_36 : WtC ⟨#[99, 117, 114, 114, 121]⟩ [63, 16] := gwt_1.2.2.2.2.2.2.2
theorem mn_36 : MnC ⟨#[99, 117, 114, 114, 121]⟩ := gmn_11.2.2.2.2.2
theorem gwt_2 : (WtC ⟨#[115, 119, 97, 112]⟩ [63, 63]) ∧ (WtC ⟨#[43]⟩ [1, 1]) ∧ (WtC ⟨#[110, 101, 103]⟩ [1]) ∧ (WtC ⟨#[62]⟩ [1, 1]) ∧ (WtC ⟨#[105, 110, 116, 63]⟩ [63]) ∧ (WtC ⟨#[98, 111, 120, 63]⟩ [63]) ∧ (WtC ⟨#[119, 114, 97, 112]⟩ [63]) ∧ (WtC ⟨#[99, 111, 109, 112, 111, 115, 101]⟩ [16, 16]) := by
 refine ⟨?_, ?_, ?_, ?_, ?_, ?_, ?_, ?_⟩
 all_goals
  intro w
  have O0 : Hid (Only (fun _ => False) w w) := Only.refl _ _
  go_enter Tryz.func14, Tryz.ntmps14
  go_wp2
  go_ret2
  exact ⟨_, rfl, ints_new _ _ w, O0.out.alloc _⟩
theorem wt_2 : WtC ⟨#[115, 119, 97, 112]⟩ [63, 63] := gwt_2.1
theorem mv_2 : MvC ⟨#[115, 119, 97, 112]⟩ [1, 0] := by
 intro w
 have O0 : Hid (Only (fun _ => False) w w) := Only.refl _ _
 go_enter Tryz.func29, Tryz.ntmps29
 go_wp2
 go_ret2
 exact ⟨some ⟨_, 0, none⟩, _, rfl, fun j k hk => ⟨_, 0, rfl, by rw [Nat.zero_add]; exact ints_new _ _ w j k hk⟩, O0.out.alloc _⟩
theorem wt_7 : WtC ⟨#[43]⟩ [1, 1] := gwt_2.2.1
theorem gmn_7 : (MnC ⟨#[43]⟩) ∧ (MnC ⟨#[110, 101, 103]⟩) ∧ (MnC ⟨#[62]⟩) ∧ (MnC ⟨#[105, 110, 116, 63]⟩) ∧ (MnC ⟨#[98, 111, 120, 63]⟩) ∧ (MnC ⟨#[119, 114, 97, 112]⟩) ∧ (MnC ⟨#[99, 111, 109, 112, 111, 115, 101]⟩) := by
 refine ⟨?_, ?_, ?_, ?_, ?_, ?_, ?_⟩
 all_goals
  intro w
  go_enter Tryz.func29, Tryz.ntmps29
  go_wp2
  go_ret2
  exact ⟨rfl, rfl⟩
theorem mn_7 : MnC ⟨#[43]⟩ := gmn_7.1
theorem wt_12 : WtC ⟨#[110, 101, 103]⟩ [1] := gwt_2.2.2.1
theorem mn_12 : MnC ⟨#[110, 101, 103]⟩ := gmn_7.2.1
theorem wt_17 : WtC ⟨#[62]⟩ [1, 1] := gwt_2.2.2.2.1
theorem mn_17 : MnC ⟨#[62]⟩ := gmn_7.2.2.1
theorem wt_22 : WtC ⟨#[105, 110, 116, 63]⟩ [63] := gwt_2.2.2.2.2.1
theorem mn_22 : MnC ⟨#[105, 110, 116, 63]⟩ := gmn_7.2.2.2.1
theorem wt_27 : WtC ⟨#[98, 111, 120, 63]⟩ [63] := gwt_2.2.2.2.2.2.1
theorem mn_27 : MnC ⟨#[98, 111, 120, 63]⟩ := gmn_7.2.2.2.2.1
theorem wt_32 : WtC ⟨#[119, 114, 97, 112]⟩ [63] := gwt_2.2.2.2.2.2.2.1
theorem mn_32 : MnC ⟨#[119, 114, 97, 112]⟩ := gmn_7.2.2.2.2.2.1
theorem wt_37 : WtC ⟨#[99, 111, 109, 112, 111, 115, 101]⟩ [16, 16] := gwt_2.2.2.2.2.2.2.2
theorem mn_37 : MnC ⟨#[99, 111, 109, 112, 111, 115, 101]⟩ := gmn_7.2.2.2.2.2.2
theorem gwt_3 : (WtC ⟨#[111, 118, 101, 114]⟩ [63, 63]) ∧ (WtC ⟨#[45]⟩ [1, 1]) ∧ (WtC ⟨#[97, 98, 115]⟩ [1]) ∧ (WtC ⟨#[61]⟩ [63, 63]) ∧ (WtC ⟨#[115, 116, 114, 63]⟩ [63]) ∧ (WtC ⟨#[108, 101, 110, 103, 116, 104]⟩ [26]) ∧ (WtC ⟨#[112, 97, 105, 114]⟩ [63, 63]) ∧ (WtC ⟨#[62, 115, 116, 114]⟩ [63]) := by
 refine ⟨?_, ?_, ?_, ?_, ?_, ?_, ?_, ?_⟩
 all_goals
  intro w
  have O0 : Hid (Only (fun _ => False) w w) := Only.refl _ _
  go_enter Tryz.func14, Tryz.ntmps14
  go_wp2
  go_ret2
  exact ⟨_, rfl, ints_new _ _ w, O0.out.alloc _⟩
theorem wt_3 : WtC ⟨#[111, 118, 101, 114]⟩ [63, 63] := gwt_3.1
theorem mv_3 : MvC ⟨#[111, 118, 101, 114]⟩ [0, 1, 0] := by
 intro w
 have O0 : Hid (Only (fun _ => False) w w) := Only.refl _ _
 go_enter Tryz.func29, Tryz.ntmps29
 go_wp2
 go_ret2
 exact ⟨some ⟨_, 0, none⟩, _, rfl, fun j k hk => ⟨_, 0, rfl, by rw [Nat.zero_add]; exact ints_new _ _ w j k hk⟩, O0.out.alloc _⟩
theorem wt_8 : WtC ⟨#[45]⟩ [1, 1] := gwt_3.2.1
theorem gmn_8 : (MnC ⟨#[45]⟩) ∧ (MnC ⟨#[97, 98, 115]⟩) ∧ (MnC ⟨#[61]⟩) ∧ (MnC ⟨#[115, 116, 114, 63]⟩) ∧ (MnC ⟨#[108, 101, 110, 103, 116, 104]⟩) ∧ (MnC ⟨#[112, 97, 105, 114]⟩) ∧ (MnC ⟨#[62, 115, 116, 114]⟩) := by
 refine ⟨?_, ?_, ?_, ?_, ?_, ?_, ?_⟩
 all_goals
  intro w
  go_enter Tryz.func29, Tryz.ntmps29
  go_wp2
  go_ret2
  exact ⟨rfl, rfl⟩
theorem mn_8 : MnC ⟨#[45]⟩ := gmn_8.1
theorem wt_13 : WtC ⟨#[97, 98, 115]⟩ [1] := gwt_3.2.2.1
theorem mn_13 : MnC ⟨#[97, 98, 115]⟩ := gmn_8.2.1
theorem wt_18 : WtC ⟨#[61]⟩ [63, 63] := gwt_3.2.2.2.1
theorem mn_18 : MnC ⟨#[61]⟩ := gmn_8.2.2.1
theorem wt_23 : WtC ⟨#[115, 116, 114, 63]⟩ [63] := gwt_3.2.2.2.2.1
theorem mn_23 : MnC ⟨#[115, 116, 114, 63]⟩ := gmn_8.2.2.2.1
theorem wt_28 : WtC ⟨#[108, 101, 110, 103, 116, 104]⟩ [26] := gwt_3.2.2.2.2.2.1
theorem mn_28 : MnC ⟨#[108, 101, 110, 103, 116, 104]⟩ := gmn_8.2.2.2.2.1
theorem wt_33 : WtC ⟨#[112, 97, 105, 114]⟩ [63, 63] := gwt_3.2.2.2.2.2.2.1
theorem mn_33 : MnC ⟨#[112, 97, 105, 114]⟩ := gmn_8.2.2.2.2.2.1
theorem wt_38 : WtC ⟨#[62, 115, 116, 114]⟩ [63] := gwt_3.2.2.2.2.2.2.2
theorem mn_38 : MnC ⟨#[62, 115, 116, 114]⟩ := gmn_8.2.2.2.2.2.2
theorem gwt_4 : (WtC ⟨#[114, 111, 116]⟩ [63, 63, 63]) ∧ (WtC ⟨#[42]⟩ [1, 1]) ∧ (WtC ⟨#[109, 105, 110]⟩ [1, 1]) ∧ (WtC ⟨#[97, 110, 100]⟩ [4, 4]) ∧ (WtC ⟨#[98, 111, 111, 108, 63]⟩ [63]) ∧ (WtC ⟨#[97, 112, 112, 101, 110, 100]⟩ [26, 26]) ∧ (WtC ⟨#[117, 110, 112, 97, 105, 114]⟩ [8]) ∧ (WtC ⟨#[62, 105, 110, 116]⟩ [2]) := by
 refine ⟨?_, ?_, ?_, ?_, ?_, ?_, ?_, ?_⟩
 all_goals
  intro w
  have O0 : Hid (Only (fun _ => False) w w) := Only.refl _ _
  go_enter Tryz.func14, Tryz.ntmps14
  go_wp2
  go_ret2
  exact ⟨_, rfl, ints_new _ _ w, O0.out.alloc _⟩
theorem wt_4 : WtC ⟨#[114, 111, 116]⟩ [63, 63, 63] := gwt_4.1
theorem mv_4 : MvC ⟨#[114, 111, 116]⟩ [1, 2, 0] := by
 intro w
 have O0 : Hid (Only (fun _ => False) w w) := Only.refl _ _
 go_enter Tryz.func29, Tryz.ntmps29
 go_wp2
 go_ret2
 exact ⟨some ⟨_, 0, none⟩, _, rfl, fun j k hk => ⟨_, 0, rfl, by rw [Nat.zero_add]; exact ints_new _ _ w j k hk⟩, O0.out.alloc _⟩
theorem wt_9 : WtC ⟨#[42]⟩ [1, 1] := gwt_4.2.1
theorem gmn_9 : (MnC ⟨#[42]⟩) ∧ (MnC ⟨#[109, 105, 110]⟩) ∧ (MnC ⟨#[97, 110, 100]⟩) ∧ (MnC ⟨#[98, 111, 111, 108, 63]⟩) ∧ (MnC ⟨#[97, 112, 112, 101, 110, 100]⟩) ∧ (MnC ⟨#[117, 110, 112, 97, 105, 114]⟩) ∧ (MnC ⟨#[62, 105, 110, 116]⟩) := by
 refine ⟨?_, ?_, ?_, ?_, ?_, ?_, ?_⟩
 all_goals
  intro w
  go_enter Tryz.func29, Tryz.ntmps29
  go_wp2
  go_ret2
  exact ⟨rfl, rfl⟩
theorem mn_9 : MnC ⟨#[42]⟩ := gmn_9.1
theorem wt_14 : WtC ⟨#[109, 105, 110]⟩ [1, 1] := gwt_4.2.2.1
theorem mn_14 : MnC ⟨#[109, 105, 110]⟩ := gmn_9.2.1
theorem wt_19 : WtC ⟨#[97, 110, 100]⟩ [4, 4] := gwt_4.2.2.2.1
theorem mn_19 : MnC ⟨#[97, 110, 100]⟩ := gmn_9.2.2.1
theorem wt_24 : WtC ⟨#[98, 111, 111, 108, 63]⟩ [63] := gwt_4.2.2.2.2.1
theorem mn_24 : MnC ⟨#[98, 111, 111, 108, 63]⟩ := gmn_9.2.2.2.1
theorem wt_29 : WtC ⟨#[97, 112, 112, 101, 110, 100]⟩ [26, 26] := gwt_4.2.2.2.2.2.1
theorem mn_29 : MnC ⟨#[97, 112, 112, 101, 110, 100]⟩ := gmn_9.2.2.2.2.1
theorem wt_34 : WtC ⟨#[117, 110, 112, 97, 105, 114]⟩ [8] := gwt_4.2.2.2.2.2.2.1
theorem mn_34 : MnC ⟨#[117, 110, 112, 97, 105, 114]⟩ := gmn_9.2.2.2.2.2.1
theorem wt_39 : WtC ⟨#[62, 105, 110, 116]⟩ [2] := gwt_4.2.2.2.2.2.2.2
theorem mn_39 : MnC ⟨#[62, 105, 110, 116]⟩ := gmn_9.2.2.2.2.2.2
end Go.Proofs.YtenjollhlgjjdaaGreatDoor
