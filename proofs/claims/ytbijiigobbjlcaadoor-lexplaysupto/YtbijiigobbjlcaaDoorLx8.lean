/- The digits of a number: decimal. -/
import Derived.Test.YtbijiigobbjlcaaDoorLx7
import Derived.Laws.IdiomStrings
import Derived.Laws.Concat
import Derived.Laws.Runes
namespace Go.Proofs.YtbijiigobbjlcaaDoor
open Go.RowKit
set_option linter.unusedSimpArgs false
set_option linter.unusedVariables false
theorem val_go : ∀ (ds : List Nat) (a : Nat), ds.foldl (fun n d => n * 10 + d) a = a * 10 ^ ds.length + valX ds := by
  intro ds
  induction ds with
  | nil => intro a; simp [valX]
  | cons d ds ih =>
    intro a
    unfold valX
    rw [List.foldl_cons, List.foldl_cons, ih, ih, List.length_cons, Nat.pow_succ, Nat.add_mul, Nat.zero_mul, Nat.zero_add, Nat.add_assoc, Nat.mul_assoc, Nat.mul_comm 10]
theorem val_cons (d : Nat) (ds : List Nat) : valX (d :: ds) = d * 10 ^ ds.length + valX ds := by
  have := val_go ds (0 * 10 + d)
  rw [Nat.zero_mul, Nat.zero_add] at this
  rw [← this]
  unfold valX
  rw [List.foldl_cons, Nat.zero_mul, Nat.zero_add]
theorem mk_size (ds : List Nat) : (∀ d ∈ ds, d < 10) → (mkS (ds.map (48 + ·))).size = ds.length := by
  intro h
  unfold mkS
  rw [size_mk]
  induction ds with
  | nil => rfl
  | cons d ds ih =>
    unfold encL
    rw [List.map_cons, List.flatMap_cons, enc48 (h d (List.mem_cons_self ..)), List.length_append, List.length_cons]
    have := ih (fun x hx => h x (List.mem_cons_of_mem _ hx))
    unfold encL at this
    rw [this]
    simp
    omega
/-- The digits under way: u is still to be laid. -/
structure Dg (U u : Nat) (ds : List Nat) : Prop where
  lt : ∀ d ∈ ds, d < 10
  sum : u * 10 ^ ds.length + valX ds = U
  len : ds.length ≤ 20
  room : u < 10 ^ (20 - ds.length)
theorem Dg.none {U : Nat} (h : U < 100000000000000000000) : Dg U U [] := ⟨by simp, by simp [valX], by simp, by simpa using h⟩
theorem Dg.more {U u : Nat} {ds : List Nat} (h : Dg U u ds) (hu : 0 < u ∨ ds = []) : Dg U (u / 10) (u % 10 :: ds) := by
  have hl : ds.length < 20 := by
    rcases hu with hu | rfl
    · rcases Nat.lt_or_ge ds.length 20 with g | g
      · exact g
      · have := h.room
        rw [show 20 - ds.length = 0 by omega] at this
        simp at this
        omega
    · simp
  refine ⟨?_, ?_, by rw [List.length_cons]; omega, ?_⟩
  · intro d hd
    rcases List.mem_cons.1 hd with rfl | hd
    · exact Nat.mod_lt _ (by omega)
    · exact h.lt d hd
  · rw [val_cons, List.length_cons, Nat.pow_succ, ← Nat.add_assoc, ← h.sum, Nat.mul_comm (10 ^ ds.length) 10, ← Nat.mul_assoc, ← Nat.add_mul]
    congr 2
    omega
  · rw [List.length_cons]
    have := h.room
    rw [show 20 - ds.length = (20 - (ds.length + 1)) + 1 by omega, Nat.pow_succ] at this
    exact Nat.div_lt_of_lt_mul (by rw [Nat.mul_comm]; exact this)
theorem Dg.size {U u : Nat} {ds : List Nat} (h : Dg U u ds) : (mkS (ds.map (48 + ·))).size ≤ 20 := by
  rw [mk_size ds h.lt]; exact h.len
theorem Dg.le {U u : Nat} {ds : List Nat} (h : Dg U u ds) : u ≤ U := by
  have h1 := h.sum
  have h2 : u * 1 ≤ u * 10 ^ ds.length := Nat.mul_le_mul_left _ (Nat.pos_of_ne_zero (by simp))
  omega
theorem one_byte {d : Nat} (hd : d < 10) (w : World) :
    (convert 58 9 (.slice (some ⟨w.heap.size, 0, none⟩) 1 1)).run Tryd.prog (w.alloc (.cells #[.int .u8 ((48 + d : Nat) : Int)] 5)) = .ok (.string ⟨#[UInt8.ofNat (48 + d)]⟩) (w.alloc (.cells #[.int .u8 ((48 + d : Nat) : Int)] 5)) := by
  have := run_convert_bytes_back (P := Tryd.prog) (w.alloc (.cells #[.int .u8 ((48 + d : Nat) : Int)] 5)) 58 9 5 ⟨w.heap.size, 0, none⟩ 1 [UInt8.ofNat (48 + d)] Tryd.underlying58 Tryd.underlying5 Tryd.underlying9 (fun j hj => by
    have : j = 0 := by simpa using hj
    subst this
    have e : ((UInt8.ofNat (48 + d)).toNat : Int) = ((48 + d : Nat) : Int) := by
      rcases ten hd with rfl | rfl | rfl | rfl | rfl | rfl | rfl | rfl | rfl | rfl <;> rfl
    simp only [List.getElem_cons_zero, e]
    exact World.cell?_alloc_at _ _ w.heap.size 0 rfl)
  exact this
def DecIs (n : Int) (w : World) (e : Ending) (w' : World) : Prop := ∃ ds, Dg n.natAbs 0 ds ∧ ds ≠ [] ∧ e = .returned (.string (mnB (decide (n < 0)) ++ mkS (ds.map (48 + ·)))) ∧ Only (fun _ => False) w w'
def uOf : Value → Nat
  | .int _ m => m.toNat
  | _ => 0
def sOf : Value → Nat
  | .string b => 1 - b.size
  | _ => 0
set_option maxRecDepth 100000 in
set_option maxHeartbeats 2000000 in
theorem decimal_any {n : Int} (h1 : -9223372036854775808 ≤ n) (h2 : n ≤ 9223372036854775807) (w : World) :
    Calls Tryd.prog 21 #[.int .i64 n] w (DecIs n w) := by
  have hob := fun (d : Nat) (hd : d < 10) (w : World) => one_byte hd w
  have HO : Hid (Only (fun _ => False) w w) := Only.refl _ _
  obtain ⟨U, hU⟩ : ∃ U, U = n.natAbs := ⟨_, rfl⟩
  have HD : Hid (Dg U U []) := Dg.none (by omega)
  have HU : Hid (U = n.natAbs) := hU
  have HQ : Hid (∀ ds w1, Dg U 0 ds → ds ≠ [] → Only (fun _ => False) w w1 → DecIs n w (.returned (.string (mnB (decide (n < 0)) ++ mkS (ds.map (48 + ·))))) w1) := fun ds w1 a b c => ⟨ds, hU ▸ a, b, rfl, c⟩
  by_cases hn : n < 0
  · have e1 : IntKind.u64.wrap n = n + 18446744073709551616 := by rw [IntKind.wrap_u64]; omega
    have e2 : IntKind.u64.wrap (-(n + 18446744073709551616)) = (U : Int) := by rw [IntKind.wrap_u64]; omega
    have hU2 : U ≤ 9223372036854775808 := by omega
    clear hU HU
    go_enter Tryd.func21, Tryd.ntmps21
    go_wp2
    go_loopw [3, 4] (fun u s w' => ∃ (m : Nat) (ds : List Nat), u = .int .u64 (m : Nat) ∧ s = .string (mkS (ds.map (48 + ·))) ∧ Hid (Dg U m ds ∧ Only (fun _ => False) w w')) (fun u s _ => uOf u + sOf s)
    case atStart => exact ⟨U, [], rfl, rfl, HD.out, HO.out⟩
    case round =>
      obtain ⟨m, ds, rfl, rfl, HI⟩ := hrel
      clear HD HO e1 e2
      have hd10 : m % 10 < 10 := Nat.mod_lt _ (by omega)
      have hcv : ∀ W : World, (convert 58 9 (.slice (some ⟨W.heap.size, 0, none⟩) 1 1)).run Tryd.prog (W.alloc (.cells #[.int .u8 (48 + (m : Int) % 10)] 5)) = .ok (.string ⟨#[UInt8.ofNat (48 + m % 10)]⟩) (W.alloc (.cells #[.int .u8 (48 + (m : Int) % 10)] 5)) := fun W => one_byte hd10 W
      have had : ∀ W : World, (Op.stringOp .add (⟨#[UInt8.ofNat (48 + m % 10)]⟩ : ByteArray) (mkS (ds.map (48 + ·)))).run Tryd.prog W = .ok (.string (mkS ((m % 10 :: ds).map (48 + ·)))) W := fun W => by
        rw [run_string_add_sum, mk_cons hd10]
        have := HI.out.1.size
        have e : (ByteArray.mk #[UInt8.ofNat (48 + m % 10)]).size = 1 := rfl
        omega
      have HN : Hid ((0 < m ∨ ds = []) → Dg U (m / 10) (m % 10 :: ds) ∧ Only (fun _ => False) w (wr.alloc (.cells #[.int .u8 (48 + (m : Int) % 10)] 5))) := fun g => ⟨HI.out.1.more g, HI.out.2.alloc _⟩
      have hs0 : 1 ≤ (mkS ((m % 10 :: ds).map (48 + ·))).size := by
        rw [mk_size (m % 10 :: ds) (fun d hd => by
          rcases List.mem_cons.1 hd with rfl | hd
          · exact hd10
          · exact HI.out.1.lt d hd)]
        simp
      have HS : Hid (1 ≤ (mkS ((m % 10 :: ds).map (48 + ·))).size) := hs0
      clear hs0
      have hmU : m ≤ U := HI.out.1.le
      have e3 : IntKind.u64.wrap ((m : Int) / 10) = ((m / 10 : Nat) : Int) := by rw [IntKind.wrap_u64]; omega
      obtain ⟨D, hD⟩ : ∃ D, D = (⟨#[UInt8.ofNat (48 + m % 10)]⟩ : ByteArray) := ⟨_, rfl⟩
      rw [← hD] at hcv had
      clear hD hd10
      by_cases hm : 0 < m
      · have i1 : (0 : Int) < (m : Int) := by omega
        clear HI
        go_wp2
        go_roundw
        case rel => exact ⟨m / 10, m % 10 :: ds, by first | rfl | go_num, rfl, HN.out (.inl hm)⟩
        case measure =>
          have := HS.out
          simp only [uOf, sOf, List.map_cons] at this ⊢
          omega
      · have i1 : ¬ (0 : Int) < (m : Int) := by omega
        have i0 : Hid (m = 0) := (by omega : m = 0)
        by_cases hs : ds = []
        · subst hs
          have hz : mkS ([].map (48 + ·)) = ⟨#[]⟩ := rfl
          clear HI
          rw [hz] at had ⊢
          clear hz
          go_wp2
          go_roundw
          case rel => exact ⟨m / 10, m % 10 :: [], by first | rfl | go_num, rfl, HN.out (.inr rfl)⟩
          case measure =>
            have := HS.out
            have e0 : (ByteArray.mk #[]).size = 0 := rfl
            have i0' : m = 0 := i0.out
            simp only [uOf, sOf, List.map_cons, List.map_nil, e0] at this ⊢
            omega
        · have hz : ¬ mkS (ds.map (48 + ·)) = ⟨#[]⟩ := by
            intro g
            have := mk_size ds HI.out.1.lt
            rw [g] at this
            have e : (ByteArray.mk #[]).size = 0 := rfl
            rw [e] at this
            exact hs (List.eq_nil_of_length_eq_zero this.symm)
          have hz2 : (mkS (ds.map (48 + ·))).toList.isEmpty = false := by
            cases he : (mkS (ds.map (48 + ·))).toList with
            | nil => exact absurd (ba_ext (by rw [ByteArray.toList_eq] at he; simpa using he)) hz
            | cons a b => rfl
          have HE : Hid (DecIs n w (.returned (.string (mnB (decide (n < 0)) ++ mkS (ds.map (48 + ·))))) wr) := HQ.out ds wr ((show m = 0 from i0.out) ▸ HI.out.1) hs HI.out.2
          have hsz := HI.out.1.size
          have had2 : ∀ W : World, (Op.stringOp .add (⟨#[45]⟩ : ByteArray) (mkS (ds.map (48 + ·)))).run Tryd.prog W = .ok (.string (mnB (decide (n < 0)) ++ mkS (ds.map (48 + ·)))) W := fun W => by
            rw [run_string_add_sum, show decide (n < 0) = true by simp; omega]
            · rfl
            · have e : (ByteArray.mk #[45]).size = 1 := rfl
              omega
          clear hsz
          obtain ⟨R, hR⟩ : ∃ R, R = mnB (decide (n < 0)) ++ mkS (ds.map (48 + ·)) := ⟨_, rfl⟩
          rw [← hR] at HE had2
          clear hR
          clear HI HN HS HQ
          go_wp2
          go_ret
          exact HE.out
  · have e1 : IntKind.u64.wrap n = (U : Int) := by rw [IntKind.wrap_u64]; omega
    have hU2 : U ≤ 9223372036854775808 := by omega
    clear hU HU
    go_enter Tryd.func21, Tryd.ntmps21
    go_wp2
    go_loopw [3, 4] (fun u s w' => ∃ (m : Nat) (ds : List Nat), u = .int .u64 (m : Nat) ∧ s = .string (mkS (ds.map (48 + ·))) ∧ Hid (Dg U m ds ∧ Only (fun _ => False) w w')) (fun u s _ => uOf u + sOf s)
    case atStart => exact ⟨U, [], rfl, rfl, HD.out, HO.out⟩
    case round =>
      obtain ⟨m, ds, rfl, rfl, HI⟩ := hrel
      clear HD HO e1 
      have hd10 : m % 10 < 10 := Nat.mod_lt _ (by omega)
      have hcv : ∀ W : World, (convert 58 9 (.slice (some ⟨W.heap.size, 0, none⟩) 1 1)).run Tryd.prog (W.alloc (.cells #[.int .u8 (48 + (m : Int) % 10)] 5)) = .ok (.string ⟨#[UInt8.ofNat (48 + m % 10)]⟩) (W.alloc (.cells #[.int .u8 (48 + (m : Int) % 10)] 5)) := fun W => one_byte hd10 W
      have had : ∀ W : World, (Op.stringOp .add (⟨#[UInt8.ofNat (48 + m % 10)]⟩ : ByteArray) (mkS (ds.map (48 + ·)))).run Tryd.prog W = .ok (.string (mkS ((m % 10 :: ds).map (48 + ·)))) W := fun W => by
        rw [run_string_add_sum, mk_cons hd10]
        have := HI.out.1.size
        have e : (ByteArray.mk #[UInt8.ofNat (48 + m % 10)]).size = 1 := rfl
        omega
      have HN : Hid ((0 < m ∨ ds = []) → Dg U (m / 10) (m % 10 :: ds) ∧ Only (fun _ => False) w (wr.alloc (.cells #[.int .u8 (48 + (m : Int) % 10)] 5))) := fun g => ⟨HI.out.1.more g, HI.out.2.alloc _⟩
      have hs0 : 1 ≤ (mkS ((m % 10 :: ds).map (48 + ·))).size := by
        rw [mk_size (m % 10 :: ds) (fun d hd => by
          rcases List.mem_cons.1 hd with rfl | hd
          · exact hd10
          · exact HI.out.1.lt d hd)]
        simp
      have HS : Hid (1 ≤ (mkS ((m % 10 :: ds).map (48 + ·))).size) := hs0
      clear hs0
      have hmU : m ≤ U := HI.out.1.le
      have e3 : IntKind.u64.wrap ((m : Int) / 10) = ((m / 10 : Nat) : Int) := by rw [IntKind.wrap_u64]; omega
      obtain ⟨D, hD⟩ : ∃ D, D = (⟨#[UInt8.ofNat (48 + m % 10)]⟩ : ByteArray) := ⟨_, rfl⟩
      rw [← hD] at hcv had
      clear hD hd10
      by_cases hm : 0 < m
      · have i1 : (0 : Int) < (m : Int) := by omega
        clear HI
        go_wp2
        go_roundw
        case rel => exact ⟨m / 10, m % 10 :: ds, by first | rfl | go_num, rfl, HN.out (.inl hm)⟩
        case measure =>
          have := HS.out
          simp only [uOf, sOf, List.map_cons] at this ⊢
          omega
      · have i1 : ¬ (0 : Int) < (m : Int) := by omega
        have i0 : Hid (m = 0) := (by omega : m = 0)
        by_cases hs : ds = []
        · subst hs
          have hz : mkS ([].map (48 + ·)) = ⟨#[]⟩ := rfl
          clear HI
          rw [hz] at had ⊢
          clear hz
          go_wp2
          go_roundw
          case rel => exact ⟨m / 10, m % 10 :: [], by first | rfl | go_num, rfl, HN.out (.inr rfl)⟩
          case measure =>
            have := HS.out
            have e0 : (ByteArray.mk #[]).size = 0 := rfl
            have i0' : m = 0 := i0.out
            simp only [uOf, sOf, List.map_cons, List.map_nil, e0] at this ⊢
            omega
        · have hz : ¬ mkS (ds.map (48 + ·)) = ⟨#[]⟩ := by
            intro g
            have := mk_size ds HI.out.1.lt
            rw [g] at this
            have e : (ByteArray.mk #[]).size = 0 := rfl
            rw [e] at this
            exact hs (List.eq_nil_of_length_eq_zero this.symm)
          have hz2 : (mkS (ds.map (48 + ·))).toList.isEmpty = false := by
            cases he : (mkS (ds.map (48 + ·))).toList with
            | nil => exact absurd (ba_ext (by rw [ByteArray.toList_eq] at he; simpa using he)) hz
            | cons a b => rfl
          have HE : Hid (DecIs n w (.returned (.string (mnB (decide (n < 0)) ++ mkS (ds.map (48 + ·))))) wr) := HQ.out ds wr ((show m = 0 from i0.out) ▸ HI.out.1) hs HI.out.2
          rw [show decide (n < 0) = false by simp; omega, show mnB false ++ mkS (ds.map (48 + ·)) = mkS (ds.map (48 + ·)) from app_mk [] _] at HE
          clear HI HN HS HQ
          go_wp2
          go_ret
          exact HE.out
end Go.Proofs.YtbijiigobbjlcaaDoor
