import Derived.Test.YtlcglapcmdpkfaaGreatM1
import Derived.Test.YtlcglapcmdpkfaaGreatL2
import Derived.Test.YtlcglapcmdpkfaaGreatDw
namespace Go.Proofs.YtlcglapcmdpkfaaGreat
open Go.RowKit Go.Maps
set_option linter.unusedSimpArgs false
set_option linter.unusedVariables false
section
variable {P : Program} (w : World)
theorem equalIn_map_nil (d : Nat) (t k e : TypeId) (p : Option Nat) (h : P.underlying t = some (.map k e)) :
  (Op.equalIn (d + 1) t (.map p) (.map none)).run P w = .ok p.isNone w := by
 cases p <;> simp [Op.equalIn, run_underlying h]
theorem eql_map_nil (t k e : TypeId) (p : Option Nat) (h : P.underlying t = some (.map k e)) :
  (binOp .eql t (.map p) (.map none)).run P w = .ok (.bool p.isNone) w := by
 simp only [binOp]
 simp [show Op.equal t (.map p) (.map none) = Op.equalIn (9999 + 1) t (.map p) (.map none) from rfl, equalIn_map_nil w 9999 t k e p h]
theorem typeAssert_map (t xT k e : TypeId) (v : Value) (h : P.underlying t = some (.map k e)) : (Instr.typeAssert (.iface t v) xT t false).run P w = .ok v w := by
 simp [Instr.typeAssert, run_underlying h, go_sem, Result.andThen]
theorem run_clone {r : Nat} {es : Array MapEntry} {clock : Nat} (t : TypeId) (hb : w.heap[r]? = some (.map es clock)) :
  (Extern.MapsClone.clone #[.iface t (.map (some r))]).run P w = .ok (.iface t (.map (some w.heap.size))) (w.alloc (.map es clock)) := by
 obtain ⟨bad, e⟩ : ∃ bad : Sem Value, Extern.MapsClone.clone #[.iface t (.map (some r))] = (getObj r >>= fun o => match o with
   | .map entries clock => (newObj (.map entries clock) >>= fun n => pure (.iface t (.map (some n))))
   | _ => bad) := ⟨_, rfl⟩
 rw [e]
 simp [MapKept.run_getObj_map hb, Result.andThen, go_sem]
end
set_option maxRecDepth 100000 in
set_option maxHeartbeats 2000000 in
theorem mclone_raw (b : Nat) (es : Array MapEntry) (clock : Nat) (w : World) (hb : w.heap[b]? = some (.map es clock)) :
  Calls Tryz.prog 67 #[.map (some b)] w fun e w' => e = .returned (.map (some w.heap.size)) ∧ w' = w.alloc (.map es clock) := by
 have hq := fun w => eql_map_nil (P := Tryz.prog) w 77 _ _ (some b) Tryz.underlying77
 go_enter Tryz.func67, Tryz.ntmps67
 go_wp2
 rw [run_callFunc_extern Tryz.func93 (by kernel_rfl) (by kernel_rfl) (by kernel_rfl) (e := Extern.MapsClone.clone) (by kernel_rfl), run_clone w 77 hb]
 simp only [Result.andThen]
 rw [Oper.upon_value]
 go_wp2
 rw [typeAssert_map _ 77 20 _ _ _ Tryz.underlying77]
 simp only [Result.andThen]
 rw [Oper.upon_value]
 go_wp2
 go_ret
 exact ⟨rfl, rfl⟩
theorem mclone_any (b : Nat) (l : List (Int × Value)) (w : World) (h : MapAt w b l) :
  Calls Tryz.prog 67 #[.map (some b)] w fun e w' => e = .returned (.map (some w.heap.size)) ∧ MapAt w' w.heap.size l ∧ Only (fun _ => False) w w' ∧ w'.heap.size = w.heap.size + 1 := by
 obtain ⟨es, clock, hb, F, hs, hD⟩ := h.own
 refine (mclone_raw b es clock w hb).mono ?_
 rintro e w' ⟨rfl, rfl⟩
 exact ⟨rfl, ⟨⟨es, clock, (MapKept.heap_alloc w _).1, F, hs, hD⟩, h.rise⟩, (Only.refl _ w).alloc _, by simp⟩
theorem eql_slice_nil {a : Option Addr} {n c : Nat} (w : World) : (binOp .eql 37 (.slice a n c) (.slice none 0 0)).run Tryz.prog w = .ok (.bool a.isNone) w := by
 cases a <;> kernel_rfl
set_option maxRecDepth 100000 in
set_option maxHeartbeats 2000000 in
theorem bclone_any (v : Value) (zs : List Nat) (w : World) (h : BytesAt w v zs) :
  Calls Tryz.prog 33 #[v] w fun e w' => ∃ u, e = .returned u ∧ Fresh w' w.heap.size u zs ∧ Only (fun _ => False) w w' := by
 obtain ⟨i0, hi0, hz0, hz1, hz2⟩ := info_parts info5
 obtain ⟨a, cap, w', hr, own, ho⟩ := app_copy 37 5 i0 _ 1 Tryz.underlying37 hi0 hz0 hz1 hz2 rfl rfl w v zs.length _ h.1 (fun j => rfl) h.2.1
 rw [← BL_getD] at own
 have HR : Hid _ := hr
 have HF : Hid (Fresh w' w.heap.size (.slice a zs.length cap) zs) := ⟨own, h.2⟩
 have HO : Hid (Only (fun _ => False) w w') := ho
 have hem := empty23
 rcases h.1 with ⟨rfl, h0⟩ | ⟨ad, c, rfl, _, _⟩
 ·have hn : zs = [] := List.eq_nil_of_length_eq_zero h0
  subst hn
  clear hr own ho h HR HF HO hem
  have hq := fun w => eql_slice_nil (a := none) (n := 0) (c := 0) w
  go_enter Tryz.func33, Tryz.ntmps33
  go_wp2
  go_ret
  exact ⟨_, rfl, ⟨World.ownsRow_nil _ _ _ _, by simp, fun z hz => by cases hz⟩, Only.refl _ _⟩
 ·clear hr own ho h
  have hq := fun w => eql_slice_nil (a := some ad) (n := zs.length) (c := c) w
  go_enter Tryz.func33, Tryz.ntmps33
  go_wp2_with (at_builtin; refine wpList_append_run rfl _ _ 37 rfl _ _ (.slice a zs.length cap) rfl rfl HR.out ?_)
  go_ret
  exact ⟨_, rfl, HF.out, HO.out⟩
end Go.Proofs.YtlcglapcmdpkfaaGreat
