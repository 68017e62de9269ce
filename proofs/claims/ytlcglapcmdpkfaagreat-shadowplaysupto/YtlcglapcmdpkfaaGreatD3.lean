import Derived.Test.YtlcglapcmdpkfaaGreatD2
import Derived.Deep.WholeRow
namespace Go.Proofs.YtlcglapcmdpkfaaGreat
open Go.RowKit
section
variable {P : Program} {ops : Array Oper} {op : Oper} {a : Act} {w w' : World} {K : Act → World → Prop} {Q : Exit → Act → World → Prop}
theorem wp_value {s : Sem Value} {v : Value} (ho : execOp a.eval op = (do pure (.value (← s)))) (h : s.run P w = .ok v w') (hk : K (a.put op.dst v) w') : op.wp P a w K Q := by
 unfold Oper.wp
 simp only [ho, Sem.run_bind, h, Result.andThen_ok, Sem.run_pure, Oper.upon]
 exact hk
theorem wp_unit {s : Sem Unit} (ho : execOp a.eval op = (do s; pure .skip)) (h : s.run P w = .ok () w') (hk : K (a.put op.dst undef) w') : op.wp P a w K Q := by
 unfold Oper.wp
 simp only [ho, Sem.run_bind, h, Result.andThen_ok, Sem.run_pure, Oper.upon]
 exact hk
theorem yields_value {S : World → Prop} {s : Sem Value} {v : Value} (hw : Region.wanted op (yielded ops a.tmps) = true) (ho : execOp a.eval op = (do pure (.value (← s)))) (h : ∀ w, S w → s.run P w = .ok v w) : YieldsIf P ops S op v a :=
 .inl ⟨hw, fun w hS => by simp only [ho, Sem.run_bind, h w hS, Result.andThen_ok, Sem.run_pure]⟩
theorem wpList_value {rest : List Oper} {s : Sem Value} {v : Value} (hgd : op.guard = none) (ho : execOp a.eval op = (do pure (.value (← s)))) (h : s.run P w = .ok v w') (hk : wpList P ops Q rest (a.put op.dst v) w') : wpList P ops Q (op :: rest) a w :=
 wpList_plain hgd fun _ hK => wp_value ho h (hK _ _ hk)
theorem wpList_storeNew {rest : List Oper} (hgd : op.guard = none) (ty : TypeId) (x y : Operand) (ho : op.op = .store ty x y)
  (w0 : World) (c cells : Array Value) (hx : a.eval x = .pointer (some ⟨w0.heap.size, 0, none⟩)) (hy : a.eval y = .agg cells)
  (hi : (P.info? ty).map (·.size) = some cells.size) (hs : c.size = cells.size) (h1 : cells.all (·.oneCell') = true)
  (h : wpList P ops Q rest (a.put op.dst undef) (w0.alloc (.cells cells ty))) : wpList P ops Q (op :: rest) a (w0.alloc (.cells c ty)) :=
 wpList_plain hgd fun _ hK => by
  unfold Oper.wp execOp
  simp only [ho, hx, hy, Sem.run_bind, Sem.run_pure, run_storeAt_new w0 ty c cells hi hs h1, Result.andThen_ok]
  exact hK _ _ h
end
set_option maxHeartbeats 400000 in
set_option maxRecDepth 100000 in
theorem read_ok (p S n c k : Nat) (l : Int) (cs : List Value) (w : World) (h0 : w.cell? ⟨p, 0, none⟩ = some (.slice (some ⟨S, 0, none⟩) n c)) (h2 : w.cell? ⟨p, 2, none⟩ = some (.int .i64 l)) (hl : (l == 0) = false) (hk2 : (k : Int) < n)
  (hcs : cs.length = 32) (h1 : ∀ v ∈ cs, v.oneCell' = true) (hr : w.rangeAt S (k * 32) cs) :
  Calls Tryz.prog 8 #[.pointer (some ⟨p, 0, none⟩), .int .i64 k] w fun e w' => e = .returned (.tuple #[.slice (some ⟨w.heap.size, 0, none⟩) 32 32, .int .i64 0]) ∧ w' = w.alloc (.cells cs.toArray 67) := by
 have hk : (0 : Int) ≤ (k : Int) := Int.natCast_nonneg _
 have hi : (Tryz.prog.info? 67).map (·.size) = some cs.length := by rw [size68, hcs]
 have hi2 : (Tryz.prog.info? 67).map (·.size) = some cs.toArray.size := by rw [size68]; simp [hcs]
 have hall := all_oneCell_toArray h1
 go_enter Tryz.func8, Tryz.ntmps8
 go_wp2_with (first | (go_at_call 27; refine (reach_ok p S n c l k _ ‹_› ‹_› hl hk hk2).mono ?_; rintro e w' ⟨rfl, rfl⟩) | (refine wpList_load_mid rfl 67 _ rfl S (k * 32) rfl cs _ hr Tryz.underlying67 rfl hi ?_) | (refine wpList_storeNew rfl 67 _ _ rfl _ _ cs.toArray rfl rfl hi2 (by simp [hcs]) hall ?_))
 go_ret2
 exact ⟨rfl, rfl⟩
end Go.Proofs.YtlcglapcmdpkfaaGreat
