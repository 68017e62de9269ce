import Derived.Test.YtlcglapcmdpkfaaGreatD8
import Derived.Test.YtlcglapcmdpkfaaGreatP1
namespace Go.Proofs.YtlcglapcmdpkfaaGreat
open Go.RowKit
set_option linter.unusedSimpArgs false
set_option linter.unusedVariables false
def mix (n : Nat) (f g : Nat → Int) : Nat → Int := fun j => if j < n then f j else g j
def crashTo (kp : Nat → Bool) (torn : Int) (cut : Nat) (ws : List Wr) (s : Nat → Nat → Int) : Nat → Nat → Nat → Int
 | 0 => s
 | i + 1 => match ws[i]? with
   | some x => if kp i = true then upd (crashTo kp torn cut ws s i) x.at_ (mix (if (i : Int) = torn then cut else 32) x.aft (crashTo kp torn cut ws s i x.at_)) else crashTo kp torn cut ws s i
   | none => crashTo kp torn cut ws s i
section
variable {P : Program} {op : Oper} {a : Act} {w : World} {K : Act → World → Prop} {Q : Exit → Act → World → Prop}
theorem run_copy_mid (w : World) (dT sT ty elem : TypeId) (g o dLen dCap : Nat) (a : Addr) (sLen sCap : Nat) (cs : List Value)
  (hu : P.underlying dT = some (.slice elem)) (hs : (P.info? elem).map (·.size) = some 1) (ht : w.there g o cs.length) (hn : cs.length = Nat.min sLen dLen)
  (hsrc : ∀ j v, cs[j]? = some v → w.cell? (a.add j) = some v) (h1 : ∀ v ∈ cs, v.oneCell' = true) :
  (Builtin.copy_ #[dT, sT] ty #[.slice (some ⟨g, o, none⟩) dLen dCap, .slice (some a) sLen sCap]).run P w = .ok (goInt cs.length) (w.setCells g o cs) := by
 have hl := run_loadCells_list (P := P) w a cs hsrc
 have hst := run_storeCells_cells (P := P) g o cs 0 w (fun j hj => by simpa using (ht j (by simpa using hj)).1) (fun j hj => by simpa using (ht j (by simpa using hj)).2) h1
 cases hq : P.info? elem with
 | none => simp [hq] at hs
 | some i =>
   have hi : i.size = 1 := by simpa [hq] using hs
   simp only [Nat.add_zero] at hst
   simp [Builtin.copy_, run_underlying hu, Builtin.lenOf, Builtin.firstCells, sizeOf, typeInfo, hq, hi, ← hn, hl, hst]
theorem wp_copy_mid (d s : Operand) (dT sT : TypeId) (ho : op.op = .call { callee := .builtin .copy, args := #[d, s], argTypes := #[dT, sT] }) (elem : TypeId) (hu : P.underlying dT = some (.slice elem)) (hsz : (P.info? elem).map (·.size) = some 1)
  (g o dLen dCap : Nat) (ad : Addr) (sLen sCap : Nat) (cs : List Value) (hd : a.eval d = .slice (some ⟨g, o, none⟩) dLen dCap) (hs : a.eval s = .slice (some ad) sLen sCap) (ht : w.there g o cs.length) (hn : cs.length = Nat.min sLen dLen)
  (hsrc : ∀ j v, cs[j]? = some v → w.cell? (ad.add j) = some v) (h1 : ∀ v ∈ cs, v.oneCell' = true) (h : K (a.put op.dst (goInt cs.length)) (w.setCells g o cs)) : op.wp P a w K Q := by
 have hrun := run_copy_mid (P := P) w dT sT op.type elem g o dLen dCap ad sLen sCap cs hu hsz ht hn hsrc h1
 unfold Oper.wp
 simp [execOp, ho, resolve, invoke, builtin, hd, hs, hrun, Result.andThen]
 exact h
end
theorem DiskAt.len {w : World} {B p S : Nat} {pv : Value} {d : DS} (h : DiskAt w B p S pv d) : d.pend.length ≤ maxLen := by
 rcases h.own.2 with ⟨_, h2⟩ | ⟨g, cap, cur, _, _, _, h1, h2, _⟩
 ·rw [h2]; exact Nat.zero_le _
 ·omega
theorem DiskAt.part {W : World} {B p S : Nat} {pv : Value} {d : DS} (hd : DiskAt W B p S pv d) (k n : Nat) (f : Nat → Int) (cs : List Value) (hcs : cs.length = n) (hn : n ≤ 32) (hf : ∀ j, j < n → cs[j]? = some (.int .u8 (f j))) (hk : k < d.n) :
  DiskAt (W.setCells S (k * 32) cs) B p S pv { d with sec := upd d.sec k (mix n f (d.sec k)) } := by
 have oS : Only (fun i => i = S) W (W.setCells S (k * 32) cs) := (Only.refl _ W).setCells _ _ _ (fun _ => rfl)
 have hpS := hd.pS
 obtain ⟨c, hc0⟩ := hd.c0
 have ht := (hd.secs k hk).2
 exact { pB := hd.pB, SB := hd.SB, pS := hd.pS
         c0 := ⟨c, oS.cell hc0 hpS⟩
         c1 := oS.cell hd.c1 hpS
         c2 := oS.cell hd.c2 hpS
         f1 := (oS.frozen (World.block_lt_of_cell? W _ hd.c1) hpS).trans hd.f1
         f2 := (oS.frozen (World.block_lt_of_cell? W _ hd.c2) hpS).trans hd.f2
         secs := fun i hi => by
          refine ⟨?_, World.there_setCells (hd.secs i hi).2 _ _ _⟩
          by_cases e : i = k
          ·subst e
           simp only
           rw [show upd d.sec i (mix n f (d.sec i)) i = mix n f (d.sec i) from if_pos rfl]
           intro j v hv
           have hj : j < 32 := by have := (List.getElem?_eq_some_iff.1 hv).1; rwa [secL_length] at this
           rw [secL_get _ _ hj] at hv
           by_cases hjn : j < n
           ·rw [World.cell?_setCells_in S cs (i * 32) W (fun q hq => (ht q (by omega)).1) j (by omega), ← hv]
            have := hf j hjn
            rw [List.getElem?_eq_getElem (by omega)] at this
            rw [Option.some.inj this]
            simp [mix, hjn]
           ·rw [World.cell?_setCells_out S cs (i * 32) W ⟨S, i * 32 + j, none⟩ (fun _ _ => .inr (by rw [hcs]; simp only; omega))]
            rw [(hd.secs i hi).1 j _ (secL_get _ _ hj), ← hv]
            simp [mix, hjn]
          ·simp only [upd, if_neg e]
           exact World.rangeAt_setCells_apart (hd.secs i hi).1 _ _ _ (by rw [secL_length, hcs]; omega)
         own := oS.owns hd.own (fun k hk e => hd.hS (by rw [hk, e]))
         hp := hd.hp, hS := hd.hS, n1 := hd.n1, n2 := hd.n2, at_ := hd.at_, l1 := hd.l1, l2 := hd.l2 }
theorem DiskAt.drew {W : World} {B p S : Nat} {pv : Value} {d : DS} (hd : DiskAt W B p S pv d) : DiskAt W.drew B p S pv d := hd.frame ((Only.refl (fun _ => False) W).drew) (fun _ _ e => e)
theorem DiskAt.alloc {W : World} {B p S : Nat} {pv : Value} {d : DS} (hd : DiskAt W B p S pv d) (o : Obj) : DiskAt (W.alloc o) B p S pv d := hd.frame ((Only.refl (fun _ => False) W).alloc o) (fun _ _ e => e)
end Go.Proofs.YtlcglapcmdpkfaaGreat
