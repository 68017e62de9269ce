import Derived.Test.YtlcglapcmdpkfaaGreatQ2
import Derived.Test.YtlcglapcmdpkfaaGreatU1
namespace Go.Proofs.YtlcglapcmdpkfaaGreat
open Go.RowKit
set_option linter.unusedSimpArgs false
set_option linter.unusedVariables false
structure LdAt (w : World) (L p G n : Nat) (f : Nat → Bool) : Prop where
 c0 : w.cell? ⟨L, 0, none⟩ = some (.pointer (some ⟨p, 0, none⟩))
 c1 : w.cell? ⟨L, 1, none⟩ = some (.slice (some ⟨G, 0, none⟩) n n)
 fl : FBlk w G n f
 ne : L ≠ G
theorem LdAt.frame {w w' : World} {L p G n : Nat} {f : Nat → Bool} {bs : Nat → Prop} (h : LdAt w L p G n f) (ho : Only bs w w') (hL : ¬ bs L) (hG : ¬ bs G) : LdAt w' L p G n f :=
 ⟨ho.cell h.c0 hL, ho.cell h.c1 hL, h.fl.frame ho hG, h.ne⟩
def ldD (d : DS) (q id : Nat) : Option (List Nat) := match unp (pgN d q 4) with
 | none => none
 | some (i, D) => if i = id then some D else none
def ldR (d : DS) (f : Nat → Bool) (q id : Nat) : (Nat → Bool) × Option (List Nat) :=
 if d.n / 4 ≤ q ∨ f q = true then (f, none) else (fun j => f j || j == q, ldD d q id)
def LdIs (w : World) (L p G n : Nat) (r : (Nat → Bool) × Option (List Nat)) (e : Ending) (w' : World) : Prop :=
 LdAt w' L p G n r.1 ∧ Only (fun i => i = G) w w' ∧ match r.2 with
 | none => e = .returned (.tuple #[.slice none 0 0, .bool false])
 | some D => ∃ u, e = .returned (.tuple #[u, .bool true]) ∧ Fresh w' w.heap.size u D
set_option maxRecDepth 100000 in
set_option maxHeartbeats 2000000 in
theorem lread_any (L p G S B q id : Nat) (pv : Value) (d : DS) (f : Nat → Bool) (w : World) (h : DiskAt w B p S pv d) (hl : d.life ≠ 0) (hb : ByteD d) (hL : LdAt w L p G (d.n / 4) f) (hdG : ¬ diskB p S pv G) (hq : q < 18446744073709551616) (hid : id < 4294967296) :
  Calls Tryz.prog 115 #[.pointer (some ⟨L, 0, none⟩), .int .u64 q, .int .u32 id] w fun e w' => LdIs w L p G (d.n / 4) (ldR d f q id) e w' := by
 have n2 := h.n2
 obtain ⟨n, hn⟩ : ∃ n, n = d.n / 4 := ⟨_, rfl⟩
 have HLD : Hid (LdAt w L p G (d.n / 4) f) := hL
 rw [← hn] at hL
 have c0 := hL.c0
 have c1 := hL.c1
 have wn : IntKind.u64.wrap (n : Int) = (n : Int) := by rw [IntKind.wrap_u64]; omega
 have HR : Hid (ldR d f q id = if n ≤ q ∨ f q = true then (f, none) else (fun j => f j || j == q, ldD d q id)) := (by rw [hn]; rfl : _ = _)
 by_cases hle : n ≤ q
 ·have q1 : (n : Int) ≤ (q : Int) := by omega
  have HN : Hid (n = d.n / 4) := hn
  have HQ : Hid (n ≤ q) := hle
  clear hle hL h hn hb hl
  go_enter Tryz.func115, Tryz.ntmps115
  go_wp2
  go_ret2
  refine LdIs.eq_1 .. ▸ ?_
  rw [HR.out, if_pos (.inl HQ.out)]
  exact ⟨HLD.out, Only.refl _ _, rfl⟩
 have q1 : ¬ (n : Int) ≤ (q : Int) := by omega
 have q2 : (q : Int) < (n : Int) := by omega
 have q0 : (0 : Int) ≤ (q : Int) := by omega
 have cq := hL.fl.cell q (by omega)
 have fq := hL.fl.frozen q
 by_cases hf : f q = true
 ·rw [hf] at cq
  have HF : Hid (f q = true) := hf
  have HN : Hid (n = d.n / 4) := hn
  clear hle hL h hn hb hl hf
  go_enter Tryz.func115, Tryz.ntmps115
  go_wp2
  go_ret2
  refine LdIs.eq_1 .. ▸ ?_
  rw [HR.out, if_pos (.inr HF.out)]
  exact ⟨HLD.out, Only.refl _ _, rfl⟩
 have hf0 : f q = false := by simpa using hf
 rw [hf0] at cq
 have wq : IntKind.i64.wrap (q : Int) = (q : Int) := by rw [IntKind.wrap_i64]; omega
 have hR2 : ldR d f q id = (fun j => f j || j == q, ldD d q id) := by rw [HR.out, if_neg (by rintro (e | e); exact hle e; exact hf e)]
 have HR2 : Hid (ldR d f q id = (fun j => f j || j == q, ldD d q id)) := hR2
 obtain ⟨w1, hw1⟩ : ∃ w1, w1 = w.setCell ⟨G, q, none⟩ (.bool true) := ⟨_, rfl⟩
 have HW1 : Hid (w1 = w.setCell ⟨G, q, none⟩ (.bool true)) := hw1
 have o1 : Only (fun i => i = G) w w1 := by rw [hw1]; exact (Only.refl (fun i => i = G) w).setCell _ _ (fun _ => rfl)
 have HO1 : Hid (Only (fun i => i = G) w w1) := o1
 have hd1 := h.frame o1 (fun k hk e => hdG (e ▸ hk))
 have hl1 : LdAt w1 L p G (d.n / 4) (fun j => f j || j == q) := by
  refine ⟨o1.cell hL.c0 hL.ne, hn ▸ o1.cell hL.c1 hL.ne, ?_, hL.ne⟩
  rw [hw1, ← hn]
  exact hL.fl.set q
 have HL1 : Hid (LdAt w1 L p G (d.n / 4) (fun j => f j || j == q)) := hl1
 have d0 : w1.cell? ⟨L, 0, none⟩ = some (.pointer (some ⟨p, 0, none⟩)) := hl1.c0
 have HP : Hid (Calls Tryz.prog 129 #[.pointer (some ⟨p, 0, none⟩), .int .i64 q] w1 fun e w' => UnpIs (unp (pgN d q 4)) w1 e w') := pread_in p S B q pv d w1 hd1 (by omega) hl hb
 have HSZ : Hid (w1.heap.size = w.heap.size) := (by rw [hw1]; simp [World.setCell] : _ = _)
 have ne1 : ¬ L = G := hL.ne
 have ne2 : ¬ G = L := fun e => hL.ne e.symm
 clear h hl hb hL hn HR hle hf hf0 hR2 hd1 hl1 hw1 o1 HLD
 go_enter Tryz.func115, Tryz.ntmps115
 go_wp2_with fail
 rw [← HW1.out]
 refine (show Calls Tryz.prog 129 _ _ _ from HP.out).mono ?_
 intro e w2 hU
 clear HP
 cases hr : unp (pgN d q 4) with
 | none =>
   rw [hr] at hU
   obtain ⟨rfl, ho2⟩ := hU
   have HD : Hid (ldD d q id = none) := (by unfold ldD; rw [hr] : _ = _)
   have HE : Hid (LdAt w2 L p G (d.n / 4) (fun j => f j || j == q) ∧ Only (fun i => i = G) w w2) := ⟨HL1.out.frame ho2 (fun e => e) (fun e => e), HO1.out.trans ho2 (fun _ _ e => e.elim)⟩
   clear hr ho2
   go_wp2
   go_ret2
   refine LdIs.eq_1 .. ▸ ?_
   rw [HR2.out, HD.out]
   exact ⟨HE.out.1, HE.out.2, rfl⟩
 | some y =>
   obtain ⟨i, D⟩ := y
   rw [hr] at hU
   obtain ⟨u, rfl, hf2, ho2⟩ := hU
   have HE : Hid (LdAt w2 L p G (d.n / 4) (fun j => f j || j == q) ∧ Only (fun i => i = G) w w2) := ⟨HL1.out.frame ho2 (fun e => e) (fun e => e), HO1.out.trans ho2 (fun _ _ e => e.elim)⟩
   rw [HSZ.out] at hf2
   have HF2 : Hid (Fresh w2 w.heap.size u D) := hf2
   by_cases hi : i = id
   ·have i1 : ((i : Int) != (id : Int)) = false := by simp [hi]
    have HD : Hid (ldD d q id = some D) := (by unfold ldD; rw [hr]; exact if_pos hi : _ = _)
    clear hr ho2 hf2 hi
    go_wp2
    go_ret2
    refine LdIs.eq_1 .. ▸ ?_
    rw [HR2.out, HD.out]
    exact ⟨HE.out.1, HE.out.2, _, rfl, HF2.out⟩
   ·have i1 : ((i : Int) != (id : Int)) = true := by simp; omega
    have HD : Hid (ldD d q id = none) := (by unfold ldD; rw [hr]; exact if_neg hi : _ = _)
    clear hr ho2 hf2 hi
    go_wp2
    go_ret2
    refine LdIs.eq_1 .. ▸ ?_
    rw [HR2.out, HD.out]
    exact ⟨HE.out.1, HE.out.2, rfl⟩
end Go.Proofs.YtlcglapcmdpkfaaGreat
