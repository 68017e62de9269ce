import Derived.Test.YtlcglapcmdpkfaaGreatG16
namespace Go.Proofs.YtlcglapcmdpkfaaGreat
open Go.RowKit
set_option linter.unusedSimpArgs false
set_option linter.unusedVariables false
def RDead (w : World) (r : Nat) : Prop := w.cell? ⟨r, 6, none⟩ = some (.bool true) ∧ (∃ e : Nat, w.cell? ⟨r, 2, none⟩ = some (.int .u64 (e : Nat))) ∧ ∃ a n c, w.cell? ⟨r, 5, none⟩ = some (.slice a n c)
def RCmIs (E : Nat → Prop) (x : SS) (d : DS) (w : World) (B r q K : Nat) (rv nv : Value) (rs : List RW) (e : Ending) (w' : World) : Prop :=
 (freeN x x.size < needN x ∧ e = .returned (.int .i64 7) ∧ Only (fun _ => False) w w') ∨
 (needN x ≤ freeN x x.size ∧ (cmX x d).1 ≠ 0 ∧ e = .returned (.int .i64 3) ∧ RDead w' r ∧ ∃ rv' rs', MidE w (fun b => nv.ownBlock = some b ∨ b = r) B q K rv rs (cmX x d).2 w' rv' rs') ∨
 (needN x ≤ freeN x x.size ∧ (cmX x d).1 = 0 ∧ e = .returned (.int .i64 0) ∧ Und E w B r q K rv nv rs (cmX x d).2 x.next w')
theorem RsAt.bytes {w : World} {rk : Nat → Prop} {B r q : Nat} {tv kv nv : Value} {x : SS} {lk ln : List RPg} (h : RsAt w rk B r q tv kv nv x lk ln) : ∀ p ∈ x.now, ∀ z ∈ p.2.2, z < 256 := fun p hp z hz => by
 rw [← h.nowE] at hp
 obtain ⟨y, hy, rfl⟩ := List.mem_map.1 hp
 exact (h.now.dat y hy).1.2.2 z hz
theorem Und.back {E : Nat → Prop} {w w1 W : World} {B r q K : Nat} {rv nv : Value} {rs : List RW} {d : DS} {x : SS} (h : Und E w1 B r q K rv nv rs d x W) (ho : Only (fun _ => False) w w1) : Und E w B r q K rv nv rs d x W := by
 obtain ⟨rv', rs', tv, kv, lk, ln, h1, h2⟩ := h.all
 exact ⟨rv', rs', tv, kv, lk, ln, ⟨h1.ref, (ho.mono (fun _ _ e => e.elim)).trans h1.ho (fun _ _ e => e), fun b e => (h1.sub b e).imp id (fun e => by have := ho.size; omega)⟩, h2.frame (Only.refl (fun _ => False) W) (fun _ _ e => e.elim) (fun k hk e => e.imp id (fun e => ⟨e.1, Nat.lt_of_lt_of_le e.2 ho.size⟩))⟩
set_option maxRecDepth 100000 in
set_option maxHeartbeats 2000000 in
theorem rCommit_any {E : Nat → Prop} {w : World} {B r q K : Nat} {rv tv kv nv : Value} {rs : List RW} {x : SS} {d : DS} {lk ln : List RPg} (h : RsAt w (refE E w.heap.size q K rv rs) B r q tv kv nv x lk ln) (hd : RefAt w B q K rv d rs) (hB : B ≤ w.heap.size) (hb : ByteD d) (hg : Good d) (hp : d.pend.length ≤ 9000000000) (hsz : d.n / 4 = x.size) :
  Calls Tryz.prog 21 #[.pointer (some ⟨r, 0, none⟩)] w fun e w' => Hid (RCmIs E x d w B r q K rv nv rs e w') := by
 have HR : Hid (Calls Tryz.prog 60 _ _ _) := rroom_any h d.n hd.c0 hd.n2 hsz
 have c6 := h.c6
 have hfree := freeN_le x x.size
 have hsz2 := h.wf.size
 have hnd : needN x ≤ 800 := by
  have h1 := putN_le x
  have h2 := h.n728
  have h3 := tab_small h.wf h2 (plA_small h.wf)
  unfold needN needA tabN
  omega
 have HC : Hid (∀ (w1 : World) (u : Value), Only (fun _ => False) w w1 → FreshI w1 w.heap.size u ((freeL x x.size).take (needN x)) → needN x ≤ freeN x x.size → Calls Tryz.prog 61 #[.pointer (some ⟨r, 0, none⟩), u] w1 fun e w' => Hid (RcIs E x d w1 B r q K rv nv rs e w')) := fun w1 u ho hu hfit =>
  rcommit_core (E := E) (h.frame ho (fun _ _ e => e.elim) (fun k hk e => e.imp id (fun e => ⟨e.1, hk⟩))) (hd.frame ho (fun _ _ e => e)) (by have := ho.size; omega) hb hg hp hsz hfit h.bytes u hu.ints (fun b e => by
   have h9 := (hu.1.lt b e).1
   exact ⟨fun e' => by have := (hd.lt b e').2; omega, fun e' => by have := (h.now.lt b e').2; omega, fun e' => by have := h.lt; omega⟩) ⟨_, hu⟩
 obtain ⟨F, hF⟩ : ∃ F, F = freeN x x.size := ⟨_, rfl⟩
 obtain ⟨nd, hnde⟩ : ∃ nd, nd = needN x := ⟨_, rfl⟩
 have HE : Hid (F = freeN x x.size ∧ nd = needN x) := ⟨hF, hnde⟩
 rw [← hF] at hfree
 rw [← hnde] at hnd
 clear h hd hb hg hp hsz hF hnde
 go_enter Tryz.func21, Tryz.ntmps21
 go_wp2_with fail
 refine (show Calls Tryz.prog 60 _ _ _ from HR.out).mono ?_
 rintro e w1 H1
 obtain ⟨u, rfl, ho1, hu1⟩ := H1.out
 rw [← HE.out.1, ← HE.out.2]
 rw [← HE.out.1, ← HE.out.2] at hu1
 have HO1 : Hid (Only (fun _ => False) w w1) := ho1
 clear HR H1
 by_cases hlt : F < nd
 ·have HQ : Hid (RCmIs E x d w B r q K rv nv rs (.returned (.int .i64 7)) w1) := .inl ⟨by rw [← HE.out.1, ← HE.out.2]; exact hlt, rfl, HO1.out⟩
  have i1 : (F : Int) < (nd : Int) := by omega
  clear hu1 ho1
  go_wp2
  go_ret
  exact HQ
 ·have hfit : nd ≤ F := by omega
  have i1 : ¬ (F : Int) < (nd : Int) := by omega
  have hu := hu1 hfit
  obtain ⟨au, cu, hue, _⟩ := hu.form
  have hll : ((freeL x x.size).take nd).length = nd := by rw [List.length_take, freeL_len, ← HE.out.1]; omega
  rw [hll] at hue
  subst hue
  have HCC : Hid (Calls Tryz.prog 61 _ _ _) := HC.out w1 _ ho1 (by rw [← HE.out.2]; exact hu) (by rw [← HE.out.1, ← HE.out.2]; exact hfit)
  have HFT : Hid (needN x ≤ freeN x x.size) := by show needN x ≤ _; rw [← HE.out.1, ← HE.out.2]; exact hfit
  clear hu1 ho1 hu HC hll
  go_wp2_with fail
  refine (show Calls Tryz.prog 61 _ _ _ from HCC.out).mono ?_
  rintro e w2 H2
  clear HCC
  rcases H2.out with ⟨h0, rfl, w3, x', ho3, hU⟩ | ⟨h0, rfl, w3, ho3, hU⟩
  ·have hUw := hU.back (HO1.out.trans ho3 (fun _ _ e => e))
   obtain ⟨rv', rs', tv', kv', lk', ln', h1', h2'⟩ := hUw.all
   have z6 := h2'.c6
   have f6 := h2'.fz 6 (by omega)
   obtain ⟨an, cn, hnv⟩ := h2'.nowForm
   have oo : Only (fun b => b = r) w2 (w2.setCell ⟨r, 6, none⟩ (.bool true)) := (Only.refl (fun b => b = r) w2).setCell _ _ (fun _ => rfl)
   have HQ : Hid (RCmIs E x d w B r q K rv nv rs (.returned (.int .i64 3)) (w2.setCell ⟨r, 6, none⟩ (.bool true))) := by
    refine .inr (.inl ⟨HFT.out, h0, rfl, ⟨World.cell?_setCell_same _ _ _ z6, ⟨x'.epoch, ?_⟩, an, x'.now.length, cn, ?_⟩, rv', rs', h1'.set oo (fun b _ e => .inr e) (fun b e e' => h2'.k1 (.inl (e' ▸ e)))⟩)
    ·rw [World.cell?_setCell_other _ _ _ _ (by simp)]; exact h2'.c2
    ·rw [World.cell?_setCell_other _ _ _ _ (by simp), ← hnv]; exact h2'.c5
   clear hU hUw h1' h2' hnv oo H2 h0 ho3
   go_wp2
   go_ret
   exact HQ
  ·have HQ : Hid (RCmIs E x d w B r q K rv nv rs (.returned (.int .i64 0)) w2) := .inr (.inr ⟨HFT.out, h0, rfl, hU.back (HO1.out.trans ho3 (fun _ _ e => e))⟩)
   clear hU H2 h0 ho3
   go_wp2
   go_ret
   exact HQ
theorem rCommit_dead (r : Nat) (w : World) (h : w.cell? ⟨r, 6, none⟩ = some (.bool true)) :
  Calls Tryz.prog 21 #[.pointer (some ⟨r, 0, none⟩)] w fun e w' => e = .returned (.int .i64 3) ∧ w' = w := by
 go_enter Tryz.func21, Tryz.ntmps21
 go_wp2
 go_ret
 exact ⟨rfl, rfl⟩
end Go.Proofs.YtlcglapcmdpkfaaGreat
