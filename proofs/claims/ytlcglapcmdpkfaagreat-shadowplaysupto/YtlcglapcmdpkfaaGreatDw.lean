import Derived.Test.YtlcglapcmdpkfaaGreatD6
import Derived.Test.YtlcglapcmdpkfaaGreatRead
namespace Go.Proofs.YtlcglapcmdpkfaaGreat
open Go.RowKit
set_option linter.unusedSimpArgs false
set_option linter.unusedVariables false
theorem info4 : (Tryz.prog.info? 4).map (fun i => (i.zero, i.size, i.bytes)) = some (some (.bool false), 1, 1) := by kernel_rfl
def allL (n : Nat) (sec : Nat → Nat → Int) : List Value := (List.range (n * 32)).map fun k => .int .u8 (sec (k / 32) (k % 32))
theorem allL_get (n : Nat) (sec : Nat → Nat → Int) (i j : Nat) (hi : i < n) (hj : j < 32) : (allL n sec)[i * 32 + j]? = some (.int .u8 (sec i j)) := by
 have h1 : i * 32 + j < n * 32 := by omega
 have h2 : (i * 32 + j) / 32 = i := by omega
 have h3 : (i * 32 + j) % 32 = j := by omega
 simp [allL, h1, h2, h3]
theorem ownsRow_base {w : World} {B B' e size n : Nat} {v : Value} {xs : List Value} (h : w.ownsRow B e size v n xs) (hb : B' ≤ B) : w.ownsRow B' e size v n xs := by
 refine ⟨h.1, h.2.imp id ?_⟩
 rintro ⟨g, cap, cur, h1, h2, rest⟩
 exact ⟨g, cap, cur, h1, by omega, rest⟩
set_option maxHeartbeats 400000 in
theorem live_any (p S B : Nat) (pv : Value) (d : DS) (n : Int) (w : World) (h : DiskAt w B p S pv d) (h1 : -1 ≤ n) (h2 : n ≤ 9223372036854775807) :
  Calls Tryz.prog 38 #[.pointer (some ⟨p, 0, none⟩), .int .i64 n] w fun e w' => e = .returned (.int .i64 0) ∧ DiskAt w' B p S pv { d with life := n } ∧ Only (fun i => i = p) w w' := by
 refine (live_ok p _ n w h1 h.c2 h.f2).mono ?_
 rintro e w' ⟨rfl, rfl⟩
 have oP : Only (fun i => i = p) w (w.setCell ⟨p, 2, none⟩ (.int .i64 n)) := (Only.refl (fun i => i = p) w).setCell _ _ (fun _ => rfl)
 have hSp : S ≠ p := Ne.symm h.pS
 obtain ⟨c, hc⟩ := h.c0
 refine ⟨rfl, ?_, oP⟩
 exact { pB := h.pB, SB := h.SB, pS := h.pS
         c0 := ⟨c, by rw [World.cell?_setCell_other _ _ _ _ (by simp)]; exact hc⟩
         c1 := by rw [World.cell?_setCell_other _ _ _ _ (by simp)]; exact h.c1
         c2 := World.cell?_setCell_same _ _ _ h.c2
         f1 := by simpa using h.f1
         f2 := by simpa using h.f2
         secs := fun i hi => ⟨oP.range (h.secs i hi).1 hSp, oP.there (h.secs i hi).2 hSp⟩
         own := oP.owns h.own (fun k hk e => h.hp (by rw [hk, e]))
         hp := h.hp, hS := h.hS, n1 := h.n1, n2 := h.n2, at_ := h.at_, l1 := h1, l2 := h2 }
theorem barred {W W' : World} {B p S : Nat} {pv : Value} {d : DS} (h : DiskAt W B p S pv d) (l : Int) (hl1 : -1 ≤ l) (hl2 : l ≤ 9223372036854775807) (oP : Only (fun i => i = p) W W') (e0 : ∀ v, W.cell? ⟨p, 0, none⟩ = some v → W'.cell? ⟨p, 0, none⟩ = some v)
  (e1 : W'.cell? ⟨p, 1, none⟩ = some (.slice none 0 0)) (e2 : W'.cell? ⟨p, 2, none⟩ = some (.int .i64 l)) (f : ∀ a, W'.frozen? a = W.frozen? a) : DiskAt W' B p S (.slice none 0 0) { d with pend := [], life := l } := by
 have hSp : S ≠ p := Ne.symm h.pS
 obtain ⟨c, hc⟩ := h.c0
 exact { pB := h.pB, SB := h.SB, pS := h.pS
         c0 := ⟨c, e0 _ hc⟩
         c1 := e1
         c2 := e2
         f1 := (f _).trans h.f1
         f2 := (f _).trans h.f2
         secs := fun i hi => ⟨oP.range (h.secs i hi).1 hSp, oP.there (h.secs i hi).2 hSp⟩
         own := World.ownsRow_nil _ _ _ _
         hp := by simp [Value.ownBlock]
         hS := by simp [Value.ownBlock]
         n1 := h.n1, n2 := h.n2
         at_ := fun x hx => by cases hx
         l1 := hl1, l2 := hl2 }
theorem barrier_any (p S B : Nat) (pv : Value) (d : DS) (w : World) (h : DiskAt w B p S pv d) (hl : d.life ≠ 0) :
  Calls Tryz.prog 65 #[.pointer (some ⟨p, 0, none⟩)] w fun e w' => e = .returned (.int .i64 0) ∧ DiskAt w' B p S (.slice none 0 0) { d with pend := [], life := aged d.life } ∧ Only (fun i => i = p) w w' := by
 have h1 := h.l1
 have h2 := h.l2
 by_cases e : d.life = -1
 ·refine (barrier_end p _ w h.c1 h.f1 (by rw [← e]; exact h.c2)).mono ?_
  rintro e' w' ⟨rfl, rfl⟩
  have oP : Only (fun i => i = p) w (w.setCell ⟨p, 1, none⟩ (.slice none 0 0)) := (Only.refl (fun i => i = p) w).setCell _ _ (fun _ => rfl)
  refine ⟨rfl, barred h _ (by simp [aged, e]) (by simp [aged, e]) oP (fun v hv => by rw [World.cell?_setCell_other _ _ _ _ (by simp)]; exact hv) (World.cell?_setCell_same _ _ _ h.c1) ?_ (fun a => by simp), oP⟩
  rw [World.cell?_setCell_other _ _ _ _ (by simp), h.c2, e]; rfl
 ·refine (barrier_less p _ d.life w h.c1 h.f1 h.c2 h.f2 (by omega) h2).mono ?_
  rintro e' w' ⟨rfl, rfl⟩
  have oP : Only (fun i => i = p) w ((w.setCell ⟨p, 1, none⟩ (.slice none 0 0)).setCell ⟨p, 2, none⟩ (.int .i64 (d.life - 1))) := ((Only.refl (fun i => i = p) w).setCell _ _ (fun _ => rfl)).setCell _ _ (fun _ => rfl)
  refine ⟨rfl, barred h _ (by simp only [aged]; split <;> omega) (by simp only [aged]; split <;> omega) oP (fun v hv => by rw [World.cell?_setCell_other _ _ _ _ (by simp), World.cell?_setCell_other _ _ _ _ (by simp)]; exact hv) ?_ ?_ (fun a => by simp), oP⟩
  ·rw [World.cell?_setCell_other _ _ _ _ (by simp), World.cell?_setCell_same _ _ _ h.c1]
  ·rw [World.cell?_setCell_same _ _ _ ((World.cell?_setCell_other _ _ _ _ (by simp)).trans h.c2)]
   simp [aged, e]
def DS.write (d : DS) (k : Int) (f : Nat → Int) (m : Nat) : Int × DS :=
 if m ≠ 32 then (2, d) else if d.life = 0 then (3, d) else if k < 0 ∨ (d.n : Int) ≤ k then (4, d)
 else (0, { d with sec := upd d.sec k.toNat f, pend := d.pend ++ [⟨k.toNat, d.sec k.toNat, f⟩], life := aged d.life })
theorem write_all (p S m c B : Nat) (a : Option Addr) (pv : Value) (d : DS) (k : Int) (f : Nat → Int) (w : World) (h : DiskAt w B p S pv d) (hr : RowAt w (.slice a m c) m 1 (fun j => .int .u8 (f j))) (hB : B ≤ w.heap.size) (hby : (d.pend.length + 1) * 72 ≤ 140737488355328) (hm : m ≤ 140737488351232) :
  Calls Tryz.prog 40 #[.pointer (some ⟨p, 0, none⟩), .int .i64 k, .slice a m c] w fun e w' => e = .returned (.int .i64 (d.write k f m).1) ∧ ∃ pv', DiskAt w' B p S pv' (d.write k f m).2 ∧ Only (diskB p S pv) w w' ∧ (∀ b, pv'.ownBlock = some b → pv.ownBlock = some b ∨ w.heap.size ≤ b) := by
 have same : ∀ (x : Int) (e : Ending) (w' : World), d.write k f m = (x, d) → e = .returned (.int .i64 x) ∧ w' = w → e = .returned (.int .i64 (d.write k f m).1) ∧ ∃ pv', DiskAt w' B p S pv' (d.write k f m).2 ∧ Only (diskB p S pv) w w' ∧ (∀ b, pv'.ownBlock = some b → pv.ownBlock = some b ∨ w.heap.size ≤ b) := by
  rintro x e w' hw ⟨rfl, rfl⟩
  rw [hw]
  exact ⟨rfl, pv, h, Only.refl _ _, fun b hb => .inl hb⟩
 obtain ⟨c0, hc0⟩ := h.c0
 by_cases e1 : m = 32
 ·subst e1
  by_cases e2 : d.life = 0
  ·refine (write_dead p c a k w (by rw [← e2]; exact h.c2)).mono fun e w' hh => same 3 e w' (by simp [DS.write, e2]) hh
  ·by_cases e3 : k < 0 ∨ (d.n : Int) ≤ k
   ·refine (write_out p S d.n c0 c a d.life k w hc0 h.c2 (by simpa using e2) e3).mono fun e w' hh => same 4 e w' (by simp [DS.write, e2, e3]) hh
   ·obtain ⟨g, o, c', hv, hcell, hg⟩ := hr.at (by omega)
    simp only [Value.slice.injEq] at hv
    obtain ⟨rfl, _, rfl⟩ := hv
    have hk : k = (k.toNat : Int) := by omega
    have hrange : w.rangeAt g o (secL f) := fun j v hv => by
     have hj : j < 32 := by have := (List.getElem?_eq_some_iff.1 hv).1; rwa [secL_length] at this
     rw [secL_get _ _ hj] at hv
     rw [hcell j (by omega)]; exact hv
    have hwr : d.write k f 32 = (0, { d with sec := upd d.sec k.toNat f, pend := d.pend ++ [⟨k.toNat, d.sec k.toNat, f⟩], life := aged d.life }) := by simp [DS.write, e2, e3]
    rw [hwr]
    have := write_ok p S k.toNat g o c B pv d f w h e2 (by omega) hrange hB hby
    rw [← hk] at this
    exact this
 ·refine (write_len _ k a m c w (by simp; omega)).mono fun e w' hh => same 2 e w' (by simp [DS.write, e1]) hh
end Go.Proofs.YtlcglapcmdpkfaaGreat
