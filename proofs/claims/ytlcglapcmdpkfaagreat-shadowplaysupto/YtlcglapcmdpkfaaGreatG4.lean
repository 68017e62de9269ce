import Derived.Test.YtlcglapcmdpkfaaGreatG3
import Derived.Test.YtlcglapcmdpkfaaGreatM7
namespace Go.Proofs.YtlcglapcmdpkfaaGreat
open Go.RowKit
set_option linter.unusedSimpArgs false
set_option linter.unusedVariables false
theorem PgsAt.less {w : World} {B B' : Nat} {av : Nat → Prop} {nv : Value} {l : List RPg} (h : PgsAt w B' av nv l) (hB : B ≤ B') : PgsAt w B av nv l := by
 refine ⟨⟨h.own.1, ?_⟩, h.dat⟩
 rcases h.own.2 with e | ⟨g, cap, cur, hv, hb, rest⟩
 ·exact .inl e
 ·exact .inr ⟨g, cap, cur, hv, by omega, rest⟩
theorem PgsAt.av {w : World} {B : Nat} {av av' : Nat → Prop} {nv : Value} {l : List RPg} (h : PgsAt w B av nv l) (ha : ∀ k, k < w.heap.size → av' k → av k) : PgsAt w B av' nv l :=
 ⟨h.own, fun y hy => ⟨(h.dat y hy).1, fun b e => ⟨((h.dat y hy).2 b e).1, fun e' => ((h.dat y hy).2 b e).2 (ha b ((h.dat y hy).2 b e).1 e')⟩⟩⟩
section
variable {w : World} {rk : Nat → Prop} {B r q : Nat} {tv kv nv : Value} {x : SS} {lk ln : List RPg}
theorem RsAt.setNow {w1 : World} (h : RsAt w rk B r q tv kv nv x lk ln) (hrk : ∀ k, rk k → k < w.heap.size) (ho : Only (fun b => nv.ownBlock = some b) w w1) (nv' : Value) (ln' : List RPg) (l' : Pgs)
  (hp : PgsAt w1 B (fun k => (k = r ∨ rk k) ∨ nv'.ownBlock = some k) nv' ln') (hnb : ∀ b, nv'.ownBlock = some b → nv.ownBlock = some b ∨ w.heap.size ≤ b)
  (he : ln'.map RPg.p = l') (hr : Rise l') (hw : ∀ p ∈ l', (0 ≤ p.1 ∧ p.1 < 728) ∧ (p.2.1 = 0 ∨ 2 ≤ p.2.1 ∧ p.2.1 < x.size) ∧ p.2.2.length ≤ 116) :
  RsAt (w1.setCell ⟨r, 5, none⟩ nv') rk B r q tv kv nv' { x with now := l' } lk ln' ∧ Only (fun b => nv.ownBlock = some b ∨ b = r) w (w1.setCell ⟨r, 5, none⟩ nv') := by
 have hlt := h.lt
 have oo : Only (fun b => nv.ownBlock = some b ∨ b = r) w (w1.setCell ⟨r, 5, none⟩ nv') := (ho.mono (fun _ _ e => .inl e)).setCell _ _ (fun _ => .inr rfl)
 have nr : ¬ nv.ownBlock = some r := fun e => (h.k2 r e).1 rfl
 have nr' : ∀ b, nv'.ownBlock = some b → b ≠ r ∧ ¬ rk b := fun b e => by
  rcases hnb b e with e | e
  ·exact h.k2 b e
  ·exact ⟨by omega, fun e' => by have := hrk b e'; omega⟩
 have ha : ∀ k, k < w.heap.size → muR rk r nv' k → muR rk r nv k := by
  rintro k hk (e | e | e)
  ·exact .inl e
  ·rcases hnb k e with e | e
   ·exact .inr (.inl e)
   ·omega
  ·exact .inr (.inr e)
 have hb : ∀ k, k < w.heap.size → (nv.ownBlock = some k ∨ k = r) → muR rk r nv k := by
  rintro k _ (e | e)
  ·exact .inr (.inl e)
  ·exact .inl e
 have hc1 : w1.rangeAt r 0 (rsL q x tv kv nv false) := ho.range h.cells nr
 have ht1 : w1.there r 0 7 := ho.there h.there nr
 refine ⟨{ cells := ?_, there := there_set ht1 (hc1 5 _ rfl) nv', rB := h.rB, k1 := h.k1, k2 := nr'
           tabs := h.tabs.keep oo (fun b e e' => (h.tabsB b e).2 (hb b (h.tabsB b e).1 e'))
           tabsB := fun b e => ⟨Nat.lt_of_lt_of_le (h.tabsB b e).1 oo.size, fun e' => (h.tabsB b e).2 (ha b (h.tabsB b e).1 e')⟩
           keptB := fun b e e' => h.keptB b e (ha b (h.kept.lt b e).2 e')
           kept := h.kept.frame oo (fun b e e' => h.keptB b e (hb b (h.kept.lt b e).2 e')) hb ha
           now := ?_
           comE := h.comE, nowE := he, comR := h.comR, nowR := hr, wf := ⟨h.wf.size, h.wf.epoch, h.wf.sector, h.wf.tabs, h.wf.com, hw⟩ }, oo⟩
 ·have := range_set hc1 (j := 5) (by simp [rsL]) nv'
  exact this
 ·refine (hp.frame ((Only.refl (fun b => b = r) w1).setCell ⟨r, 5, none⟩ nv' (fun _ => rfl)) (fun b e e' => (nr' b e).1 e') (fun k _ e => .inl (.inl e)) (fun k _ e => ?_))
  rcases e with e | e | e
  ·exact .inl (.inl e)
  ·exact .inr e
  ·exact .inl (.inr e)
def RsIs (w : World) (rk : Nat → Prop) (B r q : Nat) (nv : Value) (x' : SS) (w' : World) : Prop :=
 ∃ tv kv nv' lk ln, RsAt w' rk B r q tv kv nv' x' lk ln ∧ Only (fun b => nv.ownBlock = some b ∨ b = r) w w' ∧ (∀ b, nv'.ownBlock = some b → nv.ownBlock = some b ∨ w.heap.size ≤ b)
theorem pgs_len {l : Pgs} (h : Rise l) (hw : ∀ p ∈ l, 0 ≤ p.1 ∧ p.1 < 728) : l.length ≤ 728 := by
 have hnd : (l.map fun p => p.1.toNat).Nodup := by
  rw [List.Nodup, List.pairwise_map]
  refine List.Pairwise.imp_of_mem ?_ h
  intro a b ha hb hab e
  have := (hw a ha).1
  have := (hw b hb).1
  omega
 have hsub : (l.map fun p => p.1.toNat) ⊆ List.range 728 := fun z hz => by
  obtain ⟨p, hp, rfl⟩ := List.mem_map.1 hz
  have := hw p hp
  exact List.mem_range.2 (by omega)
 have := List.Nodup.length_le_of_subset hnd hsub
 simpa using this
theorem RsAt.nowS (h : RsAt w rk B r q tv kv nv x lk ln) : ln.length ≤ 728 := by rw [h.nowLen]; exact pgs_len h.nowR (fun p hp => (h.wf.now p hp).1)
theorem RsAt.comS (h : RsAt w rk B r q tv kv nv x lk ln) : lk.length ≤ 728 := by rw [h.comLen]; exact pgs_len h.comR (fun p hp => (h.wf.com p hp).1)
set_option maxRecDepth 100000 in
set_option maxHeartbeats 1000000 in
theorem rroll_any (h : RsAt w rk B r q tv kv nv x lk ln) (hrk : ∀ k, rk k → k < w.heap.size) (hB : B ≤ w.heap.size) :
  Calls Tryz.prog 24 #[.pointer (some ⟨r, 0, none⟩)] w fun e w' => e = .returned (.int .i64 0) ∧ Hid (RsIs w rk B r q nv { x with now := x.com } w') := by
 have HB := rbad_any r 0 w h.c6
 rw [show badE 0 = 0 from rfl] at HB
 have HC : Hid (Calls Tryz.prog 62 _ _ _) := copied_any kv lk B _ w h.kept (by have := h.comS; omega)
 have HH : Hid (RsAt w rk B r q tv kv nv x lk ln) := h
 have c4 := h.c4
 have c5 := h.c5
 have f5 := h.fz 5 (by omega)
 obtain ⟨a, c, hkv, _⟩ := h.kept.form
 have hlt := h.lt
 have HRK : Hid (∀ k, rk k → k < w.heap.size) := hrk
 obtain ⟨n, hn⟩ : ∃ n, n = lk.length := ⟨_, rfl⟩
 rw [← hn] at hkv HC
 have HKV : Hid (kv = .slice a n c) := hkv
 rw [hkv] at c4 HC
 clear h hrk hkv hn
 go_enter Tryz.func24, Tryz.ntmps24
 go_wp2_with fail
 refine HB.mono ?_
 rintro e w1 ⟨rfl, rfl⟩
 clear HB
 go_wp2_with fail
 refine (show Calls Tryz.prog 62 _ _ _ from HC.out).mono ?_
 rintro e w2 ⟨a2, c2, ys, rfl, HY⟩
 have y5 := HY.out.2.2.cell c5 (fun e => e)
 have yf : w2.frozen? ⟨r, 5, none⟩ = false := (HY.out.2.2.frozen hlt (fun e => e)).trans f5
 have HF : Hid (RsIs w1 rk B r q nv { x with now := x.com } (w2.setCell ⟨r, 5, none⟩ (.slice a2 n c2))) := by
  obtain ⟨h1, h2, h3⟩ := HY.out
  have hx := HH.out
  obtain ⟨r1, r2⟩ := hx.setNow HRK.out (h3.mono (fun _ _ e => e.elim)) (.slice a2 n c2) ys x.com
   ((h1.less hB).av (fun k hk e => by
     rcases e with (e | e) | e
     ·exact .inl (by rw [e]; exact hlt)
     ·exact .inl (HRK.out k e)
     ·exact .inr e))
   (fun b e => .inr (h1.lt b e).1) (by rw [h2, hx.comE]) hx.comR (fun p hp => ⟨(hx.wf.com p hp).1, .inr (hx.wf.com p hp).2.1, (hx.wf.com p hp).2.2⟩)
  exact ⟨_, _, _, _, _, r1, r2, fun b e => .inr (h1.lt b e).1⟩
 clear HC HH
 go_wp2
 go_ret
 exact ⟨rfl, HF⟩
theorem rroll_dead (r : Nat) (w : World) (h : w.cell? ⟨r, 6, none⟩ = some (.bool true)) :
  Calls Tryz.prog 24 #[.pointer (some ⟨r, 0, none⟩)] w fun e w' => e = .returned (.int .i64 3) ∧ w' = w := by
 have HB := rbad_dead r 0 w h
 go_enter Tryz.func24, Tryz.ntmps24
 go_wp2_with fail
 refine HB.mono ?_
 rintro e w1 ⟨rfl, rfl⟩
 go_wp2
 go_ret
 exact ⟨rfl, rfl⟩
end
end Go.Proofs.YtlcglapcmdpkfaaGreat
