import Derived.Test.YtlcglapcmdpkfaaGreatG22
import Derived.Test.YtlcglapcmdpkfaaGreatG3
import Derived.Test.YtlcglapcmdpkfaaGreatQ9
namespace Go.Proofs.YtlcglapcmdpkfaaGreat
open Go.RowKit Go.Maps
set_option linter.unusedSimpArgs false
set_option linter.unusedVariables false
def lpC (R : Nat) (tv tav : Value) : Nat → Prop := fun k => k < R + 2 ∨ tv.ownBlock = some k ∨ tav.ownBlock = some k
structure LpM (w wr : World) (q R N r E : Nat) (f : Nat → Bool) (at_ tab : List Nat) (tv tav kv : Value) (lk : List RPg) : Prop where
 on : Only (fun _ => False) w wr
 wR : w.heap.size ≤ R
 sz : R + 2 ≤ wr.heap.size
 bx : wr.rangeAt R 0 (ldL q r E tv kv)
 bt : wr.there R 0 7
 fl : FBlk wr (R + 1) N f
 tb : FreshI wr (R + 2) tv at_
 ta : Fresh wr (R + 2) tav tab
 ks : PgsAt wr (R + 2) (fun k => lpC R tv tav k ∨ kv.ownBlock = some k) kv lk
 n1 : ∀ b, tv.ownBlock = some b → kv.ownBlock ≠ some b
 n2 : ∀ b, tav.ownBlock = some b → kv.ownBlock ≠ some b
section
variable {w wr wr' : World} {q R N r E : Nat} {f f' : Nat → Bool} {at_ tab : List Nat} {tv tav kv : Value} {lk : List RPg}
theorem LtM.lp (h : LtM w wr q R N r E f at_ tab tv tav) : LpM w wr q R N r E f at_ tab tv tav (.slice none 0 0) [] :=
 { on := h.on, wR := h.wR, sz := h.sz, bx := h.bx, bt := h.bt, fl := h.fl, tb := h.tb, ta := h.ta, ks := PgsAt.nil _ _ _
   n1 := fun b _ e => by simp [Value.ownBlock] at e, n2 := fun b _ e => by simp [Value.ownBlock] at e }
theorem LpM.still (h : LpM w wr q R N r E f at_ tab tv tav kv lk) (ho : Only (fun _ => False) wr wr') : LpM w wr' q R N r E f at_ tab tv tav kv lk :=
 { on := h.on.trans ho (fun _ _ e => e), wR := h.wR, sz := Nat.le_trans h.sz ho.size, bx := ho.range h.bx (fun e => e), bt := ho.there h.bt (fun e => e)
   fl := h.fl.frame ho (fun e => e), tb := h.tb.frame ho, ta := ⟨ho.owns h.ta.1 (fun _ _ e => e), h.ta.2⟩
   ks := h.ks.frame ho (fun _ _ e => e) (fun _ _ e => e.elim) (fun _ _ e => e), n1 := h.n1, n2 := h.n2 }
theorem LpM.took (h : LpM w wr q R N r E f at_ tab tv tav kv lk) (ho : Only (fun b => b = R + 1) wr wr') (hf : FBlk wr' (R + 1) N f') : LpM w wr' q R N r E f' at_ tab tv tav kv lk :=
 { on := h.on.trans ho (fun k hk e => by have := h.wR; omega), wR := h.wR, sz := Nat.le_trans h.sz ho.size, bx := ho.range h.bx (fun e => by omega), bt := ho.there h.bt (fun e => by omega)
   fl := hf, tb := ⟨ho.owns h.tb.1 (fun b e e' => by have := (h.tb.1.lt b e).1; omega), h.tb.2⟩, ta := ⟨ho.owns h.ta.1 (fun b e e' => by have := (h.ta.1.lt b e).1; omega), h.ta.2⟩
   ks := h.ks.frame ho (fun b e e' => by have := (h.ks.lt b e).1; omega) (fun k _ e => .inl (.inl (by omega))) (fun _ _ e => e), n1 := h.n1, n2 := h.n2 }
theorem LpM.page (h : LpM w wr q R N r E f at_ tab tv tav kv lk) (i P : Nat) {v : Value} {D : List Nat} (hv : BytesAt wr v D)
  (hd : ∀ b, v.ownBlock = some b → b < wr.heap.size ∧ ¬ (lpC R tv tav b ∨ kv.ownBlock = some b)) (hl : lk.length + 1 ≤ 1000000) :
  ∃ a cap w3, (∀ ty, (Builtin.append_ #[95, 95] ty #[kv, .slice (some ⟨wr.heap.size, 0, none⟩) 1 1]).run Tryz.prog (wr.alloc (.cells #[.int .i64 (i : Nat), .int .i64 (P : Nat), v] 103)) = .ok (.slice a (lk.length + 1) cap) w3) ∧
    (∀ j u, j < 7 → (ldL q r E tv kv)[j]? = some u → w3.cell? ⟨R, j, none⟩ = some u ∧ w3.frozen? ⟨R, j, none⟩ = false) ∧
    LpM w (w3.setCell ⟨R, 4, none⟩ (.slice a (lk.length + 1) cap)) q R N r E f at_ tab tv tav (.slice a (lk.length + 1) cap) (lk ++ [⟨(i : Int), P, D, v⟩]) := by
 obtain ⟨wL, hwL⟩ : ∃ z, z = wr.alloc (.cells #[.int .i64 (i : Nat), .int .i64 (P : Nat), v] 103) := ⟨_, rfl⟩
 have oL : Only (fun _ => False) wr wL := by rw [hwL]; exact (Only.refl _ wr).alloc _
 have hL := h.still oL
 have sL := oL.size
 have hsz := h.sz
 obtain ⟨a3, c3, w3, hr3, hp3, ho3, hb3⟩ := hL.ks.app (C := lpC R tv tav)
  (fun j hj => by
   rcases hj with e | e | e
   ·have := hL.sz; omega
   ·exact (hL.tb.1.lt j e).2
   ·exact (hL.ta.1.lt j e).2)
  hL.sz (.slice (some ⟨wr.heap.size, 0, none⟩) 1 1) [⟨(i : Int), P, D, v⟩]
  (.inr ⟨_, 1, rfl, by rw [hwL]; exact World.news_of_block (heap_alloc_new wr _)⟩)
  (fun y hy => by
   obtain rfl : y = ⟨(i : Int), P, D, v⟩ := by simpa using hy
   exact ⟨hv.keep oL (fun _ _ e => e), fun b hb => ⟨by have := (hd b hb).1; omega, (hd b hb).2⟩⟩)
  (by simp only [List.length_cons, List.length_nil]; omega)
 simp only [List.length_cons, List.length_nil, Nat.zero_add] at hr3 hp3 hb3
 have nR : ¬ kv.ownBlock = some R := fun e => by have := (h.ks.lt R e).1; omega
 have b3 := ho3.range hL.bx nR
 have t3 := ho3.there hL.bt nR
 have s3 := ho3.size
 have os : Only (fun b => b = R) w3 (w3.setCell ⟨R, 4, none⟩ (.slice a3 (lk.length + 1) c3)) := (Only.refl _ w3).setCell ⟨R, 4, none⟩ _ (fun _ => rfl)
 have on3 : Only (fun _ => False) w w3 := hL.on.trans ho3 (fun k hk e => by have := (h.ks.lt k e).1; have := h.wR; omega)
 refine ⟨a3, c3, w3, fun ty => by rw [← hwL]; exact hr3 ty, fun j u hj hu => ?_, ?_⟩
 ·have h1 := b3 j u hu
  rw [Nat.zero_add] at h1
  have h2 := (t3 j hj).2
  rw [Nat.zero_add] at h2
  exact ⟨h1, h2⟩
 ·exact
   { on := on3.trans os (fun k hk e => by have := h.wR; omega), wR := h.wR, sz := by have := os.size; omega
     bx := range_set b3 (j := 4) (by simp [ldL]) _
     bt := there_set t3 (b3 4 _ rfl) _
     fl := (hL.fl.frame ho3 (fun e => by have := (h.ks.lt _ e).1; omega)).frame os (fun e => by omega)
     tb := ⟨os.owns (ho3.owns hL.tb.1 (fun b e e' => h.n1 b e e')) (fun b e e' => by have := (hL.tb.1.lt b e).1; omega), hL.tb.2⟩
     ta := ⟨os.owns (ho3.owns hL.ta.1 (fun b e e' => h.n2 b e e')) (fun b e e' => by have := (hL.ta.1.lt b e).1; omega), hL.ta.2⟩
     ks := hp3.frame os (fun b e e' => by have := (hp3.lt b e).1; omega) (fun k _ e => .inl (.inl (by omega))) (fun _ _ e => e)
     n1 := fun b e e' => by
      rcases hb3 b e' with e2 | e2
      ·exact h.n1 b e e2
      ·have := (hL.tb.1.lt b e).2; omega
     n2 := fun b e e' => by
      rcases hb3 b e' with e2 | e2
      ·exact h.n2 b e e2
      ·have := (hL.ta.1.lt b e).2; omega }
def RlIs (w : World) (q : Nat) (y : Option SS) (e : Ending) (w' : World) : Prop :=
 Only (fun _ => False) w w' ∧ match y with
 | none => e = .returned (.pointer none)
 | some x => ∃ R tv kv nv lk ln, e = .returned (.pointer (some ⟨R, 0, none⟩)) ∧ w.heap.size ≤ R ∧ ∀ (rk : Nat → Prop) (B : Nat), (∀ k, rk k → k < w.heap.size) → B ≤ w.heap.size → RsAt w' rk B R q tv kv nv x lk ln
theorem LpM.done (h : LpM w wr q R N r E f at_ tab tv tav kv lk) {n c : Nat} {a : Option Addr} {ys : List RPg} (hp : PgsAt wr' wr.heap.size (fun k => k < wr.heap.size ∨ (Value.slice a n c).ownBlock = some k) (.slice a n c) ys) (hy : ys.map RPg.p = lk.map RPg.p) (ho : Only (fun _ => False) wr wr') {x : SS}
  (hx : x = ⟨x.size, E, 4 * r, at_, lk.map RPg.p, lk.map RPg.p⟩) (hR : Rise x.com) (hW : x.Wf) :
  Only (fun _ => False) w (wr'.setCell ⟨R, 5, none⟩ (.slice a n c)) ∧ ∀ (rk : Nat → Prop) (B : Nat), (∀ k, rk k → k < w.heap.size) → B ≤ w.heap.size → RsAt (wr'.setCell ⟨R, 5, none⟩ (.slice a n c)) rk B R q tv kv (.slice a n c) x lk ys := by
 have h' := h.still ho
 have hsz := h.sz
 have hwR := h.wR
 have os : Only (fun b => b = R) wr' (wr'.setCell ⟨R, 5, none⟩ (.slice a n c)) := (Only.refl _ wr').setCell ⟨R, 5, none⟩ _ (fun _ => rfl)
 have hos := os.size
 have hho := ho.size
 have nR : ∀ b, (Value.slice a n c).ownBlock = some b → wr.heap.size ≤ b := fun b e => (hp.lt b e).1
 refine ⟨h'.on.trans os (fun k hk e => by omega), fun rk B hrk hB => ?_⟩
 have hmu : ∀ k, k < wr'.heap.size → muR rk R (.slice a n c) k → k < R + 2 ∨ wr.heap.size ≤ k := by
  rintro k hk (e | e | e)
  ·exact .inl (by omega)
  ·exact .inr (nR k e)
  ·have := hrk k e; exact .inl (by omega)
 have e1 : x.sector / 4 = r := by rw [hx]; simp
 have e2 : x.epoch = E := by rw [hx]
 have e3 : x.tabs = at_ := by rw [hx]
 have e4 : x.com = lk.map RPg.p := by rw [hx]
 have e5 : x.now = lk.map RPg.p := by rw [hx]
 exact
  { cells := by
     have := range_set h'.bx (j := 5) (by simp [ldL]) (.slice a n c)
     rw [rsL, e1, e2]
     exact this
    there := there_set h'.bt (h'.bx 5 _ rfl) _
    rB := by omega
    k1 := fun e => by have := hrk _ e; omega
    k2 := fun b e => ⟨by have := nR b e; omega, fun e' => by have := hrk _ e'; have := nR b e; omega⟩
    tabs := by
     rw [e3]
     exact h'.tb.rowInts.keep os (fun b e e' => by have := (h'.tb.1.lt b e).1; omega)
    tabsB := fun b e => ⟨by have := (h'.tb.1.lt b e).2; omega, fun e' => by
     have l1 := h.tb.1.lt b e
     have := (h'.tb.1.lt b e).2
     rcases hmu b this e' with g | g <;> omega⟩
    keptB := fun b e e' => by
     have l1 := h.ks.lt b e
     have := (h'.ks.lt b e).2
     rcases hmu b this e' with g | g <;> omega
    kept := by
     have := h.ks.frame ho (av' := muR rk R (.slice a n c)) (fun _ _ e => e) (fun _ _ e => e.elim) (fun k hk e => by
      rcases hmu k (by omega) e with g | g
      ·exact .inl (.inl g)
      ·omega)
     have := this.frame os (av' := muR rk R (.slice a n c)) (fun b e e' => by have := (h.ks.lt b e).1; omega) (fun k _ e => .inl e) (fun _ _ e => e)
     exact ⟨ownsRow_base this.own (by omega), this.dat⟩
    now := by
     have := hp.frame os (av' := muR rk R (.slice a n c)) (fun b e e' => by have := nR b e; omega) (fun k _ e => .inl (by omega)) (fun k hk e => by
      rcases e with e | e | e
      ·exact .inl (by omega)
      ·exact .inr e
      ·have := hrk k e; exact .inl (by omega))
     exact ⟨ownsRow_base this.own (by omega), this.dat⟩
    comE := e4.symm
    nowE := by rw [hy, e5]
    comR := hR
    nowR := by rw [e5, ← e4]; exact hR
    wf := hW }
end
theorem ld_cases {d : DS} {q : Nat} (hok : rtOk (secN (d.sec q)) = true) {X : Option ((Nat → Bool) × Nat × List Nat × List Nat)} (hX : X = dtR d (rtC (secN (d.sec q))) (fun _ => false) (rtF (secN (d.sec q))) [] []) :
  (X = none → loadD d q = none) ∧ (∀ g n a t, X = some (g, n, a, t) → n ≠ 0 → loadD d q = none) ∧
  (∀ g a t, X = some (g, 0, a, t) → loadD d q = (dpR d t (t.length + 1) g 0 []).map fun m => ⟨d.n / 4, rtE (secN (d.sec q)), q, a, m, m⟩) := by
 unfold loadD
 rw [if_pos hok, ← hX]
 refine ⟨fun e => by rw [e], fun g n a t e hn => ?_, fun g a t e => ?_⟩
 ·rw [e]
  exact if_neg hn
 ·rw [e]
  exact if_pos rfl
theorem dp_rise {d : DS} {tab : List Nat} : ∀ (k : Nat) (f : Nat → Bool) (pos : Nat) (m M : Pgs), Rise m → (∀ p ∈ m, p.1 ≤ lastI m) → dpR d tab k f pos m = some M → Rise M
 | 0, f, pos, m, M, _, _, h => by rw [dpR] at h; cases h
 | k + 1, f, pos, m, M, hm, hl, h => by
   by_cases hp : tab.length ≤ pos
   ·rw [dpR_end hp] at h
    cases h
    exact hm
   ·cases h1 : rd tab pos 0 0 with
    | none => rw [dpR_none1 hp h1] at h; cases h
    | some x1 =>
      obtain ⟨i, q⟩ := x1
      cases h2 : rd tab q 0 0 with
      | none => rw [dpR_none2 hp h1 h2] at h; cases h
      | some x2 =>
        obtain ⟨P, z⟩ := x2
        by_cases hc : 728 ≤ i ∨ (i : Int) ≤ lastI m ∨ tkOk (d.n / 4) f P = false
        ·rw [dpR_bad hp h1 h2 hc] at h; cases h
        ·cases h4 : ldD d P (3 + 256 * i) with
         | none => rw [dpR_not hp h1 h2 h4] at h; cases h
         | some D =>
           rw [dpR_go hp h1 h2 hc h4] at h
           have hlt : ∀ p ∈ m, p.1 < (i : Int) := fun p hp => by have := hl p hp; omega
           refine dp_rise k _ _ _ _ ?_ (fun p hp => ?_) h
           ·unfold Rise at hm ⊢
            refine List.pairwise_append.2 ⟨hm, List.pairwise_singleton _ _, fun a ha b hb => ?_⟩
            simp only [List.mem_cons, List.not_mem_nil, or_false] at hb
            rw [hb]
            exact hlt a ha
           ·rw [lastI_snoc]
            rcases List.mem_append.1 hp with hp | hp
            ·have := hlt p hp; simp only; omega
            ·simp only [List.mem_cons, List.not_mem_nil, or_false] at hp; rw [hp]; exact Int.le_refl _
theorem RlIs.no {w w' : World} {q : Nat} {y : Option SS} (hy : y = none) (ho : Only (fun _ => False) w w') : RlIs w q y (.returned (.pointer none)) w' := by
 rw [hy]
 exact ⟨ho, rfl⟩
theorem lastI_map (l : List RPg) (h : 0 < l.length) : lastI (l.map RPg.p) = (l[l.length - 1]'(by omega)).i := by
 unfold lastI
 rw [List.getLast?_eq_getElem?]
 simp only [List.length_map]
 rw [List.getElem?_eq_getElem (by simp; omega)]
 simp [RPg.p]
end Go.Proofs.YtlcglapcmdpkfaaGreat
