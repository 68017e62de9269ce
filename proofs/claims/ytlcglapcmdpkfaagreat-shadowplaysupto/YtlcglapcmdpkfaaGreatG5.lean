import Derived.Test.YtlcglapcmdpkfaaGreatG4
namespace Go.Proofs.YtlcglapcmdpkfaaGreat
open Go.RowKit
set_option linter.unusedSimpArgs false
set_option linter.unusedVariables false
def SrcAt (w : World) (v2 : Value) (news : List RPg) : Prop := (v2 = .slice none 0 0 ∧ news = []) ∨ ∃ a c, v2 = .slice (some a) news.length c ∧ ∀ j u, (rpgL news)[j]? = some u → w.cell? (a.add j) = some u
theorem SrcAt.frame {w w' : World} {v2 : Value} {news : List RPg} {bs : Nat → Prop} (h : SrcAt w v2 news) (ho : Only bs w w') (hn : ∀ b, v2.ownBlock = some b → ¬ bs b) : SrcAt w' v2 news := by
 rcases h with h | ⟨a, c, hv, hc⟩
 ·exact .inl h
 ·exact .inr ⟨a, c, hv, fun j u hu => ho.cell (hc j u hu) (hn _ (by rw [hv]; simp only [Value.ownBlock, Addr.add]; repeat' split <;> rfl))⟩
theorem nil_to (w : World) : (Instr.slice 95 (.slice none 0 0) none (some (.int .i64 0)) none).run Tryz.prog w = .ok (.slice none 0 0) w := by kernel_rfl
theorem nil_from (w : World) : (Instr.slice 95 (.slice none 0 0) (some (.int .i64 0)) none none).run Tryz.prog w = .ok (.slice none 0 0) w := by kernel_rfl
theorem PgsAt.to {w : World} {B : Nat} {av : Nat → Prop} {v : Value} {l : List RPg} (h : PgsAt w B av v l) (k : Nat) (hk : k ≤ l.length) :
  ∃ a2 c2, (∀ w', (Instr.slice 95 v none (some (.int .i64 (k : Nat))) none).run Tryz.prog w' = .ok (.slice a2 k c2) w') ∧ SrcAt w (.slice a2 k c2) (l.take k) ∧ ∀ b, (Value.slice a2 k c2).ownBlock = some b → v.ownBlock = some b := by
 have hlt : (l.take k).length = k := by simp [Nat.min_eq_left hk]
 rcases h.own.2 with ⟨rfl, h0⟩ | ⟨g, cap, cur, rfl, hB, hg, hcap, _, _, ht⟩
 ·obtain rfl : k = 0 := by omega
  exact ⟨none, 0, fun w' => nil_to w', .inl ⟨rfl, by simp⟩, fun b e => by cases e⟩
 ·have k0 : (0 : Int) ≤ (k : Int) := by omega
  have k1 : (k : Int) ≤ (cap : Int) := by omega
  have e1 : ((k : Int)).toNat = k := by omega
  refine ⟨some ⟨g, 0, none⟩, cap, fun w' => by go_simp, .inr ⟨_, cap, by rw [hlt], fun j u hu => ?_⟩, fun b e => e⟩
  have hj := (List.getElem?_eq_some_iff.1 hu).1
  rw [rpgL_length, hlt] at hj
  rw [Addr.add_mid, Nat.zero_add, h.own.cellAt j (by omega), ← hu]
  rw [show rpgL l = rpgL (l.take k) ++ rpgL (l.drop k) by rw [← rpgL_append, List.take_append_drop]]
  rw [List.getElem?_append_left (by rw [rpgL_length, hlt]; exact hj)]
theorem PgsAt.from {w : World} {B : Nat} {av : Nat → Prop} {v : Value} {l : List RPg} (h : PgsAt w B av v l) (k : Nat) (hk : k ≤ l.length) :
  ∃ a2 c2, (∀ w', (Instr.slice 95 v (some (.int .i64 (k : Nat))) none none).run Tryz.prog w' = .ok (.slice a2 (l.length - k) c2) w') ∧ SrcAt w (.slice a2 (l.length - k) c2) (l.drop k) ∧ ∀ b, (Value.slice a2 (l.length - k) c2).ownBlock = some b → v.ownBlock = some b := by
 have hlt : (l.drop k).length = l.length - k := by simp
 rcases h.own.2 with ⟨rfl, h0⟩ | ⟨g, cap, cur, rfl, hB, hg, hcap, _, _, ht⟩
 ·obtain rfl : k = 0 := by omega
  rw [h0]
  exact ⟨none, 0, fun w' => nil_from w', .inl ⟨rfl, List.eq_nil_of_length_eq_zero (by rw [hlt]; omega)⟩, fun b e => by cases e⟩
 ·have k0 : (0 : Int) ≤ (k : Int) := by omega
  have k1 : (k : Int) ≤ (l.length : Int) := by omega
  have kc : (l.length : Int) ≤ (cap : Int) := by omega
  have k2 : (k : Int) ≤ (cap : Int) := by omega
  have e0 : ((k : Int)).toNat = k := by omega
  have e1 : ((l.length : Int) - (k : Int)).toNat = l.length - k := by omega
  have e2 : ((cap : Int) - (k : Int)).toNat = cap - k := by omega
  obtain ⟨n, hn⟩ : ∃ n, n = l.length := ⟨_, rfl⟩
  by_cases e : cap = k
  ·have ek : l.length = k := by omega
   rw [ek] at k1 kc e1 ⊢
   subst e
   refine ⟨some ⟨g, 0, none⟩, 0, fun w' => by go_simp, .inr ⟨_, 0, by rw [hlt, ek], fun j u hu => ?_⟩, fun b e => e⟩
   have hj := (List.getElem?_eq_some_iff.1 hu).1
   rw [rpgL_length, hlt] at hj
   omega
  ·have ec : ¬ cap - k = 0 := by omega
   refine ⟨some ⟨g, k * 3, none⟩, cap - k, fun w' => ?_, .inr ⟨_, cap - k, by rw [hlt], fun j u hu => ?_⟩, fun b e => e⟩
   ·rw [← hn] at k1 kc e1 ⊢
    go_simp
   ·have hj := (List.getElem?_eq_some_iff.1 hu).1
    rw [rpgL_length, hlt] at hj
    rw [Addr.add_mid, h.own.cellAt (k * 3 + j) (by omega), ← hu]
    rw [show rpgL l = rpgL (l.take k) ++ rpgL (l.drop k) by rw [← rpgL_append, List.take_append_drop]]
    rw [List.getElem?_append_right (by rw [rpgL_length]; simp [Nat.min_eq_left hk])]
    congr 1
    rw [rpgL_length]; simp [Nat.min_eq_left hk]
section
variable {w : World} {rk : Nat → Prop} {B r q : Nat} {tv kv nv : Value} {x : SS} {lk ln : List RPg}
theorem RsAt.datOut (h : RsAt w rk B r q tv kv nv x lk ln) : ∀ y ∈ ln, BytesAt w y.v y.b ∧ ∀ b, y.v.ownBlock = some b → b < w.heap.size ∧ ¬ (b = r ∨ rk b) := fun y hy =>
 ⟨(h.now.dat y hy).1, fun b e => ⟨((h.now.dat y hy).2 b e).1, fun e' => ((h.now.dat y hy).2 b e).2 (by
   rcases e' with e' | e'
   ·exact .inl e'
   ·exact .inr (.inr e'))⟩⟩
def rdE (x : SS) (i : Int) : Int := if badE i ≠ 0 then 4 else if isAt x.now i then 0 else 6
set_option maxRecDepth 100000 in
set_option maxHeartbeats 1000000 in
theorem rdrop_any (h : RsAt w rk B r q tv kv nv x lk ln) (hrk : ∀ k, rk k → k < w.heap.size) (hB : B ≤ w.heap.size) (i : Int) :
  Calls Tryz.prog 19 #[.pointer (some ⟨r, 0, none⟩), .int .i64 i] w fun e w' => e = .returned (.int .i64 (rdE x i)) ∧ Hid (RsIs w rk B r q nv (if rdE x i = 0 then { x with now := delL x.now i } else x) w') := by
 have HB := rbad_any r i w h.c6
 have HF : Hid (Calls Tryz.prog 53 _ _ _) := find_any h i
 have c5 := h.c5
 have HH : Hid (RsAt w rk B r q tv kv nv x lk ln) := h
 have HW : Hid (rdE x i = if badE i ≠ 0 then 4 else if isAt x.now i then 0 else 6) := rfl
 have HS0 : Hid (∀ w', Only (fun _ => False) w w' → RsIs w rk B r q nv x w') := fun w' ho => ⟨_, _, _, _, _, HH.out.still ho, ho.mono (fun _ _ e => e.elim), fun b e => .inl e⟩
 by_cases hb : badE i = 0
 ·rw [hb] at HB
  rw [if_neg (by simpa using hb)] at HW
  cases hi : isAt x.now i
  ·rw [hi] at HF HW
   have e6 : rdE x i = 6 := HW.out
   rw [e6, if_neg (by decide)]
   clear h HW hi hb e6
   go_enter Tryz.func19, Tryz.ntmps19
   go_wp2_with fail
   refine HB.mono ?_
   rintro e w1 ⟨rfl, rfl⟩
   go_wp2_with fail
   refine (show Calls Tryz.prog 53 _ _ _ from HF.out).mono ?_
   rintro e w2 ⟨rfl, ho⟩
   have HO : Hid (Only (fun _ => False) w1 w2) := ho
   clear ho HF HB
   go_wp2
   go_ret
   exact ⟨rfl, HS0.out _ HO.out⟩
  ·rw [hi] at HF HW
   have e6 : rdE x i = 0 := HW.out
   rw [e6, if_pos rfl]
   obtain ⟨k, hk⟩ : ∃ k, k = fi x.now i := ⟨_, rfl⟩
   have hkx : k < x.now.length := by
    unfold isAt at hi
    rw [← hk] at hi
    rcases Nat.lt_or_ge k x.now.length with h1 | h1
    ·exact h1
    ·rw [List.getElem?_eq_none h1] at hi; cases hi
   have hkl : k < ln.length := by have := h.nowLen; omega
   rw [← hk] at HF
   have HD : Hid (delL x.now i = x.now.take k ++ x.now.drop (k + 1)) := by have := del_at h.nowR hi; rw [← hk] at this; exact this
   have hnS := h.nowS
   obtain ⟨a, c, hnv, hcc⟩ := h.now.form
   obtain ⟨n, hn⟩ : ∃ n, n = ln.length := ⟨_, rfl⟩
   obtain ⟨a1, c1, s1, src1, ob1⟩ := h.now.to k (Nat.le_of_lt hkl)
   obtain ⟨a2, c2, s2, src2, ob2⟩ := h.now.from (k + 1) hkl
   have HP : Hid (∀ w2, Only (fun _ => False) w w2 → ∃ a3 c3 w3 a4 c4 w4, (∀ ty, (Builtin.append_ #[95, 95] ty #[.slice none 0 0, .slice a1 k c1]).run Tryz.prog w2 = .ok (.slice a3 k c3) w3) ∧ (∀ ty, (Builtin.append_ #[95, 95] ty #[.slice a3 k c3, .slice a2 (n - (k + 1)) c2]).run Tryz.prog w3 = .ok (.slice a4 (n - 1) c4) w4) ∧
     w3.cell? ⟨r, 5, none⟩ = some nv ∧ w4.cell? ⟨r, 5, none⟩ = some nv ∧ w4.frozen? ⟨r, 5, none⟩ = false ∧ RsIs w rk B r q nv { x with now := delL x.now i } (w4.setCell ⟨r, 5, none⟩ (.slice a4 (n - 1) c4))) := fun w2 ho => by
    have hd0 := h.datOut
    have hC : ∀ k, (k = r ∨ rk k) → k < w.heap.size := fun k e => e.elim (fun e => by rw [e]; exact h.lt) (hrk k)
    have hs2 := ho.size
    have nblk : ∀ b, nv.ownBlock = some b → b < w.heap.size := fun b e => (h.now.lt b e).2
    obtain ⟨a3, c3, w3, hr3, hp3, ho3, hb3⟩ := (PgsAt.nil w2 B (fun k => (k = r ∨ rk k) ∨ (Value.slice none 0 0).ownBlock = some k)).app (C := fun k => k = r ∨ rk k) (fun k e => by have := hC k e; omega) (by omega) (.slice a1 k c1) (ln.take k)
     (src1.frame ho (fun _ _ e => e)) (fun y hy => ⟨(hd0 y (List.mem_of_mem_take hy)).1.frame ho, fun b e => ⟨by have := ((hd0 y (List.mem_of_mem_take hy)).2 b e).1; omega, fun e' => by
      rcases e' with e' | e'
      ·exact ((hd0 y (List.mem_of_mem_take hy)).2 b e).2 e'
      ·cases e'⟩⟩) (by simp; omega)
    have tl : (ln.take k).length = k := by simp; omega
    simp only [List.length_nil, Nat.zero_add, tl, List.nil_append] at hr3 hp3 hb3
    have o3 : Only (fun _ => False) w2 w3 := ho3.mono (fun b _ e => by cases e)
    have o3' : Only (fun _ => False) w w3 := ho.trans o3 (fun _ _ e => e)
    have v3 : ∀ b, (Value.slice a3 k c3).ownBlock = some b → w2.heap.size ≤ b := fun b e => by
     rcases hb3 b e with e' | e'
     ·cases e'
     ·exact e'
    have hs3 := o3'.size
    obtain ⟨a4, c4, w4, hr4, hp4, ho4, hb4⟩ := hp3.app (C := fun k => k = r ∨ rk k) (fun k e => by have := hC k e; omega) (by omega) (.slice a2 (ln.length - (k + 1)) c2) (ln.drop (k + 1))
     (src2.frame o3' (fun _ _ e => e)) (fun y hy => ⟨(hd0 y (List.mem_of_mem_drop hy)).1.frame o3', fun b e => ⟨by have := ((hd0 y (List.mem_of_mem_drop hy)).2 b e).1; omega, fun e' => by
      rcases e' with e' | e'
      ·exact ((hd0 y (List.mem_of_mem_drop hy)).2 b e).2 e'
      ·have := v3 b e'; have := ((hd0 y (List.mem_of_mem_drop hy)).2 b e).1; omega⟩⟩) (by simp; omega)
    have dl : (ln.drop (k + 1)).length = ln.length - (k + 1) := by simp
    simp only [tl, dl] at hr4 hp4 hb4
    have en : k + (ln.length - (k + 1)) = n - 1 := by omega
    rw [en] at hp4 hb4
    have hr4' : ∀ ty, (Builtin.append_ #[95, 95] ty #[.slice a3 k c3, .slice a2 (n - (k + 1)) c2]).run Tryz.prog w3 = .ok (.slice a4 (n - 1) c4) w4 := by
     intro ty; have := hr4 ty; rw [en] at this; rw [hn]; rw [hn] at this; exact this
    have o4 : Only (fun _ => False) w w4 := o3'.trans ho4 (fun b hb e => by have := v3 b e; omega)
    have nb4 : ∀ b, (Value.slice a4 (n - 1) c4).ownBlock = some b → w.heap.size ≤ b := fun b e => by
     rcases hb4 b e with e' | e'
     ·have := v3 b e'; omega
     ·omega
    have hsn : (ln.take k ++ ln.drop (k + 1)).map RPg.p = delL x.now i := by rw [HD.out, List.map_append, List.map_take, List.map_drop, h.nowE]
    have hsub : ∀ p ∈ delL x.now i, p ∈ x.now := fun p hp => (List.mem_filter.1 hp).1
    obtain ⟨q1, q2⟩ := h.setNow hrk (o4.mono (fun _ _ e => e.elim)) (.slice a4 (n - 1) c4) _ (delL x.now i) hp4 (fun b e => .inr (nb4 b e)) hsn (h.nowR.filter _) (fun p hp => h.wf.now p (hsub p hp))
    exact ⟨a3, c3, w3, a4, c4, w4, hr3, hr4', o3'.cell c5 (fun e => e), o4.cell c5 (fun e => e), (o4.frozen h.lt (fun e => e)).trans (h.fz 5 (by omega)), _, _, _, _, _, q1, q2, fun b e => .inr (nb4 b e)⟩
   rw [← hn] at hnv s2
   have HS1 : Hid (∀ w', (Instr.slice 95 nv none (some (.int .i64 (k : Nat))) none).run Tryz.prog w' = .ok (.slice a1 k c1) w') := s1
   have HS2 : Hid (∀ w', (Instr.slice 95 nv (some (.int .i64 ((k + 1 : Nat) : Int))) none none).run Tryz.prog w' = .ok (.slice a2 (n - (k + 1)) c2) w') := s2
   subst hnv
   have s1' := HS1.out
   have s2' : ∀ w', (Instr.slice 95 (.slice a n c) (some (.int .i64 ((k : Int) + 1))) none none).run Tryz.prog w' = .ok (.slice a2 (n - (k + 1)) c2) w' := by have := HS2.out; simpa using this
   have hk7 : k < 1000 := by omega
   clear h HW hi hb e6 hk hkx hkl hnS hcc hn s1 s2 src1 src2 ob1 ob2 HD hrk hB HS0
   go_enter Tryz.func19, Tryz.ntmps19
   go_wp2_with fail
   refine HB.mono ?_
   rintro e w1 ⟨rfl, rfl⟩
   go_wp2_with fail
   refine (show Calls Tryz.prog 53 _ _ _ from HF.out).mono ?_
   rintro e w2 ⟨rfl, ho⟩
   obtain ⟨a3, c3, w3, a4, c4, w4, hr3, hr4, z3, z4, zf, hz⟩ := HP.out w2 ho
   have HR3 : Hid _ := hr3
   have HR4 : Hid _ := hr4
   have HZ : Hid (RsIs w1 rk B r q (.slice a n c) { x with now := delL x.now i } (w4.setCell ⟨r, 5, none⟩ (.slice a4 (n - 1) c4))) := hz
   have z2 := ho.cell c5 (fun e => e)
   clear ho HF HB HP hr3 hr4 hz
   go_wp2_with (first | (at_builtin; refine wpList_append_run rfl _ _ 95 rfl _ _ (.slice a3 k c3) rfl rfl HR3.out ?_) | (at_builtin; refine wpList_append_run rfl _ _ 95 rfl _ _ (.slice a4 (n - 1) c4) rfl rfl HR4.out ?_))
   go_ret
   exact ⟨rfl, HZ⟩
 ·have hbe : badE i = 4 := by unfold badE at *; split at hb <;> simp_all
  rw [hbe] at HB
  have e6 : rdE x i = 4 := by rw [HW.out, if_pos (by omega)]
  rw [e6, if_neg (by decide)]
  clear HF HW hb e6 hbe h
  go_enter Tryz.func19, Tryz.ntmps19
  go_wp2_with fail
  refine HB.mono ?_
  rintro e w1 ⟨rfl, rfl⟩
  go_wp2
  go_ret
  exact ⟨rfl, HS0.out _ (Only.refl _ _)⟩
theorem rdrop_dead (r : Nat) (i : Int) (w : World) (h : w.cell? ⟨r, 6, none⟩ = some (.bool true)) :
  Calls Tryz.prog 19 #[.pointer (some ⟨r, 0, none⟩), .int .i64 i] w fun e w' => e = .returned (.int .i64 3) ∧ w' = w := by
 have HB := rbad_dead r i w h
 go_enter Tryz.func19, Tryz.ntmps19
 go_wp2_with fail
 refine HB.mono ?_
 rintro e w1 ⟨rfl, rfl⟩
 go_wp2
 go_ret
 exact ⟨rfl, rfl⟩
end
end Go.Proofs.YtlcglapcmdpkfaaGreat
