import Derived.Test.YtlcglapcmdpkfaaGreatG1
import Derived.Test.YtlcglapcmdpkfaaGreatD27
import Derived.Deep.RegionLaw
namespace Go.Proofs.YtlcglapcmdpkfaaGreat
open Go.RowKit
set_option linter.unusedSimpArgs false
set_option linter.unusedVariables false
theorem infoPg : (Tryz.prog.info? 103).map (fun i => (i.zero, i.size, i.bytes)) = some (some (.agg #[.int .i64 0, .int .i64 0, .slice none 0 0]), 3, 40) := by kernel_rfl
theorem rpgL_one {w : World} {l : List RPg} (h : ∀ y ∈ l, BytesAt w y.v y.b) : ∀ u ∈ rpgL l, u.oneCell' = true := by
 intro u hu
 simp only [rpgL, List.mem_flatMap] at hu
 obtain ⟨y, hy, hu⟩ := hu
 obtain ⟨a, c, e, _⟩ := (h y hy).form
 simp only [RPg.cells, e, List.mem_cons, List.not_mem_nil, or_false] at hu
 rcases hu with rfl | rfl | rfl <;> rfl
theorem PgsAt.app {w : World} {B : Nat} {C : Nat → Prop} {nv : Value} {l : List RPg} (h : PgsAt w B (fun k => C k ∨ nv.ownBlock = some k) nv l) (hC : ∀ k, C k → k < w.heap.size) (hB : B ≤ w.heap.size) (v2 : Value) (news : List RPg)
  (hs : (v2 = .slice none 0 0 ∧ news = []) ∨ ∃ a c, v2 = .slice (some a) news.length c ∧ ∀ j u, (rpgL news)[j]? = some u → w.cell? (a.add j) = some u)
  (hd : ∀ y ∈ news, BytesAt w y.v y.b ∧ ∀ b, y.v.ownBlock = some b → b < w.heap.size ∧ ¬ (C b ∨ nv.ownBlock = some b)) (hl : l.length + news.length ≤ 1000000) :
  ∃ a' c' w', (∀ ty, (Builtin.append_ #[95, 95] ty #[nv, v2]).run Tryz.prog w = .ok (.slice a' (l.length + news.length) c') w') ∧ PgsAt w' B (fun k => C k ∨ (Value.slice a' (l.length + news.length) c').ownBlock = some k) (.slice a' (l.length + news.length) c') (l ++ news) ∧ Only (fun b => nv.ownBlock = some b) w w' ∧ (∀ b, (Value.slice a' (l.length + news.length) c').ownBlock = some b → nv.ownBlock = some b ∨ w.heap.size ≤ b) := by
 obtain ⟨i, hi, hz0, hz1, hz2⟩ := info_parts infoPg
 rcases hs with ⟨rfl, rfl⟩ | ⟨a, c, rfl, hc⟩
 ·obtain ⟨a', c', rfl, hcc⟩ := h.form
  refine ⟨a', c', w, fun ty => run_append_owned_none _ B 95 ty 103 i 3 Tryz.underlying95 hi _ l.length (rpgL l) h.own, ?_, Only.refl _ _, fun b hb => .inl hb⟩
  simpa using h
 ·have key := fun ty => run_append_own_at (P := Tryz.prog) w B 95 ty 103 i _ 3 40 Tryz.underlying95 hi hz0 hz1 hz2 rfl (by omega) nv l.length (rpgL l) h.own a news.length c (rpgL news) (rpgL_length _) hc (rpgL_one (fun y hy => (hd y hy).1)) (by unfold maxLen; omega) (by omega) hB
  obtain ⟨v', w', hr, own', hg, _, hb⟩ := key 0
  obtain ⟨a', c', rfl⟩ := ownsRow_slice own'
  have ho : Only (fun b => nv.ownBlock = some b) w w' := (Only.refl _ w).grown hg (fun b hb _ => hb)
  have hbb : ∀ b, (Value.slice a' (l.length + news.length) c').ownBlock = some b → nv.ownBlock = some b ∨ w.heap.size ≤ b := fun b e => by
   rcases hb with q | q
   ·rw [q] at e; exact .inl e
   ·rw [q] at e; simp at e; exact .inr (by omega)
  have keep : ∀ y : RPg, (BytesAt w y.v y.b ∧ ∀ b, y.v.ownBlock = some b → b < w.heap.size ∧ ¬ (C b ∨ nv.ownBlock = some b)) → BytesAt w' y.v y.b ∧ ∀ b, y.v.ownBlock = some b → b < w'.heap.size ∧ ¬ (C b ∨ (Value.slice a' (l.length + news.length) c').ownBlock = some b) := fun y hy =>
   ⟨hy.1.keep ho (fun b e e' => (hy.2 b e).2 (.inr e')), fun b e => ⟨Nat.lt_of_lt_of_le (hy.2 b e).1 ho.size, fun e' => by
    rcases e' with e' | e'
    ·exact (hy.2 b e).2 (.inl e')
    ·rcases hbb b e' with q | q
     ·exact (hy.2 b e).2 (.inr q)
     ·have := (hy.2 b e).1; omega⟩⟩
  refine ⟨a', c', w', fun ty => by rw [← hr]; rfl, ⟨?_, fun y hy => ?_⟩, ho, hbb⟩
  ·rw [rpgL_append, List.length_append]; exact own'
  ·rcases List.mem_append.1 hy with hy | hy
   ·exact keep y (h.dat y hy)
   ·exact keep y (hd y hy)
section
variable {l : Pgs} {i : Int}
theorem Rise.tail {p : Int × Nat × List Nat} {r : Pgs} (h : Rise (p :: r)) : Rise r ∧ ∀ q ∈ r, p.1 < q.1 := by
 simp only [Rise, List.pairwise_cons] at h
 exact ⟨h.2, h.1⟩
theorem isAt_cons (p : Int × Nat × List Nat) (r : Pgs) (i : Int) : isAt (p :: r) i = if p.1 < i then isAt r i else (p.1 == i) := by
 unfold isAt
 by_cases hp : p.1 < i
 ·simp [fi, hp]
 ·simp [fi, hp]
theorem get_fi : ∀ {l : Pgs}, Rise l → getL l i = if isAt l i then (l[fi l i]?).map (·.2) else none
 | [], _ => by simp [getL, isAt, fi]
 | p :: r, h => by
   obtain ⟨h1, h2⟩ := h.tail
   have ih := get_fi h1
   rw [isAt_cons]
   by_cases hp : p.1 < i
   ·rw [if_pos hp]
    have e : getL (p :: r) i = getL r i := by
     have hn : (p.1 == i) = false := by simp; omega
     simp [getL, List.find?_cons, hn]
    rw [e, ih]
    simp [fi, hp]
   ·rw [if_neg hp]
    by_cases hi : p.1 = i
    ·simp [getL, List.find?_cons, hi, fi]
    ·have hn : (p.1 == i) = false := by simpa using hi
     rw [hn]
     simp only [Bool.false_eq_true, if_false, getL, Option.map_eq_none_iff, List.find?_eq_none]
     intro q hq
     rcases List.mem_cons.1 hq with rfl | hq
     ·simpa using hi
     ·have := h2 q hq; simp; omega
theorem del_id : ∀ {l : Pgs}, (∀ q ∈ l, i < q.1) → delL l i = l := fun {l} h => by
 unfold delL
 rw [List.filter_eq_self]
 intro q hq
 have := h q hq
 simp; omega
theorem ins_front {v : Nat × List Nat} : ∀ {l : Pgs}, (∀ q ∈ l, i < q.1) → insL (i, v) l = (i, v) :: l
 | [], _ => rfl
 | p :: r, h => by simp [insL, h p (List.mem_cons_self ..)]
theorem del_at : ∀ {l : Pgs}, Rise l → isAt l i = true → delL l i = l.take (fi l i) ++ l.drop (fi l i + 1)
 | [], _, h => by simp [isAt, fi] at h
 | p :: r, h, ha => by
   obtain ⟨h1, h2⟩ := h.tail
   rw [isAt_cons] at ha
   by_cases hp : p.1 < i
   ·rw [if_pos hp] at ha
    have ih := del_at h1 ha
    have hn : (p.1 == i) = false := by simp; omega
    simp only [fi, hp, if_true, List.take_succ_cons, List.drop_succ_cons, List.cons_append, ← ih]
    simp [delL, hn]
   ·rw [if_neg hp] at ha
    have hi : p.1 = i := by simpa using ha
    have e : fi (p :: r) i = 0 := by simp [fi, hp]
    rw [e]
    simp only [List.take_zero, List.nil_append, List.drop_succ_cons, List.drop_zero]
    have : delL (p :: r) i = delL r i := by simp [delL, hi]
    rw [this]
    exact del_id (fun q hq => by have := h2 q hq; omega)
theorem put_at {v : Nat × List Nat} : ∀ {l : Pgs}, Rise l → isAt l i = true → putL l i v = l.set (fi l i) (i, v)
 | [], _, h => by simp [isAt, fi] at h
 | p :: r, h, ha => by
   obtain ⟨h1, h2⟩ := h.tail
   rw [isAt_cons] at ha
   by_cases hp : p.1 < i
   ·rw [if_pos hp] at ha
    have ih := put_at (v := v) h1 ha
    have hn : (p.1 == i) = false := by simp; omega
    have e : putL (p :: r) i v = p :: putL r i v := by
     have hng : ¬ i < p.1 := by omega
     simp [putL, delL, hn, insL, hng]
    rw [e, ih]
    simp [fi, hp]
   ·rw [if_neg hp] at ha
    have hi : p.1 = i := by simpa using ha
    have e : fi (p :: r) i = 0 := by simp [fi, hp]
    rw [e]
    have hh : ∀ q ∈ r, i < q.1 := fun q hq => by have := h2 q hq; omega
    have : putL (p :: r) i v = insL (i, v) (delL r i) := by simp [putL, delL, hi]
    rw [this, del_id hh, ins_front hh]
    rfl
theorem put_not {v : Nat × List Nat} : ∀ {l : Pgs}, Rise l → isAt l i = false → putL l i v = l.take (fi l i) ++ [(i, v)] ++ l.drop (fi l i)
 | [], _, _ => rfl
 | p :: r, h, ha => by
   obtain ⟨h1, h2⟩ := h.tail
   rw [isAt_cons] at ha
   by_cases hp : p.1 < i
   ·rw [if_pos hp] at ha
    have ih := put_not (v := v) h1 ha
    have hn : (p.1 == i) = false := by simp; omega
    have e : putL (p :: r) i v = p :: putL r i v := by
     have hng : ¬ i < p.1 := by omega
     simp [putL, delL, hn, insL, hng]
    rw [e, ih]
    simp [fi, hp]
   ·rw [if_neg hp] at ha
    have hi : ¬ p.1 = i := by simpa using ha
    have e : fi (p :: r) i = 0 := by simp [fi, hp]
    rw [e]
    have hh : ∀ q ∈ p :: r, i < q.1 := fun q hq => by
     rcases List.mem_cons.1 hq with rfl | hq
     ·omega
     ·have := h2 q hq; omega
    unfold putL
    rw [del_id hh, ins_front hh]
    rfl
end
section
variable {w : World} {rk : Nat → Prop} {B r q : Nat} {tv kv nv : Value} {x : SS} {lk ln : List RPg}
def rgE (x : SS) (i : Int) : Int := if badE i ≠ 0 then 4 else if isAt x.now i then 0 else 6
set_option maxRecDepth 100000 in
set_option maxHeartbeats 1000000 in
theorem rget_any (h : RsAt w rk B r q tv kv nv x lk ln) (i : Int) :
  Calls Tryz.prog 17 #[.pointer (some ⟨r, 0, none⟩), .int .i64 i] w fun e w' => ∃ u b, e = .returned (.tuple #[u, .int .i64 (rgE x i)]) ∧ Hid (BytesAt w' u b ∧ Only (fun _ => False) w w' ∧ (rgE x i = 0 → (x.now[fi x.now i]?).map (·.2.2) = some b) ∧ (rgE x i ≠ 0 → b = [])) := by
 have HB := rbad_any r i w h.c6
 have HF := find_any h i
 have c5 := h.c5
 have c5d := h.c5
 obtain ⟨a, c, hnv, hcc⟩ := h.now.form
 have hnl := h.nowLen
 have HH : Hid (RsAt w rk B r q tv kv nv x lk ln) := h
 have HW : Hid (rgE x i = if badE i ≠ 0 then 4 else if isAt x.now i then 0 else 6) := rfl
 have nil0 : Hid (∀ w : World, BytesAt w (.slice none 0 0) []) := fun w => ⟨.inl ⟨rfl, rfl⟩, by simp, by simp⟩
 obtain ⟨n, hn⟩ : ∃ n, n = ln.length := ⟨_, rfl⟩
 rw [← hn] at hnv
 subst hnv
 clear h
 by_cases hb : badE i = 0
 ·rw [hb] at HB
  rw [if_neg (by simpa using hb)] at HW
  have HB' : Hid (Calls Tryz.prog 52 _ _ _) := HB
  cases hi : isAt x.now i
  ·rw [hi] at HF HW
   have HFF : Hid (Calls Tryz.prog 53 _ _ _) := HF
   have e6 : rgE x i = 6 := HW.out
   rw [e6]
   clear HB HF HW hi hb hcc hnl hn e6
   go_enter Tryz.func17, Tryz.ntmps17
   go_wp2_with fail
   refine (show Calls Tryz.prog 52 _ _ _ from HB'.out).mono ?_
   rintro e w1 ⟨rfl, rfl⟩
   go_wp2_with fail
   refine (show Calls Tryz.prog 53 _ _ _ from HFF.out).mono ?_
   rintro e w2 ⟨rfl, ho⟩
   have HO : Hid (Only (fun _ => False) w1 w2) := ho
   clear ho
   go_wp2
   go_ret2
   exact ⟨_, [], rfl, nil0.out _, HO.out, fun e => by omega, fun _ => rfl⟩
  ·rw [hi] at HF HW
   have HFF : Hid (Calls Tryz.prog 53 _ _ _) := HF
   have e6 : rgE x i = 0 := HW.out
   rw [e6]
   obtain ⟨k, hk⟩ : ∃ k, k = fi x.now i := ⟨_, rfl⟩
   have hkx : k < x.now.length := by
    unfold isAt at hi
    rw [← hk] at hi
    rcases Nat.lt_or_ge k x.now.length with h1 | h1
    ·exact h1
    ·rw [List.getElem?_eq_none h1] at hi; cases hi
   have hkl : k < ln.length := by omega
   rw [← hk] at HFF
   rw [← hk]
   obtain ⟨g, hga, z0, z1, z2⟩ := (show PgsAt w B _ (.slice a n c) ln from HH.out.now).at k hkl
   subst hga
   have i0 : (0 : Int) ≤ (k : Int) := Int.natCast_nonneg _
   have i1 : (k : Int) < (n : Int) := by omega
   obtain ⟨v, hv⟩ : ∃ v, v = (ln[k]).v := ⟨_, rfl⟩
   rw [← hv] at z2
   have hvb := (HH.out.now.dat _ (List.getElem_mem hkl)).1
   obtain ⟨av, cv, hvf, _⟩ := hvb.form
   rw [← hv] at hvb hvf
   obtain ⟨nb, hnb⟩ : ∃ nb, nb = (ln[k]).b.length := ⟨_, rfl⟩
   rw [← hnb] at hvf
   have HV : Hid (BytesAt w v (ln[k]).b ∧ (x.now[k]?).map (·.2.2) = some (ln[k]).b) := by
    refine ⟨hvb, ?_⟩
    have := HH.out.nowE
    rw [← this, List.getElem?_map, List.getElem?_eq_getElem hkl]
    rfl
   clear HB HF HW hi hb hcc hnl hn e6 hk hkx hv hvb hnb
   subst hvf
   go_enter Tryz.func17, Tryz.ntmps17
   go_wp2_with fail
   refine (show Calls Tryz.prog 52 _ _ _ from HB'.out).mono ?_
   rintro e w1 ⟨rfl, rfl⟩
   go_wp2_with fail
   refine (show Calls Tryz.prog 53 _ _ _ from HFF.out).mono ?_
   rintro e w2 ⟨rfl, ho⟩
   have y5 := ho.cell c5 (fun e => e)
   have y2 := ho.cell z2 (fun e => e)
   have HO : Hid (Only (fun _ => False) w1 w2) := ho
   clear ho c5 z2 z0 z1 c5d
   go_wp2
   go_ret2
   exact ⟨_, (ln[k]).b, rfl, HV.out.1.frame HO.out, HO.out, fun _ => HV.out.2, fun e => absurd rfl e⟩
 ·have hbe : badE i = 4 := by unfold badE at *; split at hb <;> simp_all
  rw [hbe] at HB
  have e6 : rgE x i = 4 := by rw [HW.out, if_pos (by omega)]
  have HB' : Hid (Calls Tryz.prog 52 _ _ _) := HB
  rw [e6]
  clear HB HF HW hb hcc hnl hn e6 hbe
  go_enter Tryz.func17, Tryz.ntmps17
  go_wp2_with fail
  refine (show Calls Tryz.prog 52 _ _ _ from HB'.out).mono ?_
  rintro e w1 ⟨rfl, rfl⟩
  go_wp2
  go_ret2
  exact ⟨_, [], rfl, nil0.out _, Only.refl _ _, fun e => by omega, fun _ => rfl⟩
theorem rget_dead (r : Nat) (i : Int) (w : World) (h : w.cell? ⟨r, 6, none⟩ = some (.bool true)) :
  Calls Tryz.prog 17 #[.pointer (some ⟨r, 0, none⟩), .int .i64 i] w fun e w' => e = .returned (.tuple #[.slice none 0 0, .int .i64 3]) ∧ w' = w := by
 have HB := rbad_dead r i w h
 go_enter Tryz.func17, Tryz.ntmps17
 go_wp2_with fail
 refine HB.mono ?_
 rintro e w1 ⟨rfl, rfl⟩
 go_wp2
 go_ret2
 exact ⟨rfl, rfl⟩
end
end Go.Proofs.YtlcglapcmdpkfaaGreat
