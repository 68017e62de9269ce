/-  -/
import Derived.Test.YtlcglapcmdpkfaaGreatGaa
import Derived.Test.YtlcglapcmdpkfaaGreatGaf
import Derived.Test.YtlcglapcmdpkfaaGreatGah
import Derived.Test.YtlcglapcmdpkfaaGreatGak
import Derived.Test.YtlcglapcmdpkfaaGreatGae
namespace Go.Proofs.YtlcglapcmdpkfaaGreat
open Go.RowKit Go.Shelf
set_option linter.unusedSimpArgs false
set_option linter.unusedVariables false
set_option maxRecDepth 100000
set_option maxHeartbeats 16000000
attribute [local go_sem] Oper.semAt_some
def wtStep (tab at_ : List Nat) (r : Nat × Int × DS) (k : Nat) : Nat × Int × DS :=
 (r.1 + 1, if r.2.1 ≠ 0 then r.2 else r.2.2.wpage ((at_.getD r.1 0 : Nat) : Int) 2 (layB (at_.getD (r.1 + 1) 0) 4 ++ (tab.drop (112 * k)).take 112))
def wtR (tab at_ : List Nat) (d : DS) (pre : List Nat) : Nat × Int × DS := pre.foldl (wtStep tab at_) (0, 0, d)
theorem wtR_snoc (tab at_ : List Nat) (d : DS) (pre : List Nat) (k : Nat) : wtR tab at_ d (pre ++ [k]) = wtStep tab at_ (wtR tab at_ d pre) k := by simp [wtR]
theorem wtF_fst (tab at_ : List Nat) : ∀ (pre : List Nat) (r : Nat × Int × DS), (pre.foldl (wtStep tab at_) r).1 = r.1 + pre.length
 | [], r => rfl
 | k :: l, r => by
   rw [List.foldl_cons, wtF_fst tab at_ l]
   simp [wtStep]
   omega
theorem wtR_fst (tab at_ : List Nat) (d : DS) (pre : List Nat) : (wtR tab at_ d pre).1 = pre.length := by
 have := wtF_fst tab at_ pre (0, 0, d)
 simpa [wtR] using this
structure WtI (w wl : World) (B p S : Nat) (pv : Value) (d : DS) (tab at_ : List Nat) (Ba : Nat) (ab : Option Nat) (pre : List Nat) (W : World) : Prop where
 ok : (wtR tab at_ d pre).2.1 = 0
 disk : ∃ pv', DiskAt W B p S pv' (wtR tab at_ d pre).2.2 ∧ ∀ b, pv'.ownBlock = some b → pv.ownBlock = some b ∨ wl.heap.size ≤ b
 box : ∃ bv, Boxed W Ba 76 bv ∧ RowAt w bv (at_.length - pre.length) 1 (fun j => .int .i64 (at_.getD (pre.length + j) 0 : Nat)) ∧ ∀ b, bv.ownBlock = some b → ab = some b
 keep : ∀ k, w.heap.size ≤ k → k < wl.heap.size → k ≠ Ba → W.heap[k]? = wl.heap[k]?
 only : Only (diskB p S pv) w W
 size : wl.heap.size ≤ W.heap.size
theorem WtI.frame {w wl W W' : World} {B p S : Nat} {pv : Value} {d : DS} {tab at_ : List Nat} {Ba : Nat} {ab : Option Nat} {pre : List Nat} {row : Option Nat} (h : WtI w wl B p S pv d tab at_ Ba ab pre W) (hd0 : ∀ k, diskB p S pv k → k < w.heap.size) (hw : w.heap.size ≤ wl.heap.size) (hBa : Ba < wl.heap.size)
  (hg : W.grownBy W' row) (hr : ∀ r, row = some r → wl.heap.size ≤ r ∧ ∃ o : Obj, W.heap[r]? = some o ∧ o.isCells = false) : WtI w wl B p S pv d tab at_ Ba ab pre W' := by
 have oo : Only (fun k => row = some k) W W' := (Only.refl _ W).grown hg (fun k e _ => e)
 obtain ⟨pv', hd, hp⟩ := h.disk
 obtain ⟨bv, hb, hr1, hr2⟩ := h.box
 refine { ok := h.ok, disk := ⟨pv', hd.frame oo (fun k hk e => ?_), hp⟩, box := ⟨bv, hb.kept hg (fun e => ?_), hr1, hr2⟩, keep := fun k k1 k2 k3 => ?_, only := ?_, size := Nat.le_trans h.size hg.size }
 ·obtain ⟨h1, o, ho, hc⟩ := hr k e
  rcases hk with rfl | rfl | hk
  ·have := hd0 k (.inl rfl); omega
  ·have := hd0 k (.inr (.inl rfl)); omega
  ·rcases hd.own.2 with ⟨e1, _⟩ | ⟨g, cap, cur, e1, _, e2, _⟩
   ·rw [e1] at hk; simp [Value.ownBlock] at hk
   ·rw [e1] at hk
    simp only [Value.ownBlock, Option.some.injEq] at hk
    subst hk
    rw [e2] at ho
    cases ho
    cases hc
 ·have := (hr Ba e.symm).1; omega
 ·rw [hg.block k (by have := h.size; omega) (fun e => by have := (hr k e.symm).1; omega)]
  exact h.keep k k1 k2 k3
 ·exact h.only.grown hg (fun k e hk => by have := (hr k e).1; omega)
structure WtX (w wl : World) (B p S : Nat) (pv : Value) (d : DS) (tab at_ : List Nat) (Br : Nat) (pre : List Nat) (W : World) : Prop where
 bad : (wtR tab at_ d pre).2.1 ≠ 0
 disk : ∃ pv', DiskAt W B p S pv' (wtR tab at_ d pre).2.2 ∧ ∀ b, pv'.ownBlock = some b → pv.ownBlock = some b ∨ wl.heap.size ≤ b
 res : Boxed W Br 25 (.int .i64 (wtR tab at_ d pre).2.1)
 only : Only (diskB p S pv) w W
 size : wl.heap.size ≤ W.heap.size
theorem disk_not_row {W : World} {B p S : Nat} {pv : Value} {d : DS} (hd : DiskAt W B p S pv d) {k : Nat} {o : Obj} (hk : diskB p S pv k) (ho : W.heap[k]? = some o) : o.isCells = true := by
 have key : ∀ (j : Nat) (v : Value), W.cell? ⟨k, j, none⟩ = some v → o.isCells = true := by
  intro j v hc
  simp only [World.cell?, ho] at hc
  cases o <;> simp at hc <;> rfl
 rcases hk with rfl | rfl | hk
 ·exact key 1 _ hd.c1
 ·have h0 := (hd.secs 0 hd.n1).1 0 _ (secL_get _ 0 (by omega))
  exact key _ _ h0
 ·rcases hd.own.2 with ⟨e1, _⟩ | ⟨g, cap, cur, e1, _, e2, _⟩
  ·rw [e1] at hk; simp [Value.ownBlock] at hk
  ·rw [e1] at hk
   simp only [Value.ownBlock, Option.some.injEq] at hk
   subst hk
   rw [e2] at ho
   cases ho
   rfl
theorem WtX.frame {w wl W W' : World} {B p S : Nat} {pv : Value} {d : DS} {tab at_ : List Nat} {Br : Nat} {pre : List Nat} {row : Option Nat} (h : WtX w wl B p S pv d tab at_ Br pre W) (hw : w.heap.size ≤ wl.heap.size) (hBr : Br < wl.heap.size)
  (hg : W.grownBy W' row) (hr : ∀ r, row = some r → wl.heap.size ≤ r ∧ ∃ o : Obj, W.heap[r]? = some o ∧ o.isCells = false) : WtX w wl B p S pv d tab at_ Br pre W' := by
 have oo : Only (fun k => row = some k) W W' := (Only.refl _ W).grown hg (fun k e _ => e)
 obtain ⟨pv', hd, hp⟩ := h.disk
 refine { bad := h.bad, disk := ⟨pv', hd.frame oo (fun k hk e => ?_), hp⟩, res := h.res.kept hg (fun e => ?_), only := ?_, size := Nat.le_trans h.size hg.size }
 ·obtain ⟨h1, o, ho, hc⟩ := hr k e
  rw [disk_not_row hd hk ho] at hc
  cases hc
 ·have := (hr Br e.symm).1; omega
 ·exact h.only.grown hg (fun k e hk => by have := (hr k e).1; omega)
theorem wt_stuck (tab at_ : List Nat) : ∀ (l : List Nat) (r : Nat × Int × DS), r.2.1 ≠ 0 → (l.foldl (wtStep tab at_) r).2 = r.2
 | [], _, _ => rfl
 | k :: l, r, h => by
   have e : (wtStep tab at_ r k).2 = r.2 := by simp [wtStep, h]
   rw [List.foldl_cons, wt_stuck tab at_ l _ (by rw [e]; exact h), e]
theorem wt_whole (tab at_ : List Nat) (d : DS) (k n : Nat) (hk : k ≤ n) (h : (wtR tab at_ d (List.range k)).2.1 ≠ 0) : (wtR tab at_ d (List.range n)).2 = (wtR tab at_ d (List.range k)).2 := by
 obtain ⟨m, rfl⟩ : ∃ m, n = k + m := ⟨n - k, by omega⟩
 unfold wtR at h ⊢
 rw [List.range_add, List.foldl_append]
 exact wt_stuck tab at_ _ _ h
theorem wtF_facts (tab at_ : List Nat) (ht : ∀ z ∈ tab, z < 256) : ∀ (pre : List Nat) (r : Nat × Int × DS), ByteD r.2.2 → Good r.2.2 → ByteD (pre.foldl (wtStep tab at_) r).2.2 ∧ Good (pre.foldl (wtStep tab at_) r).2.2 ∧ (pre.foldl (wtStep tab at_) r).2.2.pend.length ≤ r.2.2.pend.length + 4 * pre.length
 | [], r, h1, h2 => ⟨h1, h2, by simp⟩
 | k :: l, r, h1, h2 => by
   have key : ByteD (wtStep tab at_ r k).2.2 ∧ Good (wtStep tab at_ r k).2.2 ∧ (wtStep tab at_ r k).2.2.pend.length ≤ r.2.2.pend.length + 4 := by
    simp only [wtStep]
    split
    ·exact ⟨h1, h2, by omega⟩
    ·have := wpage_facts (d := r.2.2) ((at_.getD r.1 0 : Nat) : Int) 2 (layB (at_.getD (r.1 + 1) 0) 4 ++ (tab.drop (112 * k)).take 112) (fun z hz => by
      rcases List.mem_append.1 hz with hz | hz
      ·exact layB_lt _ _ z hz
      ·exact ht z (List.mem_of_mem_drop (List.mem_of_mem_take hz))) h1 h2
     exact ⟨this.1, this.2.1, this.2.2.2⟩
   obtain ⟨i1, i2, i3⟩ := wtF_facts tab at_ ht l _ key.1 key.2.1
   rw [List.foldl_cons]
   refine ⟨i1, i2, ?_⟩
   have := key.2.2
   simp only [List.length_cons]
   omega
theorem laid_fresh {w : World} {g h : Nat} (hb : Blk w g (splice (List.replicate 116 0) 0 (layB h 4))) : Fresh w g (.slice (some ⟨g, 0, none⟩) 4 116) (layB h 4) := by
 have hl : (splice (List.replicate 116 0) 0 (layB h 4)).length = 116 := by rw [length_splice _ _ _ (by rw [layB_length, List.length_replicate]; omega), List.length_replicate]
 refine ⟨⟨by rw [BL_length, Nat.mul_one], .inr ⟨g, 116, _, by rw [layB_length], Nat.le_refl _, hb.1, by rw [layB_length]; omega, by unfold maxLen; omega, by rw [List.size_toArray, BL_length, hl], ?_⟩⟩, by rw [layB_length]; omega, layB_lt h 4⟩
 rw [Nat.mul_one, layB_length]
 simp only [splice, List.take_zero, List.nil_append, BL_append]
 rw [List.take_append_of_le_length (by rw [BL_length, layB_length]; omega), List.take_of_length_le (by rw [BL_length, layB_length]; omega)]
theorem chV_bytes {w : World} {g o n c : Nat} {tab : List Nat} (h : BytesAt w (.slice (some ⟨g, o, none⟩) n c) tab) (hn : tab.length = n) (k : Nat) : BytesAt w (chV g o n k) ((tab.drop (112 * k)).take 112) := by
 have hl : ((tab.drop (112 * k)).take 112).length = min 112 (n - 112 * k) := by rw [List.length_take, List.length_drop, hn]
 refine ⟨.inr ⟨⟨g, o + 112 * k, none⟩, _, by rw [hl]; rfl, by rw [hl]; exact Nat.le_refl _, fun j hj => ?_⟩, by have := h.2.1; omega, fun z hz => h.2.2 z (List.mem_of_mem_drop (List.mem_of_mem_take hz))⟩
 rw [hl] at hj
 obtain ⟨a', c', ha', _, hc⟩ := h.form
 obtain ⟨g', o', e1, e2⟩ := hc (112 * k + j) (by omega)
 injection ha' with ha' _ _
 rw [e1] at ha'
 injection ha' with ha'
 injection ha' with hg ho _
 subst hg ho
 rw [Addr.add_mid, Nat.add_assoc, e2]
 have : ((tab.drop (112 * k)).take 112).getD j 0 = tab.getD (112 * k + j) 0 := by
  simp only [List.getD]
  rw [List.getElem?_take_of_lt (by omega), List.getElem?_drop]
 simp only [this]
theorem results_cell1 {fn : Func} {p : Tmp} {t1 : TypeId} (h : fn.results = #[.cell p t1]) (tmps : Array Value) (P : Program) (w : World) :
  (results fn tmps).run P w = ((asAddr (tmps.getD p undef)).run P w).andThen fun a w₁ => (loadVar t1 a).run P w₁ := by
 simp only [results, h]
 simp [Sem.run_bind, Result.andThen]
theorem load_errno (b : Nat) (v : Value) (w : World) (h : w.cell? ⟨b, 0, none⟩ = some v) : (loadVar 25 ⟨b, 0, none⟩).run Tryz.prog w = .ok v w := by go_simp
theorem wt_end {w wl WF : World} {B p S D : Nat} {pv : Value} {r : Int × DS} {pv' : Value} (hd : DiskAt WF B p S pv' r.2) (hp : ∀ b, pv'.ownBlock = some b → pv.ownBlock = some b ∨ wl.heap.size ≤ b) (ho : Only (diskB p S pv) w WF) (hw : w.heap.size ≤ wl.heap.size) (hD : wl.heap.size ≤ D) (hK : WF.heap[D]? = some (.deferred (some []))) :
  WrIs w B p S pv r (.returned (.int .i64 r.1)) (WF.putObj D (.deferred none)) := by
 have oG : Only (fun k => k = D) WF (WF.putObj D (.deferred none)) := (Only.refl _ WF).grown (grownBy_putObj' WF D _) (fun k e _ => by injection e with e; exact e.symm)
 refine ⟨rfl, pv', hd.frame oG (fun k hk e => ?_), ho.trans oG (fun k hk e => by omega), fun b hb => ?_⟩
 ·subst e
  have := disk_not_row hd hk hK
  cases this
 ·rcases hp b hb with e | e
  ·exact .inl e
  ·exact .inr (by omega)
theorem alloc5 (w : World) (o1 o2 o3 o4 o5 : Obj) : (((((w.alloc o1).alloc o2).alloc o3).alloc o4).alloc o5).heap[w.heap.size]? = some o1 ∧ (((((w.alloc o1).alloc o2).alloc o3).alloc o4).alloc o5).heap[w.heap.size + 1]? = some o2 ∧
  (((((w.alloc o1).alloc o2).alloc o3).alloc o4).alloc o5).heap[w.heap.size + 2]? = some o3 ∧ (((((w.alloc o1).alloc o2).alloc o3).alloc o4).alloc o5).heap[w.heap.size + 3]? = some o4 ∧ (((((w.alloc o1).alloc o2).alloc o3).alloc o4).alloc o5).heap[w.heap.size + 4]? = some o5 ∧
  (((((w.alloc o1).alloc o2).alloc o3).alloc o4).alloc o5).heap.size = w.heap.size + 5 := by
 have n2 := heap_alloc_new (w.alloc o1) o2
 have n3 := heap_alloc_new ((w.alloc o1).alloc o2) o3
 have n4 := heap_alloc_new (((w.alloc o1).alloc o2).alloc o3) o4
 have n5 := heap_alloc_new ((((w.alloc o1).alloc o2).alloc o3).alloc o4) o5
 simp only [World.size_alloc] at n2 n3 n4 n5
 refine ⟨?_, ?_, ?_, ?_, n5, by simp⟩
 ·rw [Below.heap_alloc _ _ _ (by simp <;> omega), Below.heap_alloc _ _ _ (by simp <;> omega), Below.heap_alloc _ _ _ (by simp <;> omega), Below.heap_alloc _ _ _ (by simp)]
  exact heap_alloc_new w o1
 ·rw [Below.heap_alloc _ _ _ (by simp <;> omega), Below.heap_alloc _ _ _ (by simp <;> omega), Below.heap_alloc _ _ _ (by simp)]
  exact n2
 ·rw [Below.heap_alloc _ _ _ (by simp <;> omega), Below.heap_alloc _ _ _ (by simp)]
  exact n3
 ·rw [Below.heap_alloc _ _ _ (by simp)]
  exact n4
theorem wtab_core (p S B : Nat) (pv : Value) (d : DS) (a1 a2 : Option Addr) (c1 c2 : Nat) (tab at_ : List Nat) (w : World) (h : DiskAt w B p S pv d) (hB : B ≤ w.heap.size) (hb : ByteD d) (hg : Good d) (hp : d.pend.length ≤ 10000000000)
  (ht : BytesAt w (.slice a1 tab.length c1) tab) (htl : tab.length ≤ 100000) (ha : IntsAt w (.slice a2 at_.length c2) at_) (hal : at_.length = tabN tab.length) (hat : ∀ t ∈ at_, t < 2048)
  (ht2 : ∀ b, (Value.slice a1 tab.length c1).ownBlock = some b → b < w.heap.size ∧ ¬ diskB p S pv b) (ha2 : ∀ b, (Value.slice a2 at_.length c2).ownBlock = some b → b < w.heap.size ∧ ¬ diskB p S pv b) :
  CallsIn Fence.wide 6 Tryz.prog 84 #[.pointer (some ⟨p, 0, none⟩), .slice a1 tab.length c1, .slice a2 at_.length c2] w fun e w' => Hid (WrIs w B p S pv (wtR tab at_ d (List.range (tabN tab.length))).2 e w') := by
 have hlt := h.lt
 have HAL : Hid (at_.length = tabN tab.length) := hal
 have hd0 : ∀ k, diskB p S pv k → k < w.heap.size := fun k hk => (hlt k hk).2
 obtain ⟨g1, o1, ha1⟩ : ∃ g1 o1, (a1 = some ⟨g1, o1, none⟩ ∧ tab.length ≤ c1) ∨ tab.length = 0 := by
  rcases ht.1 with ⟨_, h0⟩ | ⟨ad, c, e1, hk, hc⟩
  ·exact ⟨0, 0, .inr h0⟩
  ·by_cases h0 : tab.length = 0
   ·exact ⟨0, 0, .inr h0⟩
   ·obtain ⟨g, o, c', e2, _, _⟩ := ht.1.at (by omega)
    injection e2 with e2 _ e3
    exact ⟨g, o, .inl ⟨e2, by injection e1 with _ _ e1; rw [e1]; exact hk⟩⟩
 obtain ⟨M, hM⟩ : ∃ M, M = at_.length := ⟨_, rfl⟩
 obtain ⟨T, hT⟩ : ∃ T, T = tab.length := ⟨_, rfl⟩
 have HM : Hid (M = at_.length) := hM
 have HT : Hid (T = tab.length) := hT
 have HA1 : Hid ((a1 = some ⟨g1, o1, none⟩ ∧ tab.length ≤ c1) ∨ tab.length = 0) := ha1
 have HH : Hid (DiskAt w B p S pv d ∧ BytesAt w (.slice a1 tab.length c1) tab ∧ IntsAt w (.slice a2 at_.length c2) at_) := ⟨h, ht, ha⟩
 rw [← hM, ← hT]
 rw [← hT] at ht2
 rw [← hM] at ha2
 clear hal ha1 hM hT h ht ha
 refine callsIn_of_wp_marks Tryz.func84 rfl trivial ?_ rfl
 simp only [Tryz.ntmps84, List.size_toArray, List.length_cons, List.length_nil, Nat.reduceAdd, Nat.reduceSub, Array.replicate_succ, Array.replicate_zero, List.push_toArray, List.append_toArray, List.nil_append, List.cons_append]
 gi_wp2_with fail
 refine ⟨trivial, (chunk_in 5 a1 T c1 _).mono ?_⟩
 rintro e wl ⟨rfl, hwl⟩
 obtain ⟨b0, b1, b2, b3, b4, sl⟩ := alloc5 w (.cells #[.pointer (some ⟨p, 0, none⟩)] 24) (.cells #[.slice a2 M c2] 76) (.cells #[.int .i64 0] 25) (.cells #[.slice a1 T c1] 37) (.cells #[.int .i64 112] 3)
 rw [← hwl] at b0 b1 b2 b3 b4 sl
 have ol : Only (fun _ => False) w wl := by rw [hwl]; exact ((((((Only.refl _ w).alloc _).alloc _).alloc _).alloc _).alloc _)
 have e3 : (((w.alloc (.cells #[.pointer (some ⟨p, 0, none⟩)] 24)).alloc (.cells #[.slice a2 M c2] 76)).alloc (.cells #[.int .i64 0] 25)).heap.size = w.heap.size + 3 := by simp
 rw [e3]
 clear hwl e3
 obtain ⟨N, hN⟩ : ∃ N, N = w.heap.size := ⟨_, rfl⟩
 rw [← hN] at b0 b1 b2 b3 b4 sl ⊢
 have HN : Hid (N = w.heap.size) := hN
 have hNw : w.heap.size = N := hN.symm
 have hI0 : WtI w wl B p S pv d tab at_ (N + 1) (Value.slice a2 M c2).ownBlock [] wl := by
  obtain ⟨h, ht, ha⟩ := HH.out
  refine { ok := rfl, disk := ⟨pv, h.frame ol (fun _ _ e => e), fun b hb => .inl hb⟩, box := ⟨_, b1, ?_, fun b hb => hb⟩, keep := fun _ _ _ _ => rfl, only := ol.mono (fun _ _ e => e.elim), size := Nat.le_refl _ }
  have := ha
  rw [← HM.out] at this
  simpa [IntsAt, HM.out] using this
 clear hN
 gi_wp2
 refine wpIn_rangeFunc_ownG (w := wl) rfl (by omega) (gf := 127) (lb := #[.pointer (some ⟨N + 3, 0, none⟩), .pointer (some ⟨N + 3 + 1, 0, none⟩)]) rfl trivial (enters_of Tryz.func127 (by kernel_rfl) rfl)
  (chunk_stops 5 (N + 3) (N + 3 + 1) g1 o1 T c1 a1 wl (by rw [HT.out]; exact htl) (by rw [HT.out]; exact HA1.out) (Boxed.cell b3) (Boxed.cell b4)) (fun h k => ⟨k.1.trans h.1, k.2.trans h.2⟩) ?hKb (Below.refl _ _) (fun _ => rfl)
  (fun pre W => WtI w wl B p S pv d tab at_ (N + 1) (Value.slice a2 M c2).ownBlock pre W) (fun c pre W => c = .ret ∧ WtX w wl B p S pv d tab at_ (N + 2) pre W) ?hI ?hIx hI0
  (fun x => { tmps := #[.pointer (some ⟨p, 0, none⟩), .slice a1 T c1, .slice a2 M c2, .pointer (some ⟨N, 0, none⟩), undef, .pointer (some ⟨N + 1, 0, none⟩), .pointer (some ⟨N + 1 + 1, 0, none⟩), chV g1 o1 T x, undef, undef, undef, undef, .slice a1 T c1, .func (.func 127) #[] #[.pointer (some ⟨N + 3, 0, none⟩), .pointer (some ⟨N + 3 + 1, 0, none⟩)], chV g1 o1 T x, undef, undef, undef, undef, undef, undef, undef, undef, undef, undef, undef, undef, undef, undef, undef, undef, undef, undef, undef, undef, undef], defers := [] }) ?assign ?body ?done ?stop
 case hKb =>
  intro W l0 o o' hl0 hw0 ho1 ho2
  have e1 : ∀ k, k < wl.heap.size → (W.putObj l0 o').heap[k]? = W.heap[k]? := fun k hk => (grownBy_putObj' W l0 o').block k (by have := (Array.getElem?_eq_some_iff.1 hw0).1; omega) (fun e => by cases e; omega)
  exact ⟨e1 _ (by omega), e1 _ (by omega)⟩
 case hI => exact fun pre W W' row hs hg' hr => hs.frame hd0 (by omega) (by omega) hg' hr
 case hIx => exact fun c pre W W' row hs hg' hr => ⟨hs.1, hs.2.frame (by omega) (by omega) hg' hr⟩
 case assign =>
  intro l0 x W K hK
  simp only [chEnc, List.zip_toArray, List.zip_cons_cons, List.zip_nil_right, List.foldl_toArray, List.foldl_cons, List.foldl_nil, List.setIfInBounds_toArray, List.set_cons_zero, List.set_cons_succ]
  gi_wp2
  exact hK
 case body =>
  rintro l0 pre x W hI hlen
  obtain ⟨h0, ht0, ha0⟩ := HH.out
  obtain ⟨j, hj⟩ : ∃ j, j = pre.length := ⟨_, rfl⟩
  have hjM : j < M := by rw [HM.out, HAL.out, ← HT.out, hj]; exact hlen
  obtain ⟨bv, hbv, hrow, hbb⟩ := hI.box
  rw [← hj, ← HM.out] at hrow
  have hTp : tab.length ≠ 0 := by
   intro e
   have := HAL.out
   rw [← HM.out, e] at this
   simp [tabN] at this
   omega
  obtain ⟨rfl, hc1⟩ : a1 = some ⟨g1, o1, none⟩ ∧ tab.length ≤ c1 := HA1.out.resolve_right hTp
  obtain ⟨g, o, c, rfl, hcw, hgl⟩ := hrow.at (by omega)
  have hkc : M - j ≤ c := by
   rcases hrow with ⟨e, _⟩ | ⟨ad, c', e, hk', _⟩
   ·cases e
   ·injection e with _ _ e; omega
  obtain ⟨hg1, hg2⟩ := ha2 g (hbb g rfl)
  obtain ⟨t1, t2⟩ := ht2 g1 rfl
  obtain ⟨a3, c3, hsl, ha3, hc3⟩ := slice_rest g o (M - j) c (by omega) hkc
  have hq0 : W.cell? ⟨g, o, none⟩ = some (.int .i64 (at_.getD j 0 : Nat)) := hI.only.cell (hcw 0 (by omega)) hg2
  have hbx := hbv.cell
  have hrest : IntsAt W (.slice a3 (M - j - 1) c3) (at_.drop (j + 1)) := by
   have hl : (at_.drop (j + 1)).length = M - j - 1 := by rw [List.length_drop, ← HM.out]; omega
   unfold IntsAt
   rw [hl]
   rcases ha3 with rfl | ⟨e, rfl⟩
   ·refine .inr ⟨⟨g, o + 1, none⟩, c3, rfl, hc3, fun i hi => ?_⟩
    rw [Addr.add_mid, show o + 1 + i = o + (1 + i) by omega]
    have := hI.only.cell (hcw (1 + i) (by omega)) hg2
    rw [this]
    simp [List.getD, Nat.add_assoc]
   ·exact .inr ⟨⟨g, o, none⟩, c3, rfl, hc3, fun i hi => by omega⟩
  have hrw : RowAt w (.slice a3 (M - j - 1) c3) (M - j - 1) 1 (fun i => .int .i64 (at_.getD (j + 1 + i) 0 : Nat)) := by
   rcases ha3 with rfl | ⟨e, rfl⟩
   ·refine .inr ⟨⟨g, o + 1, none⟩, c3, rfl, hc3, fun i hi => ?_⟩
    rw [Addr.add_mid, show o + 1 + i = o + (1 + i) by omega, hcw (1 + i) (by omega)]
    show some (Value.int .i64 (at_.getD (j + (1 + i)) 0 : Nat)) = some (Value.int .i64 (at_.getD (j + 1 + i) 0 : Nat))
    rw [Nat.add_assoc]
   ·exact .inr ⟨⟨g, o, none⟩, c3, rfl, hc3, fun i hi => by omega⟩
  have HRW : Hid (RowAt w (.slice a3 (M - j - 1) c3) (M - j - 1) 1 (fun i => .int .i64 (at_.getD (j + 1 + i) 0 : Nat))) := hrw
  clear hrw
  have hchunk : BytesAt W (chV g1 o1 T x) ((tab.drop (112 * x)).take 112) := by
   have hb' : BytesAt W (.slice (some ⟨g1, o1, none⟩) T c1) tab := by rw [HT.out]; exact ht0.keep hI.only (fun b e => by injection e with e; rw [← e]; exact t2)
   exact chV_bytes hb' HT.out.symm x
  obtain ⟨t0, ht0e⟩ : ∃ t0, t0 = at_.getD j 0 := ⟨_, rfl⟩
  obtain ⟨h2, hh2⟩ : ∃ h2, h2 = at_.getD (j + 1) 0 := ⟨_, rfl⟩
  have hh2e : (at_.drop (j + 1)).getD 0 0 = h2 := by rw [hh2]; simp [List.getD]
  have hh2l : h2 < 2048 := by
   rw [hh2]
   simp only [List.getD]
   rcases Nat.lt_or_ge (j + 1) at_.length with hl | hl
   ·rw [List.getElem?_eq_getElem hl]; exact hat _ (List.getElem_mem hl)
   ·rw [List.getElem?_eq_none hl]; simp
  rw [← ht0e] at hq0
  obtain ⟨Z, hZ⟩ : ∃ Z, Z = (BL (List.replicate 116 0)).toArray := ⟨_, rfl⟩
  have hmk : ∀ w, (Instr.makeSlice 37 (.int .i64 4) (.int .i64 116)).run Tryz.prog w = .ok (.slice (some ⟨w.heap.size, 0, none⟩) 4 116) (w.alloc (.cells Z 5)) := fun w => by rw [hZ]; exact make_tab w
  obtain ⟨W1, hW1⟩ : ∃ q, q = W.alloc (.cells Z 5) := ⟨_, rfl⟩
  have oW1 : Only (fun _ => False) W W1 := by rw [hW1]; exact (Only.refl _ W).alloc _
  have bW1 : Blk W1 W.heap.size (List.replicate 116 0) := by rw [hW1, hZ]; exact blk_zeros 116 (by omega) W
  have HHd : Hid (Calls Tryz.prog 85 #[.slice a3 (M - j - 1) c3] W1.drew fun e w' => e = .returned (.int .u32 (h2 : Nat)) ∧ w' = W1.drew) := by
   rw [← hh2e]
   exact head_any _ _ W1.drew (RowAt.keep hrest (oW1.drew) (fun _ _ e => e)) (fun t ht => hat t (List.mem_of_mem_drop ht))
  have HLy : Hid (Calls Tryz.prog 66 _ _ _) := slay_hid W.heap.size 0 4 116 h2 _ W1.drew bW1 (by simp) (by omega) (by omega)
  have h64 : IntKind.u64.wrap (h2 : Int) = (h2 : Int) := by rw [IntKind.wrap_u64]; omega
  have HW1 : Hid (W1 = W.alloc (.cells Z 5)) := hW1
  have HO1 : Hid (Only (fun _ => False) W W1) := oW1
  have k1 : (0 : Int) < ((M - j : Nat) : Int) := by omega
  have k2 : ¬ M - j = 0 := by omega
  have HI : Hid (WtI w wl B p S pv d tab at_ (N + 1) (Value.slice a2 M c2).ownBlock pre W) := hI
  have HRS : Hid (IntsAt W (.slice a3 (M - j - 1) c3) (at_.drop (j + 1))) := hrest
  have HCH : Hid (BytesAt W (chV g1 o1 T x) ((tab.drop (112 * x)).take 112)) := hchunk
  have HX : Hid (t0 = at_.getD j 0 ∧ h2 = at_.getD (j + 1) 0 ∧ j = pre.length ∧ j < M) := ⟨ht0e, hh2, hj, hjM⟩
  have HA3 : Hid (∀ b, (Value.slice a3 (M - j - 1) c3).ownBlock = some b → (Value.slice a2 M c2).ownBlock = some b) := fun b hb => by
   rcases ha3 with rfl | ⟨_, rfl⟩
   ·injection hb with hb; rw [← hb]; exact hbb g rfl
   ·injection hb with hb; rw [← hb]; exact hbb g rfl
  clear hI hrest hchunk ht0e hh2 hj hjM hh2e hrow hbb hbv hcw ha3 hW1 oW1 bW1 hZ
  gi_wp2
  refine wpIn_region_round (S := fun w' => w'.cell? ⟨N + 1, 0, none⟩ = some (.slice (some ⟨g, o, none⟩) (M - j) c) ∧ w'.cell? ⟨g, o, none⟩ = some (.int .i64 (t0 : Nat))) (by kernel_rfl) (by kernel_rfl) ?hQ ?hS (fun hHeld => ?_)
  case hQ => rintro ⟨_, _, h⟩; exact h
  case hS => exact ⟨hbx, hq0⟩
  refine t8 (i := 0) (v := .slice (some ⟨g, o, none⟩) (M - j) c) rfl hHeld ?_
  simp only [Act.put, z9]
  refine t8 (i := 1) (v := .pointer (some ⟨g, o, none⟩)) rfl hHeld ?_
  simp only [Act.put, z9]
  refine t8 (i := 2) (v := .int .i64 (t0 : Nat)) rfl hHeld ?_
  simp only [Act.put, z9]
  refine t8 (i := 3) (v := .slice (some ⟨g, o, none⟩) (M - j) c) rfl hHeld ?_
  simp only [Act.put, z9]
  refine t8 (i := 4) (v := .slice a3 (M - j - 1) c3) rfl hHeld ?_
  simp only [Act.put, z9]
  refine t8 (i := 5) (v := .int .i64 (t0 : Nat)) rfl hHeld ?_
  simp only [Act.put, z9]
  refine t8 (i := 6) (v := .slice a3 (M - j - 1) c3) rfl hHeld ?_
  simp only [Act.put, z9]
  refine wpAnyH_done (by kernel_rfl) ?_ _
  gi_wp2_with fail
  rw [← HW1.out]
  refine ⟨trivial, CallsIn.inRound l0 ((callsIn_wide (n := 3)).2 ((show Calls Tryz.prog 85 _ _ _ from HHd.out).mono ?_))⟩
  rintro e wz ⟨rfl, rfl⟩
  clear HHd hmk
  gi_wp2_with fail
  refine ⟨trivial, CallsIn.inRound l0 ((callsIn_wide (n := 3)).2 ((show Calls Tryz.prog 66 _ _ _ from HLy.out).mono ?_))⟩
  rintro e W2 ⟨rfl, HB2⟩
  clear HLy hsl h64 hq0 hbx
  have hI := HI.out
  obtain ⟨pv', hd', hp'⟩ := hI.disk
  obtain ⟨bB2, oB2, sB2⟩ := HB2.out
  have hsz := hI.size
  have oW2 : Only (fun k => k = W.heap.size) W W2 := (((HO1.out.mono (fun _ _ e => e.elim)).drew).trans oB2 (fun _ _ e => e))
  have oW2' : Only (fun _ => False) W W2 := oW2.mono (fun k hk e => by omega)
  have hGl : W.heap.size < W2.heap.size := bB2.lt
  have hch112 : ((tab.drop (112 * x)).take 112).length ≤ 112 := by rw [List.length_take]; omega
  obtain ⟨a5, c5, W3, hr5, hf5, ho5⟩ := app_fresh (w := W2.drew) (laid_fresh bB2) (HCH.out.keep (oW2'.drew) (fun _ _ e => e)) (by show W.heap.size ≤ W2.heap.size; omega) (by rw [layB_length]; omega)
  rw [layB_length] at hr5 hf5
  have oW3 : Only (fun _ => False) W W3 := (oW2'.drew).trans ho5 (fun k hk e => by omega)
  have hd3 : DiskAt W3 B p S pv' (wtR tab at_ d pre).2.2 := hd'.frame oW3 (fun _ _ e => e)
  have hfx := wtF_facts tab at_ ht0.2.2 pre (0, 0, d) hb hg
  have hlen2 : pre.length ≤ 2048 := by
   have e1 := HX.out.2.2
   have e2 := HAL.out
   rw [← HM.out] at e2
   have : M ≤ 1000 := by rw [e2]; unfold tabN; omega
   omega
  have hpd : (wtR tab at_ d pre).2.2.pend.length ≤ d.pend.length + 4 * pre.length := hfx.2.2
  have hBW : B ≤ W3.heap.size := by have := hI.only.size; have := oW3.size; omega
  have hWr : Calls Tryz.prog 82 #[.pointer (some ⟨p, 0, none⟩), .int .i64 (t0 : Nat), .int .u32 2, .slice a5 (4 + ((tab.drop (112 * x)).take 112).length) c5] W3 fun e w' => WrIs W3 B p S pv' ((wtR tab at_ d pre).2.2.wpage (t0 : Nat) 2 (layB h2 4 ++ (tab.drop (112 * x)).take 112)) e w' :=
   pwrite_all p S B (t0 : Nat) 2 pv' _ _ _ W3 hd3 hBW hf5.bytes (by omega) (by omega) hfx.1 hfx.2.1
  have HWr : Hid (Calls Tryz.prog 82 _ _ _) := hWr
  have cN : W2.cell? ⟨N, 0, none⟩ = some (.pointer (some ⟨p, 0, none⟩)) := oW2'.cell (by have := hI.keep N (by omega) (by omega) (by omega); exact (World.cell?_of_block (w := wl) this).trans (Boxed.cell b0)) (fun e => e)
  have cN3 : W3.cell? ⟨N, 0, none⟩ = some (.pointer (some ⟨p, 0, none⟩)) := ho5.cell (w := W2.drew) cN (by have := hI.only.size; simp; omega)
  obtain ⟨q5, hq5⟩ : ∃ q, q = 4 + ((tab.drop (112 * x)).take 112).length := ⟨_, rfl⟩
  obtain ⟨rr, hrr⟩ : ∃ r, r = (wtR tab at_ d pre).2.2.wpage (t0 : Nat) 2 (layB h2 4 ++ (tab.drop (112 * x)).take 112) := ⟨_, rfl⟩
  rw [← hq5] at hr5 HWr
  rw [← hrr] at HWr
  have HRR : Hid (rr = (wtR tab at_ d pre).2.2.wpage (t0 : Nat) 2 (layB h2 4 ++ (tab.drop (112 * x)).take 112)) := hrr
  have HR5 : Hid _ := hr5
  have HOW3 : Hid (Only (fun _ => False) W W3) := oW3
  have HPV : Hid (DiskAt W B p S pv' (wtR tab at_ d pre).2.2 ∧ ∀ b, pv'.ownBlock = some b → pv.ownBlock = some b ∨ wl.heap.size ≤ b) := ⟨hd', hp'⟩
  clear hI hd' hp' bB2 oB2 sB2 oW2 oW2' hGl hf5 ho5 oW3 hd3 hfx hlen2 hpd hch112 hBW hWr hq5 hrr hr5 HB2
  gi_wp2
  refine wpIn_region_round (S := fun w' => w'.cell? ⟨N, 0, none⟩ = some (.pointer (some ⟨p, 0, none⟩))) (by kernel_rfl) (by kernel_rfl) ?hQ ?hS (fun hHeld => ?_)
  case hQ => rintro ⟨_, _, h⟩; exact h
  case hS => exact cN
  refine t8 (i := 0) (v := .pointer (some ⟨p, 0, none⟩)) rfl hHeld ?_
  simp only [Act.put, z9]
  refine t8 (i := 1) (v := .int .i64 (t0 : Nat)) rfl hHeld ?_
  simp only [Act.put, z9]
  refine t8 (i := 2) (v := .slice (some ⟨W.heap.size, 0, none⟩) 4 116) rfl hHeld ?_
  simp only [Act.put, z9]
  refine t8 (i := 3) (v := chV g1 o1 T x) rfl hHeld ?_
  simp only [Act.put, z9]
  refine wpAnyH_ready (rs := [4]) (by kernel_rfl) (by simp) ?_
  refine AllReadyH.cons rfl (fun K hK => ?_) AllReadyH.nil
  rw [if_pos (by rfl)]
  refine wp_append_run _ _ 37 rfl _ _ (.slice a5 q5 c5) rfl rfl (HR5.out _) ?_
  refine hK _ _ cN3 (fun hHeld => ?_)
  clear hK K
  simp only [Act.put, z9]
  refine wpAnyH_ready (rs := [5]) (by kernel_rfl) (by simp) ?_
  refine AllReadyH.cons rfl (fun K hK => ?_) AllReadyH.nil
  rw [if_pos (by rfl)]
  refine wp_call_func #[.tmp 26, .tmp 27, .const (.int .u32 2), .tmp 30] #[24, 3, 72, 37] rfl #[.pointer (some ⟨p, 0, none⟩), .int .i64 (t0 : Nat), .int .u32 2, .slice a5 q5 c5] (by simp [Act.eval]) (enters_of Tryz.func82 (by kernel_rfl) rfl) (show Calls Tryz.prog 82 _ _ _ from HWr.out) (fun e W4 he => ?_)
  obtain ⟨rfl, pv4, hd4, ho4, hp4⟩ := he
  have hnd : ∀ k, N ≤ k → k < wl.heap.size → ¬ diskB p S pv' k := fun k h1 h2 e => by
   rcases e with e | e | e
   ·have := hd0 p (.inl rfl); omega
   ·have := hd0 S (.inr (.inl rfl)); omega
   ·rcases HPV.out.2 k e with e | e
    ·have := hd0 k (.inr (.inr e)); omega
    ·omega
  have cN4 : W4.cell? ⟨N, 0, none⟩ = some (.pointer (some ⟨p, 0, none⟩)) := ho4.cell cN3 (hnd N (by omega) (by omega))
  refine ⟨_, rfl, hK _ _ cN4 (fun hHeld => ?_)⟩
  clear hK K
  simp only [Act.put, z9]
  refine t8 (i := 6) (v := .int .i64 rr.1) rfl hHeld ?_
  simp only [Act.put, z9]
  refine wpAnyH_done (by kernel_rfl) ?_ _
  have hI := HI.out
  have hsz := hI.size
  have hosz := HOW3.out.size
  have ho4s := ho4.size
  have hstep : wtR tab at_ d (pre ++ [x]) = (pre.length + 1, rr) := by
   rw [wtR_snoc]
   unfold wtStep
   rw [wtR_fst, if_neg (by simpa using hI.ok), HRR.out, HX.out.1, HX.out.2.1, HX.out.2.2.1]
  have hkp4 : ∀ k, N ≤ k → k < wl.heap.size → W4.heap[k]? = W.heap[k]? := fun k h1 h2 => by
   rw [ho4.block k (by omega) (hnd k h1 h2), HOW3.out.block k (by omega) (fun e => e)]
  have hown4 : ∀ b, pv4.ownBlock = some b → pv.ownBlock = some b ∨ wl.heap.size ≤ b := fun b hb' => by
   rcases hp4 b hb' with e | e
   ·exact HPV.out.2 b e
   ·exact .inr (by omega)
  have honly4 : Only (diskB p S pv) w W4 := (hI.only.trans HOW3.out (fun _ _ e => e.elim)).trans ho4 (fun k hk e => by
   rcases e with e | e | e
   ·exact .inl e
   ·exact .inr (.inl e)
   ·rcases HPV.out.2 k e with e | e
    ·exact .inr (.inr e)
    ·omega)
  have hkeep4 : KeepsFrom wl.heap.size W W4 := ⟨by omega, fun k ob hk hob hnc => by
   rw [ho4.block k (by have := (Array.getElem?_eq_some_iff.1 hob).1; omega) (fun e => by
    have := disk_not_row HPV.out.1 e hob
    rw [this] at hnc
    cases hnc), HOW3.out.block k (Array.getElem?_eq_some_iff.1 hob).1 (fun e => e)]
   exact hob⟩
  have H4 : Hid (DiskAt W4 B p S pv4 rr.2 ∧ (∀ b, pv4.ownBlock = some b → pv.ownBlock = some b ∨ wl.heap.size ≤ b) ∧ Only (diskB p S pv) w W4 ∧ KeepsFrom wl.heap.size W W4 ∧ wl.heap.size ≤ W4.heap.size) := ⟨hd4, hown4, honly4, hkeep4, by omega⟩
  have HST : Hid (wtR tab at_ d (pre ++ [x]) = (pre.length + 1, rr)) := hstep
  have HKP4 : Hid (∀ k, N ≤ k → k < wl.heap.size → W4.heap[k]? = W.heap[k]?) := hkp4
  obtain ⟨bv2, hbv2, _, _⟩ := hI.box
  have bb : Boxed W4 (N + 1) 76 bv2 := (hkp4 _ (by omega) (by omega)).trans hbv2
  have br : Boxed W4 (N + 1 + 1) 25 (.int .i64 0) := ((hkp4 _ (by omega) (by omega)).trans (hI.keep _ (by omega) (by omega) (by omega))).trans b2
  clear hI hd4 ho4 hp4 hnd cN cN3 cN4 hHeld hstep hkp4 hown4 honly4 hkeep4 hosz ho4s HWr HR5
  by_cases hz : rr.1 = 0
  ·have hcb := bb.cell
   have hfb := bb.frozen
   clear br
   gi_wp2
   obtain ⟨W5, hW5⟩ : ∃ q, q = W4.setCell ⟨N + 1, 0, none⟩ (.slice a3 (M - j - 1) c3) := ⟨_, rfl⟩
   rw [← hW5]
   have o5 : Only (fun k => k = N + 1) W4 W5 := by rw [hW5]; exact (Only.refl _ W4).setCell _ _ (fun _ => rfl)
   have b5 : Boxed W5 (N + 1) 76 (.slice a3 (M - j - 1) c3) := by rw [hW5]; exact bb.set _
   clear hW5 hcb hfb
   obtain ⟨hd4, hown4, honly4, hkeep4, hs4⟩ := H4.out
   have s5 := o5.size
   have hI := HI.out
   have hdF : DiskAt W5 B p S pv4 rr.2 := hd4.frame o5 (fun k hk e => by
    subst e
    rcases hk with e | e | e
    ·have := hd0 p (.inl rfl); omega
    ·have := hd0 S (.inr (.inl rfl)); omega
    ·rcases hown4 _ e with e | e
     ·have := hd0 _ (.inr (.inr e)); omega
     ·omega)
   refine ⟨hkeep4.trans (o5.keeps (by omega)), ⟨?_, ?_⟩, ?_⟩
   ·rw [o5.block _ (by omega) (by omega)]; exact HKP4.out _ (by omega) (by omega)
   ·rw [o5.block _ (by omega) (by omega)]; exact HKP4.out _ (by omega) (by omega)
   ·refine { ok := by rw [HST.out]; exact hz, disk := ⟨pv4, by rw [HST.out]; exact hdF, hown4⟩, box := ⟨_, b5, ?_, HA3.out⟩, keep := fun k q1 q2 q3 => ?_, only := honly4.trans o5 (fun k hk e => by omega), size := by omega }
    ·have e1 : at_.length - (pre ++ [x]).length = M - j - 1 := by rw [← HM.out, List.length_append, ← HX.out.2.2.1]; simp; omega
     rw [e1, List.length_append, ← HX.out.2.2.1]
     exact HRW.out
    ·rw [o5.block k (by omega) q3, HKP4.out k (by omega) q2]
     exact hI.keep k q1 q2 q3
  ·have hcb := br.cell
   have hfb := br.frozen
   have hz' : (rr.1 == 0) = false := by simpa using hz
   gi_wp2
   obtain ⟨W5, hW5⟩ : ∃ q, q = W4.setCell ⟨N + 1 + 1, 0, none⟩ (.int .i64 rr.1) := ⟨_, rfl⟩
   rw [← hW5]
   have o5 : Only (fun k => k = N + 1 + 1) W4 W5 := by rw [hW5]; exact (Only.refl _ W4).setCell _ _ (fun _ => rfl)
   have b5 : Boxed W5 (N + 1 + 1) 25 (.int .i64 rr.1) := by rw [hW5]; exact br.set _
   clear hW5 hcb hfb
   obtain ⟨hd4, hown4, honly4, hkeep4, hs4⟩ := H4.out
   have s5 := o5.size
   have hdF : DiskAt W5 B p S pv4 rr.2 := hd4.frame o5 (fun k hk e => by
    subst e
    rcases hk with e | e | e
    ·have := hd0 p (.inl rfl); omega
    ·have := hd0 S (.inr (.inl rfl)); omega
    ·rcases hown4 _ e with e | e
     ·have := hd0 _ (.inr (.inr e)); omega
     ·omega)
   refine ⟨hkeep4.trans (o5.keeps (by omega)), rfl, ?_⟩
   exact { bad := by rw [HST.out]; exact hz, disk := ⟨pv4, by rw [HST.out]; exact hdF, hown4⟩, res := by rw [HST.out]; exact b5, only := honly4.trans o5 (fun k hk e => by omega), size := by omega }
 case done =>
  rintro D ys W hD rfl hI hK
  have br : Boxed W (N + 2) 25 (.int .i64 0) := (hI.keep _ (by omega) (by omega) (by omega)).trans b2
  have hc : W.cell? ⟨N + 1 + 1, 0, none⟩ = some (.int .i64 0) := br.cell
  have hf : W.frozen? ⟨N + 1 + 1, 0, none⟩ = false := br.frozen
  obtain ⟨pv', hd', hp'⟩ := hI.disk
  have hok := hI.ok
  have hho := hI.only
  clear hI
  gi_wp2
  obtain ⟨WF, hWF⟩ : ∃ x, x = W.setCell ⟨N + 1 + 1, 0, none⟩ (.int .i64 0) := ⟨_, rfl⟩
  rw [← hWF]
  have oF : Only (fun k => k = N + 2) W WF := by rw [hWF]; exact (Only.refl _ W).setCell _ _ (fun _ => rfl)
  have eF : Boxed WF (N + 2) 25 (.int .i64 0) := by rw [hWF]; exact br.set _
  have hKF : WF.heap[D]? = some (.deferred (some [])) := by rw [oF.block D (Array.getElem?_eq_some_iff.1 hK).1 (by omega)]; exact hK
  clear hWF hc hf
  have ndk : ∀ k, diskB p S pv' k → k ≠ N + 2 := fun k hk e => by
   subst e
   rcases hk with e | e | e
   ·have := hd0 p (.inl rfl); omega
   ·have := hd0 S (.inr (.inl rfl)); omega
   ·rcases hp' _ e with e | e
    ·have := hd0 _ (.inr (.inr e)); omega
    ·omega
  refine ⟨by simp, .inl ⟨_, _, rfl, run_takeDeferred hKF, ?_⟩⟩
  have hwr := wt_end (r := (wtR tab at_ d (List.range (tabN T))).2) (hd'.frame oF ndk) hp' (hho.trans oF (fun k hk e => by omega)) (by omega) hD hKF
  rw [hok] at hwr
  have oG : Only (fun k => k = D) WF (WF.putObj D (.deferred none)) := (Only.refl _ WF).grown (grownBy_putObj' WF D _) (fun k e _ => by injection e with e; exact e.symm)
  have g1 := load_errno (N + 2) _ (WF.putObj D (.deferred none)) (oG.cell eF.cell (by simp; omega))
  refine ⟨.int .i64 0, ?_, hwr⟩
  rw [results_cell1 rfl]
  exact g1
 case stop =>
  rintro D c pre W hD ⟨k, hk, rfl⟩ ⟨rfl, hX⟩ hK
  obtain ⟨pv', hd', hp'⟩ := hX.disk
  have hwr := wt_end (r := (wtR tab at_ d (List.range (k + 1))).2) hd' hp' hX.only (by omega) hD hK
  rw [← wt_whole tab at_ d (k + 1) (tabN T) hk hX.bad] at hwr
  have eF := hX.res
  rw [← wt_whole tab at_ d (k + 1) (tabN T) hk hX.bad] at eF
  clear hX hd' hp'
  gi_wp2
  refine ⟨by simp, .inl ⟨_, _, rfl, run_takeDeferred hK, ?_⟩⟩
  have oG : Only (fun k => k = D) W (W.putObj D (.deferred none)) := (Only.refl _ W).grown (grownBy_putObj' W D _) (fun k e _ => by injection e with e; exact e.symm)
  have g1 := load_errno (N + 2) _ (W.putObj D (.deferred none)) (oG.cell eF.cell (by simp; omega))
  refine ⟨_, ?_, hwr⟩
  rw [results_cell1 rfl]
  exact g1
end Go.Proofs.YtlcglapcmdpkfaaGreat
