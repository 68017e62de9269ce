/- What Copy answers: a disk of its own that is the same. -/
import Derived.Test.YtaeghpfncfkgfaaT9
import Derived.Maps.AppendAt
namespace Go.Proofs.Ytaeghpfncfkgfaa
open Go.RowKit
set_option linter.unusedSimpArgs false
set_option linter.unusedVariables false

/-- The cells of all sectors. -/
def allL (n : Nat) (sec : Nat → Nat → Int) : List Value := (List.range (n * 32)).map fun k => .int .u8 (sec (k / 32) (k % 32))
theorem allL_length (n : Nat) (sec : Nat → Nat → Int) : (allL n sec).length = n * 32 := by simp [allL]
theorem allL_get (n : Nat) (sec : Nat → Nat → Int) (i j : Nat) (hi : i < n) (hj : j < 32) : (allL n sec)[i * 32 + j]? = some (.int .u8 (sec i j)) := by
  have h1 : i * 32 + j < n * 32 := by omega
  have h2 : (i * 32 + j) / 32 = i := by omega
  have h3 : (i * 32 + j) % 32 = j := by omega
  simp [allL, h1, h2, h3]
theorem allL_one (n : Nat) (sec : Nat → Nat → Int) : ∀ v ∈ allL n sec, v.oneCell' = true := by
  intro v hv
  simp only [allL, List.mem_map] at hv
  obtain ⟨k, _, rfl⟩ := hv
  rfl
theorem wrsL_one (l : List Wr) : ∀ v ∈ wrsL l, v.oneCell' = true := by
  intro v hv
  simp only [wrsL, List.mem_flatMap] at hv
  obtain ⟨x, _, hx⟩ := hv
  exact wrL_one _ _ _ v hx

theorem empty62 (w : World) : (Instr.buildSlice 62 0 #[]).run Try.prog w = .ok (.slice (some ⟨w.heap.size, 0, none⟩) 0 0) (w.alloc (.cells #[] 68)) := by kernel_rfl
theorem empty63 (w : World) : (Instr.buildSlice 63 0 #[]).run Try.prog w = .ok (.slice (some ⟨w.heap.size, 0, none⟩) 0 0) (w.alloc (.cells #[] 71)) := by kernel_rfl

theorem ownsRow_slice {w : World} {B e size n : Nat} {v : Value} {xs : List Value} (h : w.ownsRow B e size v n xs) : ∃ a c, v = .slice a n c := by
  rcases h.2 with ⟨h1, h2⟩ | ⟨g, cap, cur, h1, _⟩
  · exact ⟨none, 0, by rw [h1, h2]⟩
  · exact ⟨_, _, h1⟩

set_option maxHeartbeats 400000 in
theorem clone62 (S n c : Nat) (news : List Value) (w : World) (h1 : 1 ≤ n) (h2 : n ≤ 8192) (hl : news.length = n * 32) (hn : ∀ j u, news[j]? = some u → w.cell? ((⟨S, 0, none⟩ : Addr).add j) = some u) (ho : ∀ u ∈ news, u.oneCell' = true) :
    Calls Try.prog 27 #[.slice (some ⟨S, 0, none⟩) n c] w fun e w' => ∃ a cap, e = .returned (.slice a n cap) ∧ w'.ownsRow w.heap.size 68 32 (.slice a n cap) n news ∧ Only (fun _ => False) w w' := by
  obtain ⟨i0, hi0, hz0, hz1, hz2⟩ := info_parts info68
  have heq := fun w a n c n' c' => Lib.run_eql_slice_nil (P := Try.prog) w _ _ a n c n' c' Try.underlying62
  have hem := empty62
  have hn2 : ∀ j u, news[j]? = some u → (w.alloc (.cells #[] 68)).cell? ((⟨S, 0, none⟩ : Addr).add j) = some u := fun j u hu => ((Only.refl (fun _ => False) w).alloc _).cell (hn j u hu) (fun e => e)
  have hown : (w.alloc (.cells #[] 68)).ownsRow w.heap.size 68 32 (.slice (some ⟨w.heap.size, 0, none⟩) 0 0) 0 [] := World.ownsRow_made w #[] 0 (Nat.le_refl _) (Nat.zero_le _) rfl
  have HN : Hid _ := hn2
  clear hn hn2
  go_enter Try.func27, Try.ntmps27
  go_wp2_with (at_builtin; refine wpList_append_own_at _ rfl _ _ 62 rfl w.heap.size 68 i0 _ 32 32 Try.underlying62 hi0 hz0 hz1 hz2 (by simp [Value.cells, secL_length]) (by omega) (.slice (some ⟨w.heap.size, 0, none⟩) 0 0) 0 [] rfl hown ⟨S, 0, none⟩ n c news rfl hl HN.out ho (by unfold maxLen; omega) (by omega) (by simp) ?_; intro v' w2 own2 hg2 _ hb2)
  obtain ⟨a, cap, rfl⟩ := ownsRow_slice own2
  go_wp2
  go_ret
  rw [Nat.zero_add] at own2
  refine ⟨a, cap, (by show Ending.returned (.slice a (0 + n) cap) = _; rw [Nat.zero_add]), by simpa using own2, ?_⟩
  exact ((Only.refl (fun _ => False) w).alloc _).grown hg2 (fun k e hk => by simp [Value.ownBlock] at e; omega)

set_option maxHeartbeats 400000 in
theorem clone63 (g m c : Nat) (news : List Value) (w : World) (hm : m * 72 ≤ 140737488355328) (hl : news.length = m * 65) (hn : ∀ j u, news[j]? = some u → w.cell? ((⟨g, 0, none⟩ : Addr).add j) = some u) (ho : ∀ u ∈ news, u.oneCell' = true) :
    Calls Try.prog 28 #[.slice (some ⟨g, 0, none⟩) m c] w fun e w' => ∃ a cap, e = .returned (.slice a m cap) ∧ w'.ownsRow w.heap.size 71 65 (.slice a m cap) m news ∧ Only (fun _ => False) w w' := by
  obtain ⟨i0, hi0, hz0, hz1, hz2⟩ := info_parts info71
  have heq := fun w a n c n' c' => Lib.run_eql_slice_nil (P := Try.prog) w _ _ a n c n' c' Try.underlying63
  have hem := empty63
  have hn2 : ∀ j u, news[j]? = some u → (w.alloc (.cells #[] 71)).cell? ((⟨g, 0, none⟩ : Addr).add j) = some u := fun j u hu => ((Only.refl (fun _ => False) w).alloc _).cell (hn j u hu) (fun e => e)
  have hown : (w.alloc (.cells #[] 71)).ownsRow w.heap.size 71 65 (.slice (some ⟨w.heap.size, 0, none⟩) 0 0) 0 [] := World.ownsRow_made w #[] 0 (Nat.le_refl _) (Nat.zero_le _) rfl
  have HN : Hid _ := hn2
  clear hn hn2
  go_enter Try.func28, Try.ntmps28
  go_wp2_with (at_builtin; refine wpList_append_own_at _ rfl _ _ 63 rfl w.heap.size 71 i0 _ 65 72 Try.underlying63 hi0 hz0 hz1 hz2 (by simp [Value.cells, wrL_length]) (by omega) (.slice (some ⟨w.heap.size, 0, none⟩) 0 0) 0 [] rfl hown ⟨g, 0, none⟩ m c news rfl hl HN.out ho (by unfold maxLen; omega) (by omega) (by simp) ?_; intro v' w2 own2 hg2 _ hb2)
  obtain ⟨a, cap, rfl⟩ := ownsRow_slice own2
  go_wp2
  go_ret
  rw [Nat.zero_add] at own2
  refine ⟨a, cap, (by show Ending.returned (.slice a (0 + m) cap) = _; rw [Nat.zero_add]), by simpa using own2, ?_⟩
  exact ((Only.refl (fun _ => False) w).alloc _).grown hg2 (fun k e hk => by simp [Value.ownBlock] at e; omega)
set_option maxHeartbeats 400000 in
theorem clone63_nil (w : World) : Calls Try.prog 28 #[.slice none 0 0] w fun e w' => e = .returned (.slice none 0 0) ∧ w' = w := by
  have heq := fun w a n c n' c' => Lib.run_eql_slice_nil (P := Try.prog) w _ _ a n c n' c' Try.underlying63
  go_enter Try.func28, Try.ntmps28
  go_wp2
  go_ret
  exact ⟨rfl, rfl⟩
/-- Clone of the pending writes. -/
theorem clone_pend {w : World} {B p S : Nat} {pv : Value} {d : DS} (h : DiskAt w B p S pv d) (W : World) (hW : Only (fun _ => False) w W) (hm : d.pend.length * 72 ≤ 140737488355328) :
    Calls Try.prog 28 #[pv] W fun e w' => ∃ a cap, e = .returned (.slice a d.pend.length cap) ∧ w'.ownsRow W.heap.size 71 65 (.slice a d.pend.length cap) d.pend.length (wrsL d.pend) ∧ Only (fun _ => False) W w' := by
  rcases h.form with ⟨h1, h2⟩ | ⟨g, cap, h1, h2⟩
  · rw [h1, h2]
    refine (clone63_nil W).mono ?_
    rintro e w' ⟨rfl, rfl⟩
    exact ⟨none, 0, rfl, World.ownsRow_nil _ _ _ _, Only.refl _ _⟩
  · rw [h1]
    refine clone63 g d.pend.length cap (wrsL d.pend) W hm (wrsL_length _) (fun j u hu => ?_) (wrsL_one _)
    have ho := h.own
    rw [h1] at ho
    have hj : j < d.pend.length * 65 := by have := (List.getElem?_eq_some_iff.1 hu).1; rwa [wrsL_length] at this
    have e : (⟨g, 0, none⟩ : Addr).add j = ⟨g, j, none⟩ := by rw [Addr.add_mid]; simp
    rw [e]
    exact hW.cell ((ho.cellAt j hj).trans hu) (fun e => e)
theorem clone_secs {w : World} {B p S c : Nat} {pv : Value} {d : DS} (h : DiskAt w B p S pv d) (W : World) (hW : Only (fun _ => False) w W) :
    Calls Try.prog 27 #[.slice (some ⟨S, 0, none⟩) d.n c] W fun e w' => ∃ a cap, e = .returned (.slice a d.n cap) ∧ w'.ownsRow W.heap.size 68 32 (.slice a d.n cap) d.n (allL d.n d.sec) ∧ Only (fun _ => False) W w' := by
  refine clone62 S d.n c (allL d.n d.sec) W h.n1 h.n2 (allL_length _ _) (fun j u hu => ?_) (allL_one _ _)
  have hj : j < d.n * 32 := by have := (List.getElem?_eq_some_iff.1 hu).1; rwa [allL_length] at this
  have e : (⟨S, 0, none⟩ : Addr).add j = ⟨S, j / 32 * 32 + j % 32, none⟩ := by rw [Addr.add_mid]; congr 1; omega
  have hjj : j = j / 32 * 32 + j % 32 := by omega
  rw [e]
  rw [hjj, allL_get _ _ _ _ (by omega) (by omega)] at hu
  exact hW.cell ((h.secs (j / 32) (by omega)).1 (j % 32) _ ((secL_get _ _ (by omega)).trans hu)) (fun e => e)

theorem build65 (a : Option Addr) (n c : Nat) (a' : Option Addr) (n' c' : Nat) (l : Int) (w : World) : (Instr.build 65 #[(0, .slice a n c), (1, .slice a' n' c'), (2, .int .i64 l)]).run Try.prog w = .ok (.agg #[.slice a n c, .slice a' n' c', .int .i64 l]) w := by kernel_rfl

/-- What Copy leaves, by its two steps. -/
def CopyPost (w : World) (d : DS) (e : Ending) (w' : World) : Prop :=
  ∃ (w2 w3 : World) (a a' : Option Addr) (cap cap' : Nat), e = .returned (.pointer (some ⟨w3.heap.size, 0, none⟩)) ∧ Only (fun _ => False) w w2 ∧ Only (fun _ => False) w2 w3 ∧
      w2.ownsRow w.heap.size 68 32 (.slice a d.n cap) d.n (allL d.n d.sec) ∧ w3.ownsRow w2.heap.size 71 65 (.slice a' d.pend.length cap') d.pend.length (wrsL d.pend) ∧
      w' = w3.alloc (.cells #[.slice a d.n cap, .slice a' d.pend.length cap', .int .i64 d.life] 65)
set_option maxRecDepth 100000 in
set_option maxHeartbeats 2000000 in
theorem copy_core (p S B : Nat) (pv : Value) (d : DS) (w : World) (h : DiskAt w B p S pv d) (hm : d.pend.length * 72 ≤ 140737488355328) :
    Calls Try.prog 12 #[.pointer (some ⟨p, 0, none⟩)] w (CopyPost w d) := by
  obtain ⟨c, h0⟩ := h.c0
  have h1 := h.c1
  have h2 := h.c2
  have hb65 := build65
  have oW : Only (fun _ => False) w w.drew := (Only.refl _ w).drew
  go_enter Try.func12, Try.ntmps12
  go_wp2_with fail
  go_region_held3 (fun w' => w'.cell? ⟨p, 0, none⟩ = some (.slice (some ⟨S, 0, none⟩) d.n c) ∧ w'.cell? ⟨p, 1, none⟩ = some pv ∧ w'.cell? ⟨p, 2, none⟩ = some (.int .i64 d.life))
    (first
      | go_keep
      | (go_split_ands
         exact ⟨o3.cell (by assumption) (fun e => e), o3.cell (by assumption) (fun e => e), o3.cell (by assumption) (fun e => e)⟩)
      | (go_split_ands
         exact ⟨o2.cell (by assumption) (fun e => e), o2.cell (by assumption) (fun e => e), o2.cell (by assumption) (fun e => e)⟩))
    (first
      | (go_at_call 27; refine (clone_secs h _ oW).mono ?_; rintro e w2 ⟨a, cap, rfl, own2, o2⟩)
      | (go_at_call 28; refine (clone_pend h _ (oW.trans o2 (fun _ _ e => e)) hm).mono ?_; rintro e w3 ⟨a', cap', rfl, own3, o3⟩))
  have HE : Hid (Only (fun _ => False) w w2 ∧ Only (fun _ => False) w2 w3 ∧ w2.ownsRow w.heap.size 68 32 (.slice a d.n cap) d.n (allL d.n d.sec) ∧ w3.ownsRow w2.heap.size 71 65 (.slice a' d.pend.length cap') d.pend.length (wrsL d.pend)) := ⟨oW.trans o2 (fun _ _ e => e), o3, own2, own3⟩
  clear own2 o2 own3 o3 oW h0 h1 h2 hb65
  go_wp2
  go_ret
  exact ⟨w2, w3, a, a', cap, cap', rfl, HE.out.1, HE.out.2.1, HE.out.2.2.1, HE.out.2.2.2, rfl⟩

theorem ownsRow_base {w : World} {B B' e size n : Nat} {v : Value} {xs : List Value} (h : w.ownsRow B e size v n xs) (hb : B' ≤ B) : w.ownsRow B' e size v n xs := by
  refine ⟨h.1, h.2.imp id ?_⟩
  rintro ⟨g, cap, cur, h1, h2, rest⟩
  exact ⟨g, cap, cur, h1, by omega, rest⟩

/-- Copy: a disk of its own, in new memory, that is the same. -/
theorem copy_any (p S B B' : Nat) (pv : Value) (d : DS) (w : World) (h : DiskAt w B p S pv d) (hm : d.pend.length * 72 ≤ 140737488355328) (hB' : B' ≤ w.heap.size) :
    Calls Try.prog 12 #[.pointer (some ⟨p, 0, none⟩)] w fun e w' => ∃ p' S' pv', e = .returned (.pointer (some ⟨p', 0, none⟩)) ∧ DiskAt w' B' p' S' pv' d ∧ (∀ k, diskB p' S' pv' k → w.heap.size ≤ k) ∧ Only (fun _ => False) w w' := by
  refine (copy_core p S B pv d w h hm).mono ?_
  rintro e w' ⟨w2, w3, a, a', cap, cap', rfl, o2, o3, own2, own3, rfl⟩
  obtain ⟨g, c2, hv2, hg1, hg2⟩ := own2.form h.n1
  simp only [Value.slice.injEq] at hv2
  obtain ⟨rfl, _, _⟩ := hv2
  have hpb := heap_alloc_new w3 (.cells #[.slice (some ⟨g, 0, none⟩) d.n cap, .slice a' d.pend.length cap', .int .i64 d.life] 65)
  have hs2 := o2.size
  have hs3 := o3.size
  have oA : Only (fun _ => False) w2 (w3.alloc (.cells #[.slice (some ⟨g, 0, none⟩) d.n cap, .slice a' d.pend.length cap', .int .i64 d.life] 65)) := o3.alloc _
  have own4 := oA.owns own2 (fun _ _ e => e)
  have own5 := own3.alloc (.cells #[.slice (some ⟨g, 0, none⟩) d.n cap, .slice a' d.pend.length cap', .int .i64 d.life] 65)
  have hb5 : ∀ k, (Value.slice a' d.pend.length cap').ownBlock = some k → w2.heap.size ≤ k ∧ k < w3.heap.size := own3.lt
  refine ⟨w3.heap.size, g, .slice a' d.pend.length cap', rfl, ?_, ?_, o2.trans oA (fun _ _ e => e)⟩
  · exact { pB := by omega, SB := by omega, pS := by omega
            c0 := ⟨cap, by rw [cell_of_row _ _ 0 _ _ _ hpb]; rfl⟩
            c1 := by rw [cell_of_row _ _ 1 _ _ _ hpb]; rfl
            c2 := by rw [cell_of_row _ _ 2 _ _ _ hpb]; rfl
            f1 := frozen_of_row _ _ _ _ _ hpb
            f2 := frozen_of_row _ _ _ _ _ hpb
            secs := fun i hi => by
              constructor
              · intro j v hv
                have hj : j < 32 := by have := (List.getElem?_eq_some_iff.1 hv).1; rwa [secL_length] at this
                rw [own4.cellAt (i * 32 + j) (by omega), allL_get _ _ _ _ hi hj, ← hv, secL_get _ _ hj]
              · intro j hj
                exact ⟨by rw [own4.cellAt (i * 32 + j) (by omega), allL_get _ _ _ _ hi hj]; rfl, own4.frozenAt _⟩
            own := ownsRow_base own5 (by omega)
            hp := fun e => by have := (hb5 _ e).2; omega
            hS := fun e => by have := (hb5 _ e).1; omega
            n1 := h.n1, n2 := h.n2, at_ := h.at_, l1 := h.l1, l2 := h.l2 }
  · rintro k (rfl | rfl | hk)
    · omega
    · omega
    · have := (hb5 _ hk).1; omega
end Go.Proofs.Ytaeghpfncfkgfaa
