/- The walk of ShadowRoom. -/
import Derived.Test.YtpoakkdkibameaaT2
import Derived.Test.YtpoakkdkibameaaI1
namespace Go.Proofs.Ytpoakkdkibameaa
open Go.RowKit Go.Maps Go.Shelf
set_option linter.unusedSimpArgs false
set_option linter.unusedVariables false

/-- more[k:k+1] -/
theorem slice_one (g o m c k : Nat) (hk : k < m) (hc : m ≤ c) (hm : m ≤ 140737488351232) (w : World) : (Instr.slice 22 (.slice (some ⟨g, o, none⟩) m c) (some (.int .i64 (k : Nat))) (some (.int .i64 ((k : Int) + 1))) none).run Try.prog w = .ok (.slice (some ⟨g, o + k * 6, none⟩) 1 (c - k)) w := by
  have k0 : (0 : Int) ≤ (k : Int) := by omega
  have k1 : (0 : Int) ≤ (k : Int) + 1 := by omega
  have k2 : (k : Int) + 1 ≤ (c : Int) := by omega
  have k3 : (k : Int) ≤ (k : Int) + 1 := by omega
  have k4 : ((k : Int) + 1 - (k : Int)).toNat = 1 := by omega
  have k5 : ((c : Int) - (k : Int)).toNat = c - k := by omega
  have k6 : ¬ c - k = 0 := by omega
  have k7 : (k : Int) ≤ (c : Int) := by omega
  have k8 : ¬ c = k := by omega
  go_simp
theorem ScriptAt.one {W : World} {g o c : Nat} {os : List OpS} (h : ScriptAt W (.slice (some ⟨g, o, none⟩) os.length c) os) (k : Nat) (hk : k < os.length) : ScriptAt W (.slice (some ⟨g, o + k * 6, none⟩) 1 (c - k)) [os[k]] := by
  obtain ⟨g', o', c', hv, hr, hcap⟩ := h.get k hk
  injection hv with hv _ hc
  injection hv with hv
  injection hv with hg ho _
  subst hg ho hc
  refine ⟨.inr ⟨⟨g, o + k * 6, none⟩, c - k, rfl, by simp; omega, fun i hi j v hv => ?_⟩, by simp, fun x hx => ?_⟩
  · have hi0 : i = 0 := by simp at hi; omega
    subst hi0
    have := hr j v (by simpa using hv)
    rw [Addr.add_mid]
    simpa using this
  · simp at hx
    rw [hx]
    exact h.2.2 _ (List.getElem_mem hk)
theorem tells_next (x : SS) : tells x.next = tells x := layK_data _ _ _
theorem inv_new (N : Nat) : Inv (SS.new N) := ⟨by simp [SS.new], fun p hp => by cases hp⟩
/-- Commit, and what it turns. -/
theorem pair_commit2 {w0 w : World} {B0 s p S : Nat} {x : SS} {d : DS} (h : PairAt w0 B0 s p S x d) (ho : Only (fun _ => False) w0 w) (hB0 : B0 ≤ w.heap.size) :
    Calls Try.prog 12 #[.pointer (some ⟨s, 0, none⟩)] w fun e w' =>
      (freeN x x.size < needN x ∧ e = .returned (.int .i64 7) ∧ Hid (PairAt w' B0 s p S x d ∧ Only (fun _ => False) w w')) ∨
      (needN x ≤ freeN x x.size ∧ e = .returned (.int .i64 0) ∧ Hid (PairAt w' B0 s p S x.next (cmX x d).2 ∧ Only (fun k => B0 ≤ k ∧ k < w0.heap.size) w w')) := by
  obtain ⟨pv, mc, mn, tv, B, h1, h2, h3, h4⟩ := h.all
  have h' := h.still ho
  have h1' : DiskAt w B p S pv d := h1.frame ho (fun _ _ e => e)
  have h3' := h3.still ho
  refine (commit_any h3' h1' (Nat.le_trans h2 ho.size) h.byte h.good (by rw [h.pend]; simp)).mono ?_
  rintro e w' hh
  rcases hh.out with ⟨q1, rfl, q2⟩ | ⟨q1, q2, _⟩ | ⟨q1, q2, rfl, pv', mc', mn', tv', q3, q4, q5, q6, q7, q8⟩
  · exact .inl ⟨q1, rfl, h'.still q2, q2⟩
  · exact absurd (cm_live h3.wf q1 h.life h.size h.byte h.good h3.now.rise h.bytes).1 q2
  · obtain ⟨_, r2, r3, r4, r5⟩ := cm_live h3.wf q1 h.life h.size h.byte h.good h3.now.rise h.bytes
    refine .inr ⟨q1, rfl, { all := ⟨pv', mc', mn', tv', B, q3, Nat.le_trans h2 (Nat.le_trans ho.size q5.size), q4, ?_⟩, byte := r5, good := ?_, pend := r4, life := r2, size := by rw [r3]; exact h.size }, q5.mono (fun k _ e => ?_)⟩
    · rintro k (e | e | e | e)
      · exact h4 k (.inl e)
      · omega
      · omega
      · rcases e with e | e | e
        · exact h4 k (.inr (.inr (.inr (.inl e))))
        · exact h4 k (.inr (.inr (.inr (.inr (.inl e)))))
        · rcases q6 k e with e | e
          · exact h4 k (.inr (.inr (.inr (.inr (.inr e)))))
          · omega
    · unfold Good
      rw [r4]
      rfl
    · rcases e with e | e
      · exact ⟨h4 k (.inr (.inr (.inr e))), (h1.lt k e).2⟩
      · exact ⟨h4 k (.inl e), by rw [e]; exact h3.lt⟩
theorem PairAt.st {w : World} {B0 s p S : Nat} {x : SS} {d : DS} (h : PairAt w B0 s p S x d) : ∃ dk mc mn tv, StAt w dk s p mc mn tv x ∧ ∀ k, dk k → k < w.heap.size := by
  obtain ⟨pv, mc, mn, tv, B, h1, h2, h3, h4⟩ := h.all
  exact ⟨_, mc, mn, tv, h3, fun k hk => (h1.lt k hk).2⟩
theorem pair_room {w : World} {B0 s p S : Nat} {x : SS} {d : DS} (h : PairAt w B0 s p S x d) : Calls Try.prog 9 #[.pointer (some ⟨s, 0, none⟩)] w fun e w' => e = .returned (.tuple #[.int .i64 (freeN x x.size : Nat), .int .i64 (needN x : Nat)]) ∧ Hid (Only (fun _ => False) w w') := by
  obtain ⟨dk, mc, mn, tv, h3, hd⟩ := h.st
  exact (room_any h3 hd).mono (fun e w' ⟨a, b⟩ => ⟨a, b⟩)
theorem pair_told {w : World} {B0 s p S : Nat} {x : SS} {d : DS} (h : PairAt w B0 s p S x d) : Calls Try.prog 10 #[.pointer (some ⟨s, 0, none⟩)] w fun e w' => ∃ a n c rs, e = .returned (.tuple #[.slice a n c, .bool true]) ∧ n = x.now.length ∧ Hid (TdAt w' w.heap.size (.slice a n c) rs (tells x) ∧ Only (fun _ => False) w w') := by
  obtain ⟨dk, mc, mn, tv, h3, hd⟩ := h.st
  refine (told_any h3).mono ?_
  rintro e w' ⟨v, rs, rfl, hh⟩
  obtain ⟨a, c, rfl⟩ := ownsRow_slice hh.out.1.own
  exact ⟨a, rs.length, c, rs, rfl, by rw [hh.out.1.len]; simp [tells], hh.out⟩
theorem pair_epoch {w : World} {B0 s p S : Nat} {x : SS} {d : DS} (h : PairAt w B0 s p S x d) : Calls Try.prog 11 #[.pointer (some ⟨s, 0, none⟩)] w fun e w' => e = .returned (.int .u64 (x.epoch : Nat)) ∧ w' = w := by
  obtain ⟨dk, mc, mn, tv, h3, hd⟩ := h.st
  exact epoch_ok h3
theorem pair_len {w : World} {B0 s p S : Nat} {x : SS} {d : DS} (h : PairAt w B0 s p S x d) : Calls Try.prog 14 #[.pointer (some ⟨p, 0, none⟩)] w fun e w' => e = .returned (.int .i64 (d.n : Nat)) ∧ w' = w := by
  obtain ⟨pv, mc, mn, tv, B, h1, h2, h3, h4⟩ := h.all
  obtain ⟨c, hc⟩ := h1.c0
  exact len_any p S d.n c w hc
end Go.Proofs.Ytpoakkdkibameaa
