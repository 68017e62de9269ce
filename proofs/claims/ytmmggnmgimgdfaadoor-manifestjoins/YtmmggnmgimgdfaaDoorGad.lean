/- What the writers of a strings.Builder leave: copyCheck, AppendRune, WriteRune, WriteString. readString: a string's token, character by character. read, and the tokens of a text. Tokens: the walk. -/
import Derived.Test.YtmmggnmgimgdfaaDoorGac
import Derived.Lib.MapLaws
namespace Go.Proofs.YtmmggnmgimgdfaaDoor
open Go.RowKit Go.Lib
set_option linter.unusedSimpArgs false
set_option linter.unusedVariables false
set_option maxRecDepth 100000 in
theorem byte_info : ∃ i, Tryd.prog.info? 5 = some i ∧ i.zero = some (.int .u8 0) ∧ i.size = 1 ∧ i.bytes = 1 := ⟨_, rfl, rfl, rfl, rfl⟩
set_option maxHeartbeats 2000000 in
set_option maxRecDepth 100000 in
theorem check_used (b : Nat) (w : World) (h0 : w.cell? ⟨b, 0, none⟩ = some (.pointer (some ⟨b, 0, none⟩))) :
    Calls Tryd.prog 89 #[.pointer (some ⟨b, 0, none⟩)] w fun e w' => e = .returned (.tuple #[]) ∧ w' = w := by
  obtain ⟨j, hj⟩ : ∃ j, Tryd.prog.info? 160 = some j := ⟨_, rfl⟩
  go_enter Tryd.func89, Tryd.ntmps89
  go_wp2
  rw [run_neq_ptr_same w _ Tryd.underlying158 hj]
  go_wp2
  go_end0
  exact ⟨rfl, rfl⟩
set_option maxHeartbeats 2000000 in
set_option maxRecDepth 100000 in
theorem check_fresh (b : Nat) (w : World) (h0 : w.cell? ⟨b, 0, none⟩ = some (.pointer none)) (hsh : w.shape? b = some (160, 2)) (hfz : w.frozen? ⟨b, 0, none⟩ = false) :
    Calls Tryd.prog 89 #[.pointer (some ⟨b, 0, none⟩)] w fun e w' => e = .returned (.tuple #[]) ∧ w' = w.setCell ⟨b, 0, none⟩ (.pointer (some ⟨b, 0, none⟩)) := by
  obtain ⟨j, hj, hjs⟩ : ∃ j, Tryd.prog.info? 160 = some j ∧ j.size = 2 := ⟨_, rfl, rfl⟩
  have lies : liesAt Tryd.prog Tryd.prog.depth 160 (2 / Tryd.prog.cellsOf 160) 0 160 1 = true := by kernel_rfl
  go_enter Tryd.func89, Tryd.ntmps89
  go_wp2
  rw [run_to_unsafe w ⟨b, 0, none⟩ Tryd.underlying158 Tryd.underlying168 hj (by rw [hjs]; decide) hsh (Nat.zero_lt_succ 1)]
  simp only [Result.andThen]
  rw [Oper.upon_value]
  go_wp2
  rw [run_callFunc_extern Tryd.func91 (by kernel_rfl) (by kernel_rfl) (by kernel_rfl) (e := Extern.AbiNoEscape.same) (by kernel_rfl)]
  rw [run_noEscape]
  simp only [Result.andThen]
  rw [Oper.upon_value]
  go_wp2
  rw [run_from_unsafe w ⟨b, 0, none⟩ Tryd.underlying168 Tryd.underlying158 hj hsh lies]
  simp only [Result.andThen]
  rw [Oper.upon_value]
  go_wp2
  go_end0
  exact ⟨rfl, rfl⟩
/-- A builder at block b of the bytes bs, all made from block B on. -/
def Bu (B b : Nat) (bs : List Value) (w : World) : Prop := IsBuilderF 160 5 B b bs w
/-- What a call on a builder leaves alone. -/
def Kept (B b : Nat) (w w' : World) : Prop := Below B w w' ∧ OthersKept 5 (some b) w w'
theorem check_any (B b : Nat) (bs : List Value) (w : World) (h : Bu B b bs w) :
    Calls Tryd.prog 89 #[.pointer (some ⟨b, 0, none⟩)] w fun e w' => e = .returned (.tuple #[]) ∧ BuilderAtF 160 5 B b (.pointer (some ⟨b, 0, none⟩)) bs w' ∧ Kept B b w w' := by
  rcases h with h | h
  · refine (check_fresh b w h.cell0 h.shape h.frozen0).mono ?_
    rintro e w' ⟨rfl, rfl⟩
    exact ⟨rfl, h.used _, (Below.refl B w).setCell (p := ⟨b, 0, none⟩) h.1 _, (OthersKept.refl _ _ w).setCell ⟨b, 0, none⟩ rfl _⟩
  · refine (check_used b w h.cell0).mono ?_
    rintro e w' ⟨rfl, rfl⟩
    exact ⟨rfl, h, Below.refl B _, OthersKept.refl _ _ _⟩
set_option maxHeartbeats 4000000 in
set_option maxRecDepth 100000 in
theorem rune_two (B : Nat) (v : Value) (n : Nat) (xs : List Value) (r : Int) (h0 : 128 ≤ r) (h1 : r ≤ 2047) (w : World) (hown : w.ownsRowF B 5 1 v n xs) (hlen : n + 4 ≤ 140737488355328) (hBw : B ≤ w.heap.size) :
    Calls Tryd.prog 92 #[v, .int .i32 r] w fun e w' => ∃ v', e = .returned v' ∧ w'.ownsRowF B 5 1 v' (n + 2) (xs ++ [.int .u8 (192 + r / 64), .int .u8 (128 + r % 64)]) ∧ ∃ o, (w.alloc o).grownBy w' v.ownBlock := by
  obtain ⟨i0, hi, hz0, hz1, hz2⟩ := byte_info
  go_enter Tryd.func92, Tryd.ntmps92
  go_wp2_with (at_builtin; refine wpList_append_ownF _ rfl _ _ 98 rfl B 5 i0 (.int .u8 0) 1 1 Tryd.underlying98 hi hz0 hz1 hz2 rfl (by decide) _ _ _ rfl (hown.alloc _) ⟨w.heap.size, 0, none⟩ 2 2 [.int .u8 (192 + r / 64), .int .u8 (128 + r % 64)] rfl rfl ?c1 ?c2 ?c3 ?c4 ?c5 ?_)
  case c1 =>
    intro j u hj
    rcases j with _ | _ | _ | _ | j <;> simp at hj <;> subst hj <;> simp [Addr.add]
  case c2 =>
    intro u hu
    simp only [List.mem_cons, List.not_mem_nil, or_false] at hu
    rcases hu with rfl | rfl <;> rfl
  case c3 => unfold maxLen; omega
  case c4 => omega
  case c5 => simp; omega
  intro v' w2 hown' hgrow _
  go_wp2
  go_ret
  exact ⟨_, rfl, hown', _, hgrow⟩
set_option maxHeartbeats 4000000 in
set_option maxRecDepth 100000 in
theorem rune_lo (B : Nat) (v : Value) (n : Nat) (xs : List Value) (r : Int) (h0 : 2048 ≤ r) (h1 : r < 55296) (w : World) (hown : w.ownsRowF B 5 1 v n xs) (hlen : n + 4 ≤ 140737488355328) (hBw : B ≤ w.heap.size) :
    Calls Tryd.prog 92 #[v, .int .i32 r] w fun e w' => ∃ v', e = .returned v' ∧ w'.ownsRowF B 5 1 v' (n + 3) (xs ++ [.int .u8 (224 + r / 4096), .int .u8 (128 + r / 64 % 64), .int .u8 (128 + r % 64)]) ∧ ∃ o, (w.alloc o).grownBy w' v.ownBlock := by
  obtain ⟨i0, hi, hz0, hz1, hz2⟩ := byte_info
  go_enter Tryd.func92, Tryd.ntmps92
  go_wp2_with (at_builtin; refine wpList_append_ownF _ rfl _ _ 98 rfl B 5 i0 (.int .u8 0) 1 1 Tryd.underlying98 hi hz0 hz1 hz2 rfl (by decide) _ _ _ rfl (hown.alloc _) ⟨w.heap.size, 0, none⟩ 3 3 [.int .u8 (224 + r / 4096), .int .u8 (128 + r / 64 % 64), .int .u8 (128 + r % 64)] rfl rfl ?c1 ?c2 ?c3 ?c4 ?c5 ?_)
  case c1 =>
    intro j u hj
    rcases j with _ | _ | _ | _ | j <;> simp at hj <;> subst hj <;> simp [Addr.add]
  case c2 =>
    intro u hu
    simp only [List.mem_cons, List.not_mem_nil, or_false] at hu
    rcases hu with rfl | rfl | rfl <;> rfl
  case c3 => unfold maxLen; omega
  case c4 => omega
  case c5 => simp; omega
  intro v' w2 hown' hgrow _
  go_wp2
  go_ret
  exact ⟨_, rfl, hown', _, hgrow⟩
set_option maxHeartbeats 4000000 in
set_option maxRecDepth 100000 in
theorem rune_hi (B : Nat) (v : Value) (n : Nat) (xs : List Value) (r : Int) (h0 : 57343 < r) (h1 : r ≤ 65535) (w : World) (hown : w.ownsRowF B 5 1 v n xs) (hlen : n + 4 ≤ 140737488355328) (hBw : B ≤ w.heap.size) :
    Calls Tryd.prog 92 #[v, .int .i32 r] w fun e w' => ∃ v', e = .returned v' ∧ w'.ownsRowF B 5 1 v' (n + 3) (xs ++ [.int .u8 (224 + r / 4096), .int .u8 (128 + r / 64 % 64), .int .u8 (128 + r % 64)]) ∧ ∃ o, (w.alloc o).grownBy w' v.ownBlock := by
  obtain ⟨i0, hi, hz0, hz1, hz2⟩ := byte_info
  go_enter Tryd.func92, Tryd.ntmps92
  go_wp2_with (at_builtin; refine wpList_append_ownF _ rfl _ _ 98 rfl B 5 i0 (.int .u8 0) 1 1 Tryd.underlying98 hi hz0 hz1 hz2 rfl (by decide) _ _ _ rfl (hown.alloc _) ⟨w.heap.size, 0, none⟩ 3 3 [.int .u8 (224 + r / 4096), .int .u8 (128 + r / 64 % 64), .int .u8 (128 + r % 64)] rfl rfl ?c1 ?c2 ?c3 ?c4 ?c5 ?_)
  case c1 =>
    intro j u hj
    rcases j with _ | _ | _ | _ | j <;> simp at hj <;> subst hj <;> simp [Addr.add]
  case c2 =>
    intro u hu
    simp only [List.mem_cons, List.not_mem_nil, or_false] at hu
    rcases hu with rfl | rfl | rfl <;> rfl
  case c3 => unfold maxLen; omega
  case c4 => omega
  case c5 => simp; omega
  intro v' w2 hown' hgrow _
  go_wp2
  go_ret
  exact ⟨_, rfl, hown', _, hgrow⟩
set_option maxHeartbeats 4000000 in
set_option maxRecDepth 100000 in
theorem rune_four (B : Nat) (v : Value) (n : Nat) (xs : List Value) (r : Int) (h0 : 65536 ≤ r) (h1 : r ≤ 1114111) (w : World) (hown : w.ownsRowF B 5 1 v n xs) (hlen : n + 4 ≤ 140737488355328) (hBw : B ≤ w.heap.size) :
    Calls Tryd.prog 92 #[v, .int .i32 r] w fun e w' => ∃ v', e = .returned v' ∧ w'.ownsRowF B 5 1 v' (n + 4) (xs ++ [.int .u8 (240 + r / 262144), .int .u8 (128 + r / 4096 % 64), .int .u8 (128 + r / 64 % 64), .int .u8 (128 + r % 64)]) ∧ ∃ o, (w.alloc o).grownBy w' v.ownBlock := by
  obtain ⟨i0, hi, hz0, hz1, hz2⟩ := byte_info
  go_enter Tryd.func92, Tryd.ntmps92
  go_wp2_with (at_builtin; refine wpList_append_ownF _ rfl _ _ 98 rfl B 5 i0 (.int .u8 0) 1 1 Tryd.underlying98 hi hz0 hz1 hz2 rfl (by decide) _ _ _ rfl (hown.alloc _) ⟨w.heap.size, 0, none⟩ 4 4 [.int .u8 (240 + r / 262144), .int .u8 (128 + r / 4096 % 64), .int .u8 (128 + r / 64 % 64), .int .u8 (128 + r % 64)] rfl rfl ?c1 ?c2 ?c3 ?c4 ?c5 ?_)
  case c1 =>
    intro j u hj
    rcases j with _ | _ | _ | _ | j <;> simp at hj <;> subst hj <;> simp [Addr.add]
  case c2 =>
    intro u hu
    simp only [List.mem_cons, List.not_mem_nil, or_false] at hu
    rcases hu with rfl | rfl | rfl | rfl <;> rfl
  case c3 => unfold maxLen; omega
  case c4 => omega
  case c5 => simp; omega
  intro v' w2 hown' hgrow _
  go_wp2
  go_ret
  exact ⟨_, rfl, hown', _, hgrow⟩
/-- A character: a number that a text may hold. -/
def Vr (r : Nat) : Prop := r < 55296 ∨ (57343 < r ∧ r ≤ 1114111)
set_option maxHeartbeats 4000000 in
set_option maxRecDepth 100000 in
theorem appendRune_any (B : Nat) (v : Value) (n : Nat) (xs : List Value) (r : Nat) (hr : Vr r) (w : World) (hown : w.ownsRowF B 5 1 v n xs) (hlen : n + 4 ≤ 140737488355328) (hBw : B ≤ w.heap.size) :
    Calls Tryd.prog 90 #[v, .int .i32 (r : Int)] w fun e w' => ∃ v', e = .returned v' ∧ w'.ownsRowF B 5 1 v' (n + (runeCells r).length) (xs ++ runeCells r) ∧ ∃ o, (w.alloc o).grownBy w' v.ownBlock := by
  by_cases h1 : r ≤ 127
  · have e : runeCells (r : Int) = [.int .u8 (r : Int)] := by rw [runeCells, encodeRuneZ_one (by omega) (by omega)]; rfl
    rw [e]
    obtain ⟨i0, hi, hz0, hz1, hz2⟩ := byte_info
    go_enter Tryd.func90, Tryd.ntmps90
    go_wp2_with (at_builtin; refine wpList_append_ownF _ rfl _ _ 98 rfl B 5 i0 (.int .u8 0) 1 1 Tryd.underlying98 hi hz0 hz1 hz2 rfl (by decide) _ _ _ rfl (hown.alloc _) ⟨w.heap.size, 0, none⟩ 1 1 [.int .u8 (r : Int)] rfl rfl ?c1 ?c2 ?c3 ?c4 ?c5 ?_)
    case c1 =>
      intro j u hj
      rcases j with _ | j <;> simp at hj <;> subst hj <;> simp [Addr.add]
    case c2 =>
      intro u hu
      simp only [List.mem_cons, List.not_mem_nil, or_false] at hu
      subst hu
      rfl
    case c3 => unfold maxLen; omega
    case c4 => omega
    case c5 => simp; omega
    intro v' w2 hown' hgrow _
    go_wp2
    go_ret
    exact ⟨_, rfl, hown', _, hgrow⟩
  · have key : Hid (Calls Tryd.prog 92 #[v, .int .i32 (r : Int)] w fun e w' => ∃ v', e = .returned v' ∧ w'.ownsRowF B 5 1 v' (n + (runeCells r).length) (xs ++ runeCells r) ∧ ∃ o, (w.alloc o).grownBy w' v.ownBlock) := by
      show Calls _ _ _ _ _
      by_cases h2 : r ≤ 2047
      · have e : runeCells (r : Int) = [.int .u8 (192 + r / 64), .int .u8 (128 + r % 64)] := by rw [runeCells, encodeRuneZ_two (by omega) (by omega)]; rfl
        rw [e]
        exact rune_two B v n xs r (by omega) (by omega) w hown hlen hBw
      · by_cases h3 : r ≤ 65535
        · have e : runeCells (r : Int) = [.int .u8 (224 + r / 4096), .int .u8 (128 + r / 64 % 64), .int .u8 (128 + r % 64)] := by rw [runeCells, encodeRuneZ_three (by unfold Vr at hr; omega)]; rfl
          rw [e]
          by_cases h4 : r < 55296
          · exact rune_lo B v n xs r (by omega) (by omega) w hown hlen hBw
          · exact rune_hi B v n xs r (by unfold Vr at hr; omega) (by omega) w hown hlen hBw
        · have e : runeCells (r : Int) = [.int .u8 (240 + r / 262144), .int .u8 (128 + r / 4096 % 64), .int .u8 (128 + r / 64 % 64), .int .u8 (128 + r % 64)] := by rw [runeCells, encodeRuneZ_four (by omega) (by unfold Vr at hr; omega)]; rfl
          rw [e]
          exact rune_four B v n xs r (by omega) (by unfold Vr at hr; omega) w hown hlen hBw
    have hr2 : (r : Int) ≤ 1114111 := by unfold Vr at hr; omega
    have hr1 : ¬ (r : Int) ≤ 127 := by omega
    clear hr h1
    go_enter Tryd.func90, Tryd.ntmps90
    go_wp2_with fail
    refine (show Calls Tryd.prog 92 _ _ _ from key.out).mono ?_
    rintro e w2 ⟨v', rfl, g⟩
    go_wp2
    go_ret
    exact ⟨_, rfl, g⟩
set_option maxHeartbeats 4000000 in
set_option maxRecDepth 100000 in
theorem writeRune_any (B b : Nat) (bs : List Value) (r : Nat) (hr : Vr r) (w : World) (h : Bu B b bs w) (hlen : bs.length + 4 ≤ 140737488355328) (hBw : B ≤ w.heap.size) :
    Calls Tryd.prog 86 #[.pointer (some ⟨b, 0, none⟩), .int .i32 (r : Int)] w fun e w' => ∃ q, e = .returned (.tuple #[q, .nilIface]) ∧ Bu B b (bs ++ runeCells r) w' ∧ Kept B b w w' := by
  have hk4 := runeCells_le r
  go_enter Tryd.func86, Tryd.ntmps86
  go_wp2_with fail
  refine (show Calls Tryd.prog 89 _ _ _ from check_any B b bs _ h).mono ?_
  rintro e w1 ⟨rfl, h1, hb1, hk1⟩
  obtain ⟨hB, v, hbk, hown, hne⟩ := h1
  obtain ⟨ao, cap, rfl⟩ : ∃ ao cap, v = .slice ao bs.length cap := by
    rcases hown.2 with ⟨hv, h0⟩ | ⟨g, cap, cur, fz, hv, _⟩
    · exact ⟨none, 0, by rw [hv, h0]⟩
    · exact ⟨_, _, hv⟩
  have c1 : w1.cell? ⟨b, 1, none⟩ = some (.slice ao bs.length cap) := by rw [cell_of_heap hbk]; rfl
  have hs1 := hb1.size
  go_wp2_with fail
  refine (show Calls Tryd.prog 90 _ _ _ from appendRune_any B _ bs.length bs r hr _ hown hlen (by omega)).mono ?_
  rintro e w2 ⟨v', rfl, hown', o, hgrow⟩
  have hlt : b < w1.heap.size := (Array.getElem?_eq_some_iff.1 hbk).1
  have hb2 : w2.heap[b]? = some (.cells #[.pointer (some ⟨b, 0, none⟩), .slice ao bs.length cap] 160 (0, 0)) := by
    rw [hgrow.block b (by simp; omega) (fun e => hne e.symm), alloc_old w1 _ b hlt]
    exact hbk
  have d1 : w2.cell? ⟨b, 1, none⟩ = some (.slice ao bs.length cap) := by rw [cell_of_heap hb2]; rfl
  have f1 : w2.frozen? ⟨b, 1, none⟩ = false := frozen_of_heap hb2 1
  obtain ⟨g, cap', rfl⟩ : ∃ g cap', v' = .slice (some ⟨g, 0, none⟩) (bs.length + (runeCells r).length) cap' := by
    rcases hown'.2 with ⟨_, h0⟩ | ⟨g, cap', cur, fz, hv, _⟩
    · omega
    · exact ⟨g, cap', hv⟩
  go_wp2
  go_ret2
  refine ⟨_, rfl, .inr ?_, ?_, ((hk1.alloc _).grown hgrow (ownsRowF_kind (hown.alloc _))).setCell ⟨b, 1, none⟩ rfl _⟩
  · exact BuilderAtF.put (T := 160) (e := 5) hB hb2 (bs' := bs ++ runeCells r) (by simpa using hown') (by decide)
  · exact ((hb1.alloc (by omega) _).grown hgrow (by simp; omega) (fun k hk => (hown.lt k hk).1)).setCell (p := ⟨b, 1, none⟩) hB _
end Go.Proofs.YtmmggnmgimgdfaaDoor
namespace Go.Proofs.YtmmggnmgimgdfaaDoor
open Go.RowKit Go.Lib
set_option linter.unusedSimpArgs false
set_option linter.unusedVariables false
/-- What is decoded is a character. -/
theorem decode_vr (s : ByteArray) (pos : Nat) : Vr (Utf8.decode s pos).1 := by
  rw [decode_at]
  have k0 := (s.get! pos).toNat_lt
  have k1 := (s.get! (pos + 1)).toNat_lt
  have k2 := (s.get! (pos + 2)).toNat_lt
  have k3 := (s.get! (pos + 3)).toNat_lt
  unfold Vr
  rcases decodeN_shape (s.size - pos) (s.get! pos).toNat (s.get! (pos + 1)).toNat (s.get! (pos + 2)).toNat (s.get! (pos + 3)).toNat with ⟨c, e⟩ | ⟨c1, c2, c3, cv, e⟩ | ⟨c1, c2, c3, c4, cv, cs, e⟩ | ⟨c1, c2, c3, c4, c5, cv, cw, e⟩ | e <;> rw [e] <;> dsimp only <;> omega
theorem une_vr {c m : Nat} (h : une c = some m) : Vr m := by
  unfold une at h
  unfold Vr
  split at h
  · simp only [Option.some.injEq] at h; omega
  · split at h
    · simp only [Option.some.injEq] at h; omega
    · simp at h
/-- The bytes of characters. -/
def enL (l : List Nat) : List UInt8 := l.flatMap fun (r : Nat) => encodeRune (r : Int)
def tx (l : List Nat) : ByteArray := ⟨(enL l).toArray⟩
theorem enL_snoc (l : List Nat) (r : Nat) : enL (l ++ [r]) = enL l ++ encodeRune (r : Int) := by simp [enL]
theorem enL_cells (l : List Nat) (r : Nat) : Lib.byteCells (enL (l ++ [r])) = Lib.byteCells (enL l) ++ runeCells (r : Int) := by rw [enL_snoc, Lib.byteCells_append, Lib.byteCells_encodeRune]
theorem enL_len (l : List Nat) (r : Nat) : (enL (l ++ [r])).length ≤ (enL l).length + 4 := by
  have := (runeCells_le (r : Int)).2
  rw [enL_snoc, List.length_append, ← runeCells_length]
  omega
def zT : Tok := ⟨0, ⟨#[]⟩, 0, 0⟩
/-- The string whose quote stands at a: its characters from a + 1 on; n: the text's length. -/
def strG (a n : Nat) : List (Nat × Nat) → Bool → List Nat → Tok × Nat × Int
  | [], true, _ => (zT, n - 1, 9)
  | [], false, _ => (zT, a, 9)
  | (i, c) :: r, true, out => match une c with
    | none => (zT, a + i, 9)
    | some m => strG a n r false (out ++ [m])
  | (i, c) :: r, false, out =>
    if c = 92 then strG a n r true out
    else if c = 34 then (if 4096 < (enL out).length then (zT, a, 11) else (⟨3, tx out, 0, a⟩, a + i + 2, 0))
    else strG a n r false (out ++ [c])
def strR (s : ByteArray) (a : Nat) : Tok × Nat × Int := strG a s.size (crs (s.extract (a + 1) s.size) (s.extract (a + 1) s.size).size 0) false []
/-- The token's cells. -/
def TkC (w : World) (N : Nat) : Prop := w.heap[N]? = some (.cells #[.int .i64 0, .string ⟨#[]⟩, .int .i64 0, .int .i64 0] 140)
theorem TkC.keep {w w' : World} {N b : Nat} (h : TkC w N) (k : OthersKept 5 (some b) w w') (hb : N ≠ b) : TkC w' N :=
  k N _ h (fun e => hb (Option.some.inj e)) (fun c fz e => by simp at e)
theorem TkC.iterAt {w : World} {N k : Nat} {s : ByteArray} {pos : Nat} (h : TkC w N) (hk : N ≠ k) : TkC (w.iterAt k s pos) N := (iterAt_other w k N s pos hk).trans h
theorem alloc_at (W : World) (o : Obj) (n : Nat) (h : n = W.heap.size) : (W.alloc o).heap[n]? = some o := by
  subst h
  exact Array.getElem?_push_size ..
theorem bu_new {w : World} {B b : Nat} (hB : B ≤ b) (h : w.heap[b]? = some (.cells #[.pointer none, .slice none 0 0] 160)) : Bu B b (Lib.byteCells (enL [])) w := .inl ⟨hB, _, h, ⟨rfl, .inl ⟨rfl, rfl⟩⟩, by simp [Value.ownBlock]⟩
set_option maxRecDepth 100000 in
set_option maxHeartbeats 8000000 in
theorem readString_any (s : ByteArray) (a : Nat) (ha : a < s.size) (hs : s.size ≤ 1000000) (w : World) :
    Calls Tryd.prog 79 #[.string s, .int .i64 (a : Int)] w fun e w' => e = .returned (rdV (strR s a)) ∧ Below w.heap.size w w' := by
  obtain ⟨S, hS⟩ : ∃ S, S = s.extract (a + 1) s.size := ⟨_, rfl⟩
  have hsl : ∀ W : World, (Instr.slice 9 (.string s) (some (.int .i64 ((a : Int) + 1))) none none).run Tryd.prog W = .ok (.string S) W := fun W => by
    rw [show ((a : Int) + 1) = ((a + 1 : Nat) : Int) by omega, run_slice_string_l W 9 s Tryd.underlying9 _ _ (by omega) (by omega), hS]
    rfl
  have hSz : S.size = s.size - (a + 1) := by rw [hS, ByteArray.size_extract]; omega
  obtain ⟨Z, hZ⟩ : ∃ Z, Z = strR s a := ⟨_, rfl⟩
  have HZ : Hid (Z = strG a s.size (crs S S.size 0) false []) := by rw [hS]; exact hZ
  rw [← hZ]
  clear hZ hS
  obtain ⟨N, hN⟩ : ∃ N, N = w.heap.size := ⟨_, rfl⟩
  have HN : Hid (N = w.heap.size) := hN
  go_enter Tryd.func79, Tryd.ntmps79
  go_wp2
  go_loopw [8] (fun r wr => ∃ (pos b : Nat) (e : Bool) (out : List Nat), r = .bool e ∧ Hid (Bu w.heap.size (w.heap.size + 1) (Lib.byteCells (enL out)) wr ∧ wr.heap[w.heap.size + 2]? = some (.stringIter S pos) ∧ TkC wr w.heap.size ∧ Below w.heap.size w wr ∧ Z = strG a s.size (crs S b pos) e out ∧ S.size ≤ pos + b ∧ (enL out).length ≤ 4 * pos)) (fun _ wr => S.size - wr.iterPos (w.heap.size + 2))
  case atStart =>
    refine ⟨0, S.size, false, [], rfl, bu_new (by omega) ?_, ?_, ?_, ?_, HZ.out, by omega, by simp [enL]⟩
    · exact (alloc_old (World.alloc _ _) _ (w.heap.size + 1) (by simp)).trans (alloc_at _ _ _ (by simp))
    · have := World.iter_heap ((w.alloc (.cells #[.int .i64 0, .string ⟨#[]⟩, .int .i64 0, .int .i64 0] 140)).alloc (.cells #[.pointer none, .slice none 0 0] 160)) S 0
      simpa using this
    · exact (alloc_old (World.alloc (World.alloc w _) _) _ w.heap.size (by simp; omega)).trans ((alloc_old (World.alloc w _) _ w.heap.size (by simp)).trans (alloc_at _ _ _ rfl))
    · exact ((((Below.refl _ w).alloc (Nat.le_refl _) _).alloc (by simp) _).alloc (by simp; omega) _)
  case round =>
    obtain ⟨pos, b, e, out, rfl, HI⟩ := hrel
    clear HZ
    by_cases hp : pos < S.size
    · have hnx : ∀ ty, (Instr.next (.pointer (some ⟨w.heap.size + 2, 0, none⟩)) true ty).run Tryd.prog wr = _ := fun ty => run_next_any_at wr (w.heap.size + 2) S pos ty HI.out.2.1 hp
      have hwd := wid_pos S pos hp
      obtain ⟨b', hb', hcr⟩ := crs_go hp HI.out.2.2.2.2.2.1
      have hvr := decode_vr S pos
      have hdl := decode_le S pos
      obtain ⟨c, hc⟩ : ∃ c, c = (Utf8.decode S pos).1 := ⟨_, rfl⟩
      obtain ⟨wd, hw⟩ : ∃ c, c = (Utf8.decode S pos).2 := ⟨_, rfl⟩
      rw [← hc, ← hw] at hnx hcr
      rw [← hc] at hvr hdl
      rw [← hw] at hwd
      have HV : Hid (Vr c) := hvr
      have hmp : wr.iterPos (w.heap.size + 2) = pos := by simp only [World.iterPos, HI.out.2.1]
      have HJ : Hid (Bu w.heap.size (w.heap.size + 1) (Lib.byteCells (enL out)) (wr.iterAt (w.heap.size + 2) S (pos + wd)) ∧ (wr.iterAt (w.heap.size + 2) S (pos + wd)).heap[w.heap.size + 2]? = some (.stringIter S (pos + wd)) ∧ TkC (wr.iterAt (w.heap.size + 2) S (pos + wd)) w.heap.size ∧ Below w.heap.size w (wr.iterAt (w.heap.size + 2) S (pos + wd)) ∧ Z = strG a s.size ((pos, c) :: crs S b' (pos + wd)) e out ∧ S.size ≤ pos + wd + b' ∧ (enL out).length ≤ 4 * pos) := by
        obtain ⟨i1, i2, i3, i4, i5, i6, i7⟩ := HI.out
        exact ⟨i1.iterAt i2 _, iterAt_heap _ _ _ _ _ i2, i3.iterAt (by omega), below_iterAt i4 (by omega) _ _, by rw [i5, hcr], by omega, i7⟩
      clear HI hc hw hcr hb' hvr
      obtain ⟨W2, hW2⟩ : ∃ W2, W2 = wr.iterAt (w.heap.size + 2) S (pos + wd) := ⟨_, rfl⟩
      rw [← hW2] at hnx HJ
      clear hW2
      cases e with
      | true =>
        have HU : Hid (Calls Tryd.prog 85 #[.int .i32 (c : Int)] W2 fun e w' => e = .returned (uneV (une c)) ∧ w' = W2) := unescape_any c W2
        cases hu : une c with
        | none =>
          rw [hu] at HU
          have HE : Hid (Z = (zT, a + pos, 9)) := by
            show Z = _
            rw [HJ.out.2.2.2.2.1]
            simp only [strG, hu]
          clear hu
          go_wp2_with fail
          refine (show Calls Tryd.prog 85 _ _ _ from HU.out).mono ?_
          rintro e wz ⟨rfl, hwz⟩; subst wz
          clear HU
          simp only [uneV]
          have R3 := HJ.out.2.2.1
          unfold TkC at R3
          have c0 := blk_cells R3 0
          have c1 := blk_cells R3 1
          have c2 := blk_cells R3 2
          have c3 := blk_cells R3 3
          have z0 := blk_froz R3 0
          have z1 := blk_froz R3 1
          have z2 := blk_froz R3 2
          have z3 := blk_froz R3 3
          simp only [List.getElem?_toArray, List.getElem?_cons_zero, List.getElem?_cons_succ] at c0 c1 c2 c3
          have hap : (a : Int) + 1 + (pos : Int) - 1 = ((a + pos : Nat) : Int) := by omega
          go_wp2
          obtain ⟨q0, q1, q2, q3⟩ := set4 R3 rfl (.int .i64 0) (.string ⟨#[]⟩) (.int .i64 0) (.int .i64 0)
          refine bodyPost_ret (results_tok rfl _ _ w.heap.size q0 q1 q2 q3 rfl) rfl ?_
          exact ⟨by rw [show Z = _ from HE.out]; rfl, (((HJ.out.2.2.2.1.setCell (p := ⟨w.heap.size, 0, none⟩) (Nat.le_refl _) _).setCell (p := ⟨w.heap.size, 1, none⟩) (Nat.le_refl _) _).setCell (p := ⟨w.heap.size, 2, none⟩) (Nat.le_refl _) _).setCell (p := ⟨w.heap.size, 3, none⟩) (Nat.le_refl _) _⟩
        | some m =>
          rw [hu] at HU
          have HE : Hid (Z = strG a s.size (crs S b' (pos + wd)) false (out ++ [m])) := by
            show Z = _
            rw [HJ.out.2.2.2.2.1]
            simp only [strG, hu]
          have HV : Hid (Vr m) := une_vr hu
          clear hu
          go_wp2_with fail
          refine (show Calls Tryd.prog 85 _ _ _ from HU.out).mono ?_
          rintro e wz ⟨rfl, hwz⟩; subst wz
          clear HU
          simp only [uneV]
          have hz2 : w.heap.size ≤ W2.heap.size := HJ.out.2.2.2.1.size
          have HR : Hid (Calls Tryd.prog 86 #[.pointer (some ⟨w.heap.size + 1, 0, none⟩), .int .i32 (m : Int)] W2 fun e w' => ∃ q, e = .returned (.tuple #[q, .nilIface]) ∧ Bu w.heap.size (w.heap.size + 1) (Lib.byteCells (enL out) ++ runeCells m) w' ∧ Kept w.heap.size (w.heap.size + 1) W2 w') := writeRune_any w.heap.size (w.heap.size + 1) _ m HV.out W2 HJ.out.1 (by rw [Lib.byteCells_length]; have := HJ.out.2.2.2.2.2.2; omega) hz2
          go_wp2_with fail
          refine (show Calls Tryd.prog 86 _ _ _ from HR.out).mono ?_
          rintro e W3 ⟨q, rfl, g1, g2, g3⟩
          clear HR
          have HK : Hid (Bu w.heap.size (w.heap.size + 1) (Lib.byteCells (enL (out ++ [m]))) W3 ∧ W3.heap[w.heap.size + 2]? = some (.stringIter S (pos + wd)) ∧ TkC W3 w.heap.size ∧ Below w.heap.size w W3 ∧ Z = strG a s.size (crs S b' (pos + wd)) false (out ++ [m]) ∧ S.size ≤ pos + wd + b' ∧ (enL (out ++ [m])).length ≤ 4 * (pos + wd)) :=
            ⟨by rw [enL_cells]; exact g1, g3.iter HJ.out.2.1 (by omega), HJ.out.2.2.1.keep g3 (by omega), HJ.out.2.2.2.1.trans g2, HE.out, HJ.out.2.2.2.2.2.1, by have := enL_len out m; have := HJ.out.2.2.2.2.2.2; omega⟩
          clear g1 g2 g3 HJ HE
          go_wp2
          go_roundw
          case rel => exact ⟨pos + wd, b', false, out ++ [m], rfl, HK.out⟩
          case measure => have e1 : W3.iterPos (w.heap.size + 2) = pos + wd := by simp only [World.iterPos, HK.out.2.1]
                          omega
      | false =>
        by_cases h92 : c = 92
        · have HE : Hid (Z = strG a s.size (crs S b' (pos + wd)) true out) := by
            show Z = _
            rw [HJ.out.2.2.2.2.1]
            simp only [strG, if_pos h92]
          subst h92
          have HK : Hid (Bu w.heap.size (w.heap.size + 1) (Lib.byteCells (enL out)) W2 ∧ W2.heap[w.heap.size + 2]? = some (.stringIter S (pos + wd)) ∧ TkC W2 w.heap.size ∧ Below w.heap.size w W2 ∧ Z = strG a s.size (crs S b' (pos + wd)) true out ∧ S.size ≤ pos + wd + b' ∧ (enL out).length ≤ 4 * (pos + wd)) :=
            ⟨HJ.out.1, HJ.out.2.1, HJ.out.2.2.1, HJ.out.2.2.2.1, HE.out, HJ.out.2.2.2.2.2.1, by have := HJ.out.2.2.2.2.2.2; omega⟩
          clear HJ HE
          go_wp2
          go_roundw
          case rel => exact ⟨pos + wd, b', true, out, rfl, HK.out⟩
          case measure => have e1 : W2.iterPos (w.heap.size + 2) = pos + wd := by simp only [World.iterPos, HK.out.2.1]
                          omega
        · by_cases h34 : c = 34
          · have HL : Hid (Calls Tryd.prog 87 #[.pointer (some ⟨w.heap.size + 1, 0, none⟩)] W2 fun e w' => e = .returned (.int .i64 (enL out).length) ∧ w' = W2) := by
              have := Tryd.Builder_Len_f w.heap.size (w.heap.size + 1) _ W2 HJ.out.1
              rw [Lib.byteCells_length] at this
              exact this
            by_cases hl : 4096 < (enL out).length
            · have HE : Hid (Z = (zT, a, 11)) := by
                show Z = _
                rw [HJ.out.2.2.2.2.1]
                simp only [strG, if_neg h92, if_pos h34, if_pos hl]
              subst h34
              have hl2 : (4096 : Int) < ((enL out).length : Int) := by omega
              obtain ⟨L, hL⟩ : ∃ L, L = (enL out).length := ⟨_, rfl⟩
              rw [← hL] at HL hl2
              clear hL hl h92
              have R3 := HJ.out.2.2.1
              unfold TkC at R3
              have c0 := blk_cells R3 0
              have c1 := blk_cells R3 1
              have c2 := blk_cells R3 2
              have c3 := blk_cells R3 3
              have z0 := blk_froz R3 0
              have z1 := blk_froz R3 1
              have z2 := blk_froz R3 2
              have z3 := blk_froz R3 3
              simp only [List.getElem?_toArray, List.getElem?_cons_zero, List.getElem?_cons_succ] at c0 c1 c2 c3
              go_wp2_with fail
              refine (show Calls Tryd.prog 87 _ _ _ from HL.out).mono ?_
              rintro e wz ⟨rfl, hwz⟩; subst wz
              clear HL
              go_wp2
              obtain ⟨q0, q1, q2, q3⟩ := set4 R3 rfl (.int .i64 0) (.string ⟨#[]⟩) (.int .i64 0) (.int .i64 0)
              refine bodyPost_ret (results_tok rfl _ _ w.heap.size q0 q1 q2 q3 rfl) rfl ?_
              exact ⟨by rw [show Z = _ from HE.out]; rfl, (((HJ.out.2.2.2.1.setCell (p := ⟨w.heap.size, 0, none⟩) (Nat.le_refl _) _).setCell (p := ⟨w.heap.size, 1, none⟩) (Nat.le_refl _) _).setCell (p := ⟨w.heap.size, 2, none⟩) (Nat.le_refl _) _).setCell (p := ⟨w.heap.size, 3, none⟩) (Nat.le_refl _) _⟩
            · have HE : Hid (Z = (⟨3, tx out, 0, a⟩, a + pos + 2, 0)) := by
                show Z = _
                rw [HJ.out.2.2.2.2.1]
                simp only [strG, if_neg h92, if_pos h34, if_neg hl]
              subst h34
              have hl2 : ¬ (4096 : Int) < ((enL out).length : Int) := by omega
              have hz2 : w.heap.size ≤ W2.heap.size := HJ.out.2.2.2.1.size
              have HS : Hid (Calls Tryd.prog 88 #[.pointer (some ⟨w.heap.size + 1, 0, none⟩)] W2 fun e w' => e = .returned (.string (tx out)) ∧ (IsBuilderF 160 5 w.heap.size (w.heap.size + 1) (Lib.byteCells (enL out)) w' ∧ Below w.heap.size W2 w' ∧ OthersKept 5 (some (w.heap.size + 1)) W2 w')) := Tryd.Builder_String_any_k w.heap.size (w.heap.size + 1) (enL out) W2 HJ.out.1 hz2
              obtain ⟨L, hL⟩ : ∃ L, L = (enL out).length := ⟨_, rfl⟩
              rw [← hL] at HL hl2
              clear hL hl h92
              go_wp2_with fail
              refine (show Calls Tryd.prog 87 _ _ _ from HL.out).mono ?_
              rintro e wz ⟨rfl, hwz⟩; subst wz
              clear HL
              go_wp2_with fail
              refine (show Calls Tryd.prog 88 _ _ _ from HS.out).mono ?_
              rintro e W3 ⟨rfl, g1, g2, g3⟩
              clear HS
              have R3 := HJ.out.2.2.1.keep g3 (by omega)
              have HB := HJ.out.2.2.2.1.trans g2
              unfold TkC at R3
              have c0 := blk_cells R3 0
              have c1 := blk_cells R3 1
              have c2 := blk_cells R3 2
              have c3 := blk_cells R3 3
              have z0 := blk_froz R3 0
              have z1 := blk_froz R3 1
              have z2 := blk_froz R3 2
              have z3 := blk_froz R3 3
              simp only [List.getElem?_toArray, List.getElem?_cons_zero, List.getElem?_cons_succ] at c0 c1 c2 c3
              have hap : (a : Int) + 1 + (pos : Int) + 1 = ((a + pos + 2 : Nat) : Int) := by omega
              go_wp2
              obtain ⟨q0, q1, q2, q3⟩ := set4 R3 rfl (.int .i64 3) (.string (tx out)) (.int .i64 0) (.int .i64 (a : Int))
              refine bodyPost_ret (results_tok rfl _ _ w.heap.size q0 q1 q2 q3 rfl) rfl ?_
              exact ⟨by rw [show Z = _ from HE.out]; rfl, (((HB.setCell (p := ⟨w.heap.size, 0, none⟩) (Nat.le_refl _) _).setCell (p := ⟨w.heap.size, 1, none⟩) (Nat.le_refl _) _).setCell (p := ⟨w.heap.size, 2, none⟩) (Nat.le_refl _) _).setCell (p := ⟨w.heap.size, 3, none⟩) (Nat.le_refl _) _⟩
          · have HE : Hid (Z = strG a s.size (crs S b' (pos + wd)) false (out ++ [c])) := by
              show Z = _
              rw [HJ.out.2.2.2.2.1]
              simp only [strG, if_neg h92, if_neg h34]
            have i1 : ¬ (c : Int) = 92 := by omega
            have i2 : ¬ (c : Int) = 34 := by omega
            have hz2 : w.heap.size ≤ W2.heap.size := HJ.out.2.2.2.1.size
            have HR : Hid (Calls Tryd.prog 86 #[.pointer (some ⟨w.heap.size + 1, 0, none⟩), .int .i32 (c : Int)] W2 fun e w' => ∃ q, e = .returned (.tuple #[q, .nilIface]) ∧ Bu w.heap.size (w.heap.size + 1) (Lib.byteCells (enL out) ++ runeCells c) w' ∧ Kept w.heap.size (w.heap.size + 1) W2 w') := writeRune_any w.heap.size (w.heap.size + 1) _ c HV.out W2 HJ.out.1 (by rw [Lib.byteCells_length]; have := HJ.out.2.2.2.2.2.2; omega) hz2
            go_wp2_with fail
            refine (show Calls Tryd.prog 86 _ _ _ from HR.out).mono ?_
            rintro e W3 ⟨q, rfl, g1, g2, g3⟩
            clear HR
            have HK : Hid (Bu w.heap.size (w.heap.size + 1) (Lib.byteCells (enL (out ++ [c]))) W3 ∧ W3.heap[w.heap.size + 2]? = some (.stringIter S (pos + wd)) ∧ TkC W3 w.heap.size ∧ Below w.heap.size w W3 ∧ Z = strG a s.size (crs S b' (pos + wd)) false (out ++ [c]) ∧ S.size ≤ pos + wd + b' ∧ (enL (out ++ [c])).length ≤ 4 * (pos + wd)) :=
              ⟨by rw [enL_cells]; exact g1, g3.iter HJ.out.2.1 (by omega), HJ.out.2.2.1.keep g3 (by omega), HJ.out.2.2.2.1.trans g2, HE.out, HJ.out.2.2.2.2.2.1, by have := enL_len out c; have := HJ.out.2.2.2.2.2.2; omega⟩
            clear g1 g2 g3 HJ HE
            go_wp2
            go_roundw
            case rel => exact ⟨pos + wd, b', false, out ++ [c], rfl, HK.out⟩
            case measure => have e1 : W3.iterPos (w.heap.size + 2) = pos + wd := by simp only [World.iterPos, HK.out.2.1]
                            omega
    · have hnx : ∀ ty, (Instr.next (.pointer (some ⟨w.heap.size + 2, 0, none⟩)) true ty).run Tryd.prog wr = _ := fun ty => run_next_end_at wr (w.heap.size + 2) S pos ty HI.out.2.1 hp
      have R3 := HI.out.2.2.1
      unfold TkC at R3
      have c0 := blk_cells R3 0
      have c1 := blk_cells R3 1
      have c2 := blk_cells R3 2
      have c3 := blk_cells R3 3
      have z0 := blk_froz R3 0
      have z1 := blk_froz R3 1
      have z2 := blk_froz R3 2
      have z3 := blk_froz R3 3
      simp only [List.getElem?_toArray, List.getElem?_cons_zero, List.getElem?_cons_succ] at c0 c1 c2 c3
      have HB := HI.out.2.2.2.1
      cases e with
      | true =>
        have HE : Hid (Z = (zT, s.size - 1, 9)) := by
          show Z = _
          rw [HI.out.2.2.2.2.1, crs_end hp]
          rfl
        have hap : (s.size : Int) - 1 = ((s.size - 1 : Nat) : Int) := by omega
        clear HI
        go_wp2
        obtain ⟨q0, q1, q2, q3⟩ := set4 R3 rfl (.int .i64 0) (.string ⟨#[]⟩) (.int .i64 0) (.int .i64 0)
        refine bodyPost_ret (results_tok rfl _ _ w.heap.size q0 q1 q2 q3 rfl) rfl ?_
        exact ⟨by rw [show Z = _ from HE.out]; rfl, (((HB.setCell (p := ⟨w.heap.size, 0, none⟩) (Nat.le_refl _) _).setCell (p := ⟨w.heap.size, 1, none⟩) (Nat.le_refl _) _).setCell (p := ⟨w.heap.size, 2, none⟩) (Nat.le_refl _) _).setCell (p := ⟨w.heap.size, 3, none⟩) (Nat.le_refl _) _⟩
      | false =>
        have HE : Hid (Z = (zT, a, 9)) := by
          show Z = _
          rw [HI.out.2.2.2.2.1, crs_end hp]
          rfl
        clear HI
        go_wp2
        obtain ⟨q0, q1, q2, q3⟩ := set4 R3 rfl (.int .i64 0) (.string ⟨#[]⟩) (.int .i64 0) (.int .i64 0)
        refine bodyPost_ret (results_tok rfl _ _ w.heap.size q0 q1 q2 q3 rfl) rfl ?_
        exact ⟨by rw [show Z = _ from HE.out]; rfl, (((HB.setCell (p := ⟨w.heap.size, 0, none⟩) (Nat.le_refl _) _).setCell (p := ⟨w.heap.size, 1, none⟩) (Nat.le_refl _) _).setCell (p := ⟨w.heap.size, 2, none⟩) (Nat.le_refl _) _).setCell (p := ⟨w.heap.size, 3, none⟩) (Nat.le_refl _) _⟩
end Go.Proofs.YtmmggnmgimgdfaaDoor
namespace Go.Proofs.YtmmggnmgimgdfaaDoor
open Go.RowKit Go.Lib
set_option linter.unusedSimpArgs false
set_option linter.unusedVariables false
theorem only_below {w w' : World} (h : Only (fun _ => False) w w') : Below w.heap.size w w' := ⟨h.os, h.tape, h.output, h.size, fun k hk => h.block k hk (fun g => g)⟩
/-- The byte at a place. -/
def byN (s : ByteArray) (a : Nat) : Nat := (s.get! a).toNat
theorem get_bang (s : ByteArray) (a : Nat) (h : a < s.size) : s[a]'h = s.get! a := by
  cases s with
  | mk d =>
    show d[a]'h = d[a]!
    exact (getElem!_pos d a h).symm
def redR (s : ByteArray) (a : Nat) : Tok × Nat × Int := if byN s a = 34 then strR s a else wrdR s a
set_option maxRecDepth 100000 in
set_option maxHeartbeats 4000000 in
theorem read_any (s : ByteArray) (a : Nat) (ha : a < s.size) (hs : s.size ≤ 1000000) (w : World) (h : Nog w) :
    Calls Tryd.prog 64 #[.string s, .int .i64 (a : Int)] w fun e w' => e = .returned (rdV (redR s a)) ∧ Only (fun _ => False) w w' := by
  have hix : ∀ W : World, (Instr.index 9 (.string s) (.int .i64 (a : Int))).run Tryd.prog W = .ok (.int .u8 (byN s a : Int)) W := fun W => by
    rw [run_index_string W 9 _ _ _ Tryd.underlying9, dif_pos ⟨by omega, by omega⟩]
    simp only [Int.toNat_natCast]
    rw [get_bang]
    rfl
  have HS : Hid (∀ w1, Calls Tryd.prog 79 #[.string s, .int .i64 (a : Int)] w1 fun e w' => e = .returned (rdV (strR s a)) ∧ Only (fun _ => False) w1 w') := fun w1 => (readString_any s a ha hs w1).mono fun e w' g => ⟨g.1, below_only g.2⟩
  have HW : Hid (∀ w1, Only (fun _ => False) w w1 → Calls Tryd.prog 80 #[.string s, .int .i64 (a : Int)] w1 fun e w' => e = .returned (rdV (wrdR s a)) ∧ Only (fun _ => False) w1 w') := fun w1 o => readWord_any s a (by omega) hs w1 (h.frame o)
  unfold redR
  obtain ⟨y, hy⟩ : ∃ y, y = byN s a := ⟨_, rfl⟩
  rw [← hy] at hix ⊢
  clear hy h
  have O0 : Hid (Only (fun _ => False) w w) := Only.refl _ _
  have HB : Hid (∀ (k : Nat) (o : Obj), w.heap.size ≤ k → Only (fun _ => False) w (w.alloc o)) := fun _ o _ => O0.out.alloc _
  by_cases h34 : y = 34
  · subst h34
    rw [if_pos rfl]
    obtain ⟨⟨⟨k, t, n, q⟩, p, e⟩, hr⟩ : ∃ r, r = strR s a := ⟨_, rfl⟩
    rw [← hr] at HS ⊢
    clear hr HW
    go_enter Tryd.func64, Tryd.ntmps64
    go_wp2_with fail
    refine (show Calls Tryd.prog 79 _ _ _ from HS.out _).mono ?_
    rintro e1 w1 ⟨rfl, o1⟩
    have O1 : Hid (Only (fun _ => False) w w1) := (O0.out.alloc _).trans o1 (fun _ _ g => g)
    have R3 := (o1.block w.heap.size (by simp) (fun g => g)).trans (alloc_at _ _ _ rfl)
    clear HS o1
    simp only [rdV, Tok.v]
    have c0 := blk_cells R3 0
    have c1 := blk_cells R3 1
    have c2 := blk_cells R3 2
    have c3 := blk_cells R3 3
    have z0 := blk_froz R3 0
    have z1 := blk_froz R3 1
    have z2 := blk_froz R3 2
    have z3 := blk_froz R3 3
    simp only [List.getElem?_toArray, List.getElem?_cons_zero, List.getElem?_cons_succ] at c0 c1 c2 c3
    go_wp2
    obtain ⟨q0, q1, q2, q3⟩ := set4 R3 rfl (.int .i64 k) (.string t) (.int .i64 n) (.int .i64 q)
    refine bodyPost_ret (results_tok rfl _ _ w.heap.size q0 q1 q2 q3 rfl) rfl ?_
    exact ⟨rfl, (((O1.out.setCell _ _ (fun g => by simp only at g; omega)).setCell _ _ (fun g => by simp only at g; omega)).setCell _ _ (fun g => by simp only at g; omega)).setCell _ _ (fun g => by simp only at g; omega)⟩
  · have i1 : ¬ (y : Int) = 34 := by omega
    rw [if_neg h34]
    obtain ⟨⟨⟨k, t, n, q⟩, p, e⟩, hr⟩ : ∃ r, r = wrdR s a := ⟨_, rfl⟩
    rw [← hr] at HW ⊢
    clear hr HS h34
    go_enter Tryd.func64, Tryd.ntmps64
    go_wp2_with fail
    refine (show Calls Tryd.prog 80 _ _ _ from HW.out _ (O0.out.alloc _)).mono ?_
    rintro e1 w1 ⟨rfl, o1⟩
    have O1 : Hid (Only (fun _ => False) w w1) := (O0.out.alloc _).trans o1 (fun _ _ g => g)
    have R3 := (o1.block w.heap.size (by simp) (fun g => g)).trans (alloc_at _ _ _ rfl)
    clear HW o1
    simp only [rdV, Tok.v]
    have c0 := blk_cells R3 0
    have c1 := blk_cells R3 1
    have c2 := blk_cells R3 2
    have c3 := blk_cells R3 3
    have z0 := blk_froz R3 0
    have z1 := blk_froz R3 1
    have z2 := blk_froz R3 2
    have z3 := blk_froz R3 3
    simp only [List.getElem?_toArray, List.getElem?_cons_zero, List.getElem?_cons_succ] at c0 c1 c2 c3
    go_wp2
    obtain ⟨q0, q1, q2, q3⟩ := set4 R3 rfl (.int .i64 k) (.string t) (.int .i64 n) (.int .i64 q)
    refine bodyPost_ret (results_tok rfl _ _ w.heap.size q0 q1 q2 q3 rfl) rfl ?_
    exact ⟨rfl, (((O1.out.setCell _ _ (fun g => by simp only at g; omega)).setCell _ _ (fun g => by simp only at g; omega)).setCell _ _ (fun g => by simp only at g; omega)).setCell _ _ (fun g => by simp only at g; omega)⟩
/-- Where the next token begins. -/
def bg (s : ByteArray) (a : Nat) : Nat := bgn s (s.size + 1) a
theorem bgn_bd (s : ByteArray) : ∀ (f a : Nat), a ≤ s.size → a ≤ bgn s f a ∧ bgn s f a ≤ s.size
  | 0, a, h => ⟨Nat.le_refl _, h⟩
  | f + 1, a, h => by
    have h1 := fnd_le (fun c => !blk c) s h
    unfold bgn
    split
    · have h2 := fnd_le (fun c => decide (c = 10)) s h1.2
      have := bgn_bd s f _ h2.2
      omega
    · exact h1
/-- A word that is read is not empty. -/
theorem wrd_go {s : ByteArray} {a : Nat} (ha : a ≤ s.size) (h : (wrdR s a).2.2 = 0) : a < (wrdR s a).2.1 ∧ (wrdR s a).2.1 ≤ s.size := by
  have hf := fnd_le (fun c => blk c) s ha
  unfold wrdR at h ⊢
  dsimp only at h ⊢
  by_cases he : fnd (fun c => blk c) s a = a
  · exfalso
    rw [he] at h
    have e0 : s.extract a a = ⟨#[]⟩ := by
      apply ByteArray.ext
      simp
    rw [e0] at h
    have n0 : (numR ⟨#[]⟩).2 = 9 := by decide
    have n1 : nmdB ⟨#[]⟩ = false := by
      unfold nmdB
      split
      · rfl
      · split
        · rfl
        · rfl
    rw [n0, n1, if_neg (by decide), if_neg (by decide), if_pos rfl] at h
    exact absurd h (by simp)
  · revert h
    split
    · intro _; exact ⟨by show a < fnd (fun c => blk c) s a; omega, hf.2⟩
    · split
      · intro h; simp at h
      · split
        · intro h; simp at h
        · intro _; exact ⟨by show a < fnd (fun c => blk c) s a; omega, hf.2⟩
theorem strG_go (a n : Nat) (S : ByteArray) (hS : a + 1 + S.size ≤ n) : ∀ (b pos : Nat) (e : Bool) (out : List Nat), (strG a n (crs S b pos) e out).2.2 = 0 → a < (strG a n (crs S b pos) e out).2.1 ∧ (strG a n (crs S b pos) e out).2.1 ≤ n
  | 0, pos, true, out => by intro h; simp [crs, strG] at h
  | 0, pos, false, out => by intro h; simp [crs, strG] at h
  | b + 1, pos, e, out => by
    by_cases hp : pos < S.size
    · rw [show crs S (b + 1) pos = (pos, (Utf8.decode S pos).1) :: crs S b (pos + (Utf8.decode S pos).2) by simp [crs, hp]]
      cases e with
      | true =>
        simp only [strG]
        cases hu : une (Utf8.decode S pos).1 with
        | none => intro h; simp at h
        | some m => exact strG_go a n S hS b _ _ _
      | false =>
        simp only [strG]
        split
        · exact strG_go a n S hS b _ _ _
        · split
          · split
            · intro h; simp at h
            · intro _; exact ⟨by show a < a + pos + 2; omega, by show a + pos + 2 ≤ n; omega⟩
          · exact strG_go a n S hS b _ _ _
    · rw [crs_end hp]
      cases e with
      | true => intro h; simp [strG] at h
      | false => intro h; simp [strG] at h
theorem red_go {s : ByteArray} {a : Nat} (ha : a < s.size) (h : (redR s a).2.2 = 0) : a < (redR s a).2.1 ∧ (redR s a).2.1 ≤ s.size := by
  unfold redR at h ⊢
  split at h
  · rw [if_pos (by assumption)]
    exact strG_go a s.size _ (by rw [ByteArray.size_extract]; omega) _ _ _ _ h
  · rw [if_neg (by assumption)]
    exact wrd_go (by omega) h
/-- The tokens from a place on, behind those that stand ahead. -/
def tokG (s : ByteArray) : Nat → Nat → List Tok → List Tok × Nat × Int
  | 0, _, acc => (acc, 0, 0)
  | f + 1, a, acc => if a < s.size then (if (redR s a).2.2 = 0 then (if acc.length = 4096 then ([], a, 11) else tokG s f (bg s (redR s a).2.1) (acc ++ [(redR s a).1])) else ([], (redR s a).2.1, (redR s a).2.2)) else (acc, 0, 0)
def tokR (s : ByteArray) : List Tok × Nat × Int := if 65536 < s.size then ([], 0, 11) else if stR s < s.size then ([], stR s, 8) else tokG s (s.size + 1) (bg s 0) []
end Go.Proofs.YtmmggnmgimgdfaaDoor
namespace Go.Proofs.YtmmggnmgimgdfaaDoor
open Go.RowKit Go.Lib
set_option linter.unusedSimpArgs false
set_option linter.unusedVariables false
/-- The cells of tokens. -/
def tkCs (l : List Tok) : List Value := l.flatMap fun t => [.int .i64 t.k, .string t.t, .int .i64 t.n, .int .i64 t.a]
theorem tkCs_snoc (l : List Tok) (t : Tok) : tkCs (l ++ [t]) = tkCs l ++ [.int .i64 t.k, .string t.t, .int .i64 t.n, .int .i64 t.a] := by simp [tkCs]
set_option maxRecDepth 100000 in
theorem tok_info : ∃ i z, Tryd.prog.info? 140 = some i ∧ i.zero = some z ∧ i.size = 4 ∧ i.bytes = 40 ∧ z.cells.size = 4 := ⟨_, _, rfl, rfl, rfl, rfl, rfl⟩
/-- A row of tokens that was made since block B. -/
def ToksAt (w : World) (B : Nat) (v : Value) (l : List Tok) : Prop := (∃ ao cap, v = .slice ao l.length cap) ∧ w.ownsRowF B 140 4 v l.length (tkCs l)
theorem toks_nil (w : World) (B : Nat) : ToksAt w B (.slice Option.none 0 0) [] := ⟨⟨_, _, rfl⟩, rfl, .inl ⟨rfl, rfl⟩⟩
theorem owns_only {w w' : World} {B : Nat} {e : TypeId} {sz : Nat} {v : Value} {n : Nat} {xs : List Value} (h : w.ownsRowF B e sz v n xs) (o : Only (fun _ => False) w w') : w'.ownsRowF B e sz v n xs := by
  refine ⟨h.1, ?_⟩
  rcases h.2 with g | ⟨g, cap, cur, fz, h1, h2, h3, h4⟩
  · exact .inl g
  · exact .inr ⟨g, cap, cur, fz, h1, h2, (o.block g (Array.getElem?_eq_some_iff.1 h3).1 (fun x => x)).trans h3, h4⟩
set_option maxRecDepth 100000 in
set_option maxHeartbeats 8000000 in
theorem tokens_any (s : ByteArray) (w : World) (h : Nog w) :
    Calls Tryd.prog 48 #[.string s] w fun e w' => ∃ v, e = .returned (.tuple #[v, .int .i64 ((tokR s).2.1 : Nat), .int .i64 (tokR s).2.2]) ∧ Hid (ToksAt w' w.heap.size v (tokR s).1 ∧ Below w.heap.size w w') := by
  unfold tokR
  by_cases hs : 65536 < s.size
  · rw [if_pos hs]
    have i1 : (65536 : Int) < (s.size : Int) := by omega
    go_enter Tryd.func48, Tryd.ntmps48
    go_wp2
    go_ret3
    exact ⟨_, rfl, toks_nil _ _, Below.refl _ _⟩
  · rw [if_neg hs]
    have i1 : ¬ (65536 : Int) < (s.size : Int) := by omega
    have HS : Hid (Calls Tryd.prog 62 #[.string s] w fun e w' => e = .returned (.int .i64 (stR s : Nat)) ∧ Only (fun _ => False) w w') := stray_any s (by omega) w
    obtain ⟨z, hz⟩ : ∃ z, z = stR s := ⟨_, rfl⟩
    rw [← hz] at HS ⊢
    clear hz
    by_cases hb : z < s.size
    · rw [if_pos hb]
      have i2 : (z : Int) < (s.size : Int) := by omega
      go_enter Tryd.func48, Tryd.ntmps48
      go_wp2_with fail
      refine (show Calls Tryd.prog 62 _ _ _ from HS.out).mono ?_
      rintro e w1 ⟨rfl, o1⟩
      have O1 : Hid (Below w.heap.size w w1) := only_below o1
      clear HS o1
      go_wp2
      go_ret3
      exact ⟨_, rfl, toks_nil _ _, O1.out⟩
    · rw [if_neg hb]
      have i2 : ¬ (z : Int) < (s.size : Int) := by omega
      have HG0 : Hid (∀ (a : Nat) w1, a ≤ s.size → Calls Tryd.prog 63 #[.string s, .int .i64 (a : Int)] w1 fun e w' => e = .returned (.int .i64 (bg s a : Nat)) ∧ Only (fun _ => False) w1 w') := fun a w1 ha => begin_any s (by omega) a (s.size + 1) ha (by omega) w1
      have HRd : Hid (∀ (a : Nat) w1, a < s.size → Below w.heap.size w w1 → Calls Tryd.prog 64 #[.string s, .int .i64 (a : Int)] w1 fun e w' => e = .returned (rdV (redR s a)) ∧ Only (fun _ => False) w1 w') := fun a w1 ha b => read_any s a ha (by omega) w1 (h.frame (below_only b))
      have hbd := bgn_bd s (s.size + 1) 0 (Nat.zero_le _)
      obtain ⟨Z, hZ⟩ : ∃ Z, Z = tokG s (s.size + 1) (bg s 0) [] := ⟨_, rfl⟩
      rw [← hZ]
      have HZ : Hid (Z = tokG s (s.size + 1) (bg s 0) []) := hZ
      have HG1 : Hid (∀ w1, Calls Tryd.prog 63 #[.string s, .int .i64 0] w1 fun e w' => e = .returned (.int .i64 (bg s 0 : Nat)) ∧ Only (fun _ => False) w1 w') := fun w1 => HG0.out 0 w1 (Nat.zero_le _)
      obtain ⟨a0, ha0⟩ : ∃ a0, a0 = bg s 0 := ⟨_, rfl⟩
      have HA0 : Hid (a0 ≤ s.size) := by show a0 ≤ s.size; rw [ha0]; exact hbd.2
      rw [← ha0] at HZ HG1
      clear hZ ha0 hbd h
      go_enter Tryd.func48, Tryd.ntmps48
      go_wp2_with fail
      refine (show Calls Tryd.prog 62 _ _ _ from HS.out).mono ?_
      rintro e w1 ⟨rfl, o1⟩
      have O1 : Hid (Below w.heap.size w w1) := only_below o1
      clear HS o1
      go_wp2_with fail
      refine (show Calls Tryd.prog 63 _ _ _ from HG1.out _).mono ?_
      rintro e w2 ⟨rfl, o2⟩
      have O2 : Hid (Below w.heap.size w w2) := O1.out.trans ((only_below o2).mono O1.out.size)
      clear HG1 O1 o2
      go_wp2
      go_loopw [6, 7] (fun r6 r7 wr => ∃ (a f : Nat) (acc : List Tok) (ao : Option Addr) (cap : Nat), r6 = .slice ao acc.length cap ∧ r7 = .int .i64 (a : Int) ∧ Hid (Z = tokG s f a acc ∧ s.size - a < f ∧ a ≤ s.size ∧ wr.ownsRowF w.heap.size 140 4 (.slice ao acc.length cap) acc.length (tkCs acc) ∧ Below w.heap.size w wr ∧ acc.length ≤ 4096)) (fun _ r7 _ => s.size - uOf r7)
      case atStart => exact ⟨a0, s.size + 1, [], none, 0, rfl, rfl, HZ.out, by omega, HA0.out, ⟨rfl, .inl ⟨rfl, rfl⟩⟩, O2.out, by simp⟩
      case round =>
        obtain ⟨a, f, acc, ao, cap, rfl, rfl, HI⟩ := hrel
        clear HZ O2 HA0
        have hf0 := HI.out.2.1
        obtain ⟨g, rfl⟩ : ∃ g, f = g + 1 := ⟨f - 1, by omega⟩
        obtain ⟨L, hL⟩ : ∃ L, L = acc.length := ⟨_, rfl⟩
        rw [← hL] at HI ⊢
        have HL : Hid (L = acc.length) := hL
        clear hL hf0
        by_cases ha : a < s.size
        · have C1 := HRd.out a
          have HR : Hid ((redR s a).2.2 = 0 → a < (redR s a).2.1 ∧ (redR s a).2.1 ≤ s.size) := red_go ha
          have HE : Hid (Z = if (redR s a).2.2 = 0 then (if acc.length = 4096 then ([], a, 11) else tokG s g (bg s (redR s a).2.1) (acc ++ [(redR s a).1])) else ([], (redR s a).2.1, (redR s a).2.2)) := by
            show Z = _
            rw [HI.out.1, tokG, if_pos ha]
          obtain ⟨⟨⟨k, t, n, q⟩, p, e⟩, hr⟩ : ∃ r, r = redR s a := ⟨_, rfl⟩
          rw [← hr] at HR HE C1
          dsimp only at HR HE
          clear hr
          have HC1 : Hid (∀ w1, Below w.heap.size w w1 → Calls Tryd.prog 64 _ _ _) := fun w1 b => C1 w1 ha b
          clear C1
          have i3 : (a : Int) < (s.size : Int) := by omega
          go_wp2_with fail
          refine (show Calls Tryd.prog 64 _ _ _ from HC1.out _ HI.out.2.2.2.2.1).mono ?_
          rintro e1 w3 ⟨rfl, o3⟩
          clear HC1
          have O3 : Hid (Below w.heap.size w w3) := HI.out.2.2.2.2.1.trans ((only_below o3).mono HI.out.2.2.2.2.1.size)
          have N3 : Hid (w3.ownsRowF w.heap.size 140 4 (.slice ao L cap) L (tkCs acc)) := owns_only HI.out.2.2.2.1 o3
          clear o3
          simp only [rdV, Tok.v]
          by_cases he : e = 0
          · subst he
            have hp := HR.out rfl
            by_cases h4 : L = 4096
            · have HE2 : Hid (Z = ([], a, 11)) := by
                show Z = _
                rw [HE.out, if_pos rfl, if_pos (by have : L = acc.length := HL.out; omega)]
              subst h4
              go_wp2
              go_ret3
              exact ⟨_, by rw [show Z = _ from HE2.out]; rfl, by rw [show Z = _ from HE2.out]; exact toks_nil _ _, O3.out.alloc O3.out.size _⟩
            · have HE2 : Hid (Z = tokG s g (bg s p) (acc ++ [⟨k, t, n, q⟩])) := by
                show Z = _
                rw [HE.out, if_pos rfl, if_neg (by have : L = acc.length := HL.out; omega)]
              have i4 : ¬ (L : Int) = 4096 := by omega
              obtain ⟨i0, z0, hi, hz0, hz1, hz2, hz3⟩ := tok_info
              have HL4 : Hid (L ≤ 4096) := HI.out.2.2.2.2.2
              have HQ : Hid (s.size - a < g + 1) := HI.out.2.1
              have hs3 := O3.out.size
              have HG2 : Hid (∀ w1, Calls Tryd.prog 63 #[.string s, .int .i64 (p : Int)] w1 fun e w' => e = .returned (.int .i64 (bg s p : Nat)) ∧ Only (fun _ => False) w1 w') := fun w1 => HG0.out p w1 hp.2
              have hbp := bgn_bd s (s.size + 1) p hp.2
              obtain ⟨p2, hp2⟩ : ∃ p2, p2 = bg s p := ⟨_, rfl⟩
              have HP2 : Hid (p ≤ p2 ∧ p2 ≤ s.size) := by rw [hp2]; exact hbp
              rw [← hp2] at HG2 HE2
              clear HE HI HR hbp hp2
              have HP : Hid (a < p) := hp.1
              clear hp
              go_wp2_with (at_builtin; refine wpList_append_ownF _ rfl _ _ 105 rfl w.heap.size 140 i0 z0 4 40 Tryd.underlying105 hi hz0 hz1 hz2 hz3 (by decide) _ L (tkCs acc) rfl ((N3.out.alloc _).alloc _) ⟨w3.heap.size + 1, 0, none⟩ 1 1 [.int .i64 k, .string t, .int .i64 n, .int .i64 q] rfl rfl ?c1 ?c2 ?c3 ?c4 ?c5 ?_)
              case c1 =>
                intro j u hj
                rcases j with _ | _ | _ | _ | j <;> simp at hj <;> subst hj <;> simp [Addr.add]
              case c2 =>
                intro u hu
                simp only [List.mem_cons, List.not_mem_nil, or_false] at hu
                rcases hu with rfl | rfl | rfl | rfl <;> rfl
              case c3 => have : L ≤ 4096 := HL4.out; unfold maxLen; omega
              case c4 => have : L ≤ 4096 := HL4.out; omega
              case c5 => simp; omega
              intro v' w4 hown' hgrow _
              obtain ⟨ao', cap', rfl⟩ : ∃ ao' cap', v' = .slice ao' (L + 1) cap' := by
                rcases hown'.2 with ⟨_, h0⟩ | ⟨g, cap', cur, fz, hv, _⟩
                · omega
                · exact ⟨_, cap', hv⟩
              have O4 : Hid (Below w.heap.size w w4) := ((O3.out.alloc hs3 _).alloc (by simp; omega) _).grown hgrow (by simp; omega) (fun k hk => (N3.out.lt k hk).1)
              have N4 : Hid (w4.ownsRowF w.heap.size 140 4 (.slice ao' (L + 1) cap') (L + 1) (tkCs (acc ++ [⟨k, t, n, q⟩]))) := by rw [tkCs_snoc]; exact hown'
              clear hown' hgrow N3 O3 hi hz0 hz1 hz2 hz3
              go_wp2_with fail
              refine (show Calls Tryd.prog 63 _ _ _ from HG2.out _).mono ?_
              rintro e5 w5 ⟨rfl, o5⟩
              have O5 : Hid (Below w.heap.size w w5) := O4.out.trans ((only_below o5).mono O4.out.size)
              have N5 := owns_only N4.out o5
              clear O4 N4 o5 HG2
              have e1 : L = acc.length := HL.out
              have e2 : (acc ++ [(⟨k, t, n, q⟩ : Tok)]).length = L + 1 := by simp [e1]
              have HF : Hid (L + 1 ≤ 4096) := by have : L ≤ 4096 := HL4.out; show L + 1 ≤ 4096; omega
              have HM : Hid (s.size - p2 < g ∧ s.size - p2 < s.size - a) := by
                have h1 : s.size - a < g + 1 := HQ.out
                have h2 : p ≤ p2 ∧ p2 ≤ s.size := HP2.out
                have h3 : a < p := HP.out
                exact ⟨by omega, by omega⟩
              clear HQ HP HL4 e1
              have HK : Hid (Z = tokG s g p2 (acc ++ [⟨k, t, n, q⟩]) ∧ s.size - p2 < g ∧ p2 ≤ s.size ∧ w5.ownsRowF w.heap.size 140 4 (.slice ao' (acc ++ [(⟨k, t, n, q⟩ : Tok)]).length cap') (acc ++ [(⟨k, t, n, q⟩ : Tok)]).length (tkCs (acc ++ [⟨k, t, n, q⟩])) ∧ Below w.heap.size w w5 ∧ (acc ++ [(⟨k, t, n, q⟩ : Tok)]).length ≤ 4096) := ⟨HE2.out, HM.out.1, HP2.out.2, by rw [e2]; exact N5, O5.out, by rw [e2]; exact HF.out⟩
              have HV : Hid ((Value.slice ao' (L + 1) cap') = .slice ao' (acc ++ [(⟨k, t, n, q⟩ : Tok)]).length cap') := by rw [e2]; exact rfl
              clear N5 e2 O5 HF HE2
              go_wp2
              go_roundw
              case rel => exact ⟨p2, g, acc ++ [(⟨k, t, n, q⟩ : Tok)], ao', cap', HV.out, rfl, HK⟩
              case measure => simp only [uOf]; exact HM.out.2
          · have HE2 : Hid (Z = ([], p, e)) := by
              show Z = _
              rw [HE.out, if_neg he]
            go_wp2
            go_ret3
            exact ⟨_, by rw [show Z = _ from HE2.out]; rfl, by rw [show Z = _ from HE2.out]; exact toks_nil _ _, O3.out.alloc O3.out.size _⟩
        · have HE : Hid (Z = (acc, 0, 0)) := by
            show Z = _
            rw [HI.out.1, tokG, if_neg ha]
          have i3 : ¬ (a : Int) < (s.size : Int) := by omega
          go_wp2
          go_ret3
          have e1 : L = acc.length := HL.out
          exact ⟨_, by rw [show Z = _ from HE.out]; rfl, by rw [show Z = _ from HE.out]; exact ⟨⟨ao, cap, by rw [e1]; rfl⟩, by have := HI.out.2.2.2.1; rw [e1] at this ⊢; exact this⟩, HI.out.2.2.2.2.1⟩
end Go.Proofs.YtmmggnmgimgdfaaDoor
