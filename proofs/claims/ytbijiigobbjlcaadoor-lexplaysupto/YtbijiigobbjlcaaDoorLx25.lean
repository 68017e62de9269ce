/- LexPlaces: the walk. -/
import Derived.Test.YtbijiigobbjlcaaDoorLx24
import Derived.Test.YtbijiigobbjlcaaDoorWc
namespace Go.Proofs.YtbijiigobbjlcaaDoor
open Go.RowKit Go.Lib
set_option linter.unusedSimpArgs false
set_option linter.unusedVariables false
set_option maxRecDepth 100000 in
set_option maxHeartbeats 1000000 in
theorem rblank_any (c : Nat) (w : World) : Calls Tryd.prog 20 #[.int .i32 (c : Int)] w fun e w' => e = .returned (.bool (blk c)) ∧ w' = w := by
  by_cases h9 : c = 9
  · subst h9
    rw [show blk 9 = true from rfl]
    go_enter Tryd.func20, Tryd.ntmps20
    go_wp2
    go_ret
    exact ⟨rfl, rfl⟩
  · have i9 : ¬ (c : Int) = 9 := by omega
    by_cases h10 : c = 10
    · subst h10
      rw [show blk 10 = true from rfl]
      go_enter Tryd.func20, Tryd.ntmps20
      go_wp2
      go_ret
      exact ⟨rfl, rfl⟩
    · have i10 : ¬ (c : Int) = 10 := by omega
      by_cases h13 : c = 13
      · subst h13
        rw [show blk 13 = true from rfl]
        go_enter Tryd.func20, Tryd.ntmps20
        go_wp2
        go_ret
        exact ⟨rfl, rfl⟩
      · have i13 : ¬ (c : Int) = 13 := by omega
        by_cases h32 : c = 32
        · subst h32
          rw [show blk 32 = true from rfl]
          go_enter Tryd.func20, Tryd.ntmps20
          go_wp2
          go_ret
          exact ⟨rfl, rfl⟩
        · have i32 : ¬ (c : Int) = 32 := by omega
          by_cases h160 : c = 160
          · subst h160
            rw [show blk 160 = true from rfl]
            go_enter Tryd.func20, Tryd.ntmps20
            go_wp2
            go_ret
            exact ⟨rfl, rfl⟩
          · have i160 : ¬ (c : Int) = 160 := by omega
            by_cases h12288 : c = 12288
            · subst h12288
              rw [show blk 12288 = true from rfl]
              go_enter Tryd.func20, Tryd.ntmps20
              go_wp2
              go_ret
              exact ⟨rfl, rfl⟩
            · have i12288 : ¬ (c : Int) = 12288 := by omega
              have e : blk c = false := by simp [blk, *]
              have e1 : ((c : Int) == 9 || (c : Int) == 10 || (c : Int) == 13 || (c : Int) == 32 || (c : Int) == 160 || (c : Int) == 12288) = false := by simp [i9, i10, i13, i32, i160, i12288]
              rw [e]
              go_enter Tryd.func20, Tryd.ntmps20
              go_wp2
              go_ret
              exact ⟨rfl, rfl⟩
theorem addr_add (g k : Nat) : (⟨g, 0, none⟩ : Addr).add k = ⟨g, k, none⟩ := by
  unfold Addr.add
  split
  · simp_all
  · simp
theorem owns_lower {w : World} {B C : Nat} {e : TypeId} {sz : Nat} {v : Value} {n : Nat} {xs : List Value} (h : w.ownsRowF B e sz v n xs) (hC : C ≤ B) : w.ownsRowF C e sz v n xs := by
  refine ⟨h.1, ?_⟩
  rcases h.2 with g | ⟨g, cap, cur, fz, h1, h2, h3⟩
  · exact .inl g
  · exact .inr ⟨g, cap, cur, fz, h1, by omega, h3⟩
/-- The cells of a row's token. -/
theorem toks_cells {w : World} {B : Nat} {v : Value} {l : List Tok} (h : ToksAt w B v l) {i : Nat} {t : Tok} (ht : l[i]? = some t) :
    ∃ g cap, v = .slice (some ⟨g, 0, none⟩) l.length cap ∧ B ≤ g ∧ g < w.heap.size ∧ w.cell? ⟨g, i * 4, none⟩ = some (.int .i64 t.k) ∧ w.cell? ⟨g, i * 4 + 1, none⟩ = some (.string t.t) ∧ w.cell? ⟨g, i * 4 + 2, none⟩ = some (.int .i64 t.n) ∧ w.cell? ⟨g, i * 4 + 3, none⟩ = some (.int .i64 t.a) := by
  obtain ⟨c0, c1, c2, c3⟩ := tkCs_get l i t ht
  have hi : i < l.length := (List.getElem?_eq_some_iff.1 ht).1
  rcases h.2.2 with ⟨_, h0⟩ | ⟨g, cap, cur, fz, hv, hB, hg, _⟩
  · omega
  · subst hv
    exact ⟨g, cap, rfl, hB, (Array.getElem?_eq_some_iff.1 hg).1, (by have := h.2.cells (g := g) rfl _ _ c0; rwa [addr_add] at this), (by have := h.2.cells (g := g) rfl _ _ c1; rwa [addr_add] at this), (by have := h.2.cells (g := g) rfl _ _ c2; rwa [addr_add] at this), (by have := h.2.cells (g := g) rfl _ _ c3; rwa [addr_add] at this)⟩
theorem toks_only {w w' : World} {B : Nat} {v : Value} {l : List Tok} (h : ToksAt w B v l) (o : Only (fun _ => False) w w') : ToksAt w' B v l := ⟨h.1, owns_only h.2 o⟩
theorem tokG_len (s : ByteArray) : ∀ (f a : Nat) (acc : List Tok), acc.length ≤ 4096 → (tokG s f a acc).1.length ≤ 4096
  | 0, a, acc, h => h
  | f + 1, a, acc, h => by
    unfold tokG
    split
    · split
      · split
        · exact Nat.zero_le _
        · exact tokG_len s f _ _ (by rw [List.length_append]; show acc.length + 1 ≤ 4096; omega)
      · exact Nat.zero_le _
    · exact h
theorem tokR_len (s : ByteArray) : (tokR s).1.length ≤ 4096 := by
  unfold tokR
  split
  · exact Nat.zero_le _
  · split
    · exact Nat.zero_le _
    · exact tokG_len s _ _ _ (Nat.zero_le _)
theorem tokR_size {s : ByteArray} (h : (tokR s).2.2 = 0) : s.size ≤ 65536 := by
  unfold tokR at h
  split at h
  · exact absurd h (by simp)
  · omega
theorem wrap_id {x : Int} (h0 : -9223372036854775808 ≤ x) (h1 : x ≤ 9223372036854775807) : IntKind.i64.wrap x = x := by
  rw [IntKind.wrap_i64]
  omega
theorem Chain.head {s : ByteArray} {last : Int} {l : List Tok} {i : Nat} {t : Tok} (h : Chain s last (l.drop i)) (ht : l[i]? = some t) : ∃ a : Nat, last < (a : Int) ∧ a < s.size ∧ TkOk s a t ∧ Chain s (a : Int) (l.drop (i + 1)) := by
  have hi := (List.getElem?_eq_some_iff.1 ht).1
  have : l.drop i = t :: l.drop (i + 1) := by
    rw [← (List.getElem?_eq_some_iff.1 ht).2]
    exact List.drop_eq_getElem_cons hi
  rw [this] at h
  exact h
set_option maxRecDepth 100000 in
set_option maxHeartbeats 4000000 in
theorem places_walk (s : ByteArray) (w : World) (h : Nog w) : Calls Tryd.prog 6 #[.string s] w fun e w' => e = .returned (.bool true) ∧ Below w.heap.size w w' := by
  have HA : Hid (Calls Tryd.prog 9 #[] w fun e w' => e = .returned (.bool true) ∧ Only (fun _ => False) w w') := awake_any w h
  have HT : Hid (∀ w1, Only (fun _ => False) w w1 → Calls Tryd.prog 10 #[.string s] w1 fun e w' => ∃ v, e = .returned (.tuple #[v, .int .i64 ((tokR s).2.1 : Nat), .int .i64 (tokR s).2.2]) ∧ Hid (ToksAt w' w1.heap.size v (tokR s).1 ∧ Below w1.heap.size w1 w')) := fun w1 o => tokens_any s w1 (h.frame o)
  have HN : Hid (∀ t w1, Only (fun _ => False) w w1 → nameB t = true → Calls Tryd.prog 17 #[.string t] w1 fun e w' => e = .returned (.bool true) ∧ Only (fun _ => False) w1 w') := fun t w1 o ht => by
    have := name_any t w1 (h.frame o)
    rw [ht] at this
    exact this
  have HC : Hid ((tokR s).2.2 = 0 → Chain s (-1) (tokR s).1) := tokR_chain
  have HE : Hid ((tokR s).2.2 ≠ 0 → (tokR s).1 = [] ∧ (tokR s).2.1 ≤ s.size) := tokR_le
  have HSz : Hid ((tokR s).2.2 = 0 → s.size ≤ 65536) := tokR_size
  have HLn : Hid ((tokR s).1.length ≤ 4096) := tokR_len s
  obtain ⟨⟨l, p, e⟩, hr⟩ : ∃ r, r = tokR s := ⟨_, rfl⟩
  rw [← hr] at HT HC HE HLn HSz
  dsimp only at HT HC HE HLn HSz
  clear hr h
  go_enter Tryd.func6, Tryd.ntmps6
  go_wp2_with fail
  refine (show Calls Tryd.prog 9 _ _ _ from HA.out).mono ?_
  rintro e1 w1 ⟨rfl, o1⟩
  have O1 : Hid (Only (fun _ => False) w w1) := o1
  clear HA o1
  go_wp2_with fail
  refine (show Calls Tryd.prog 10 _ _ _ from HT.out _ O1.out).mono ?_
  rintro e2 w2 ⟨v, rfl, g⟩
  have O2 : Hid (Only (fun _ => False) w w2) := O1.out.trans (below_only g.out.2) (fun _ _ x => x)
  have T2 : Hid (ToksAt w2 w.heap.size v l) := ⟨g.out.1.1, owns_lower g.out.1.2 O1.out.size⟩
  clear HT O1 g
  by_cases he : e = 0
  · subst he
    have HC1 : Hid (Chain s (-1) l) := HC.out rfl
    have hsz := HSz.out rfl
    clear HC HE
    obtain ⟨ao, cap, rfl⟩ := T2.out.1
    go_wp2
    go_loopw [6, 7] (fun r6 r7 wr => ∃ (i : Nat) (last : Int), r6 = .int .i64 last ∧ r7 = .int .i64 (i : Int) ∧ Hid (i ≤ l.length ∧ Chain s last (l.drop i) ∧ Only (fun _ => False) w wr ∧ ToksAt wr w.heap.size (.slice ao l.length cap) l)) (fun _ r7 _ => l.length - uOf r7)
    case atStart => exact ⟨0, -1, rfl, rfl, Nat.zero_le _, HC1.out, O2.out, T2.out⟩
    case round =>
      obtain ⟨i, last, rfl, rfl, HI⟩ := hrel
      obtain ⟨w5, rfl⟩ : ∃ w5, w5 = wr := ⟨_, rfl⟩
      clear HC1 T2 O2
      by_cases hi : i < l.length
      · have ht : l[i]? = some l[i] := List.getElem?_eq_getElem hi
        obtain ⟨⟨k, t, n, q⟩, hq⟩ : ∃ t, t = l[i] := ⟨_, rfl⟩
        rw [← hq] at ht
        obtain ⟨a, ha1, ha2, ok, ch⟩ := HI.out.2.1.head ht
        obtain ⟨g, cap', hv, hBg, hgz, c0, c1, c2, c3⟩ := toks_cells HI.out.2.2.2 ht
        injection hv with hv1 hv2 hv3
        subst hv1
        have hqa : q = (a : Int) := ok.at_
        subst hqa
        obtain ⟨L, hL⟩ : ∃ L, L = l.length := ⟨_, rfl⟩
        have i1 : (i : Int) < (L : Int) := by omega
        have i0 : (0 : Int) ≤ (i : Int) := Int.natCast_nonneg _
        have hLm : L ≤ 281474976710656 := by
          have := HLn.out
          omega
        have j1 : ¬ (a : Int) ≤ last := by omega
        have j2 : ¬ (s.size : Int) ≤ (a : Int) := by omega
        obtain ⟨S, hS⟩ : ∃ S, S = s.extract a s.size := ⟨_, rfl⟩
        have hsl : ∀ W : World, (Instr.slice 9 (.string s) (some (.int .i64 (a : Int))) none none).run Tryd.prog W = .ok (.string S) W := fun W => by
          rw [run_slice_string_l W 9 s Tryd.underlying9 _ _ (by omega) (by omega), hS]
          rfl
        have hSz : 0 < S.size := by rw [hS, ByteArray.size_extract]; omega
        have hSd : Utf8.decode S 0 = Utf8.decode s a := by rw [hS, tail_decode]; rfl
        have HK : Hid (i + 1 ≤ l.length ∧ Chain s (a : Int) (l.drop (i + 1)) ∧ Only (fun _ => False) w w5 ∧ ToksAt w5 w.heap.size (.slice (some ⟨g, 0, none⟩) L cap) l) := ⟨hi, ch, HI.out.2.2.1, by rw [hL]; exact HI.out.2.2.2⟩
        have HOK : Hid (TkOk s a ⟨k, t, n, a⟩) := ok
        rw [← hL]
        have HL : Hid (L = l.length) := hL
        clear HI ok ch ht hq ha1 hv2 hv3 hL hS
        go_wp2
        go_loopw [] (fun wx => wx = (w5.alloc (.cells #[.int .i64 k, .string t, .int .i64 n, .int .i64 (a : Int)] 36)).iter S 0) (fun _ => 0)
        case atStart => rfl
        case round =>
          subst hrel
          have hnx : ∀ ty, (Instr.next (.pointer (some ⟨w5.heap.size + 1, 0, none⟩)) true ty).run Tryd.prog ((w5.alloc (.cells #[.int .i64 k, .string t, .int .i64 n, .int .i64 (a : Int)] 36)).iter S 0) = _ := fun ty => by
            have := run_next_any (P := Tryd.prog) (w5.alloc (.cells #[.int .i64 k, .string t, .int .i64 n, .int .i64 (a : Int)] 36)) S 0 ty hSz
            simpa using this
          have hnb := HOK.out.nb
          have hst := HOK.out.str
          rw [hSd] at hnx
          obtain ⟨c, hc⟩ : ∃ c, c = (Utf8.decode s a).1 := ⟨_, rfl⟩
          obtain ⟨wd, hw⟩ : ∃ c, c = (Utf8.decode s a).2 := ⟨_, rfl⟩
          rw [← hc, ← hw] at hnx
          rw [← hc] at hnb hst
          have HB : Hid (∀ w1, Calls Tryd.prog 20 #[.int .i32 (c : Int)] w1 fun e w' => e = .returned (.bool false) ∧ w' = w1) := fun w1 => by rw [← hnb]; exact rblank_any c w1
          obtain ⟨W6, hW6⟩ : ∃ W6, W6 = (w5.alloc (.cells #[.int .i64 k, .string t, .int .i64 n, .int .i64 (a : Int)] 36)).iter S wd := ⟨_, rfl⟩
          have hW : ∀ j : Nat, W6.cell? ⟨w5.heap.size, j, none⟩ = (#[.int .i64 k, .string t, .int .i64 n, .int .i64 (a : Int)] : Array Value)[j]? := fun j => by
            have hb : W6.heap[w5.heap.size]? = some (.cells #[.int .i64 k, .string t, .int .i64 n, .int .i64 (a : Int)] 36) := by
              rw [hW6]
              exact (alloc_old _ _ w5.heap.size (by simp)).trans (alloc_at _ _ _ rfl)
            exact blk_cells hb j
          have d0 := hW 0
          have d1 := hW 1
          have d3 := hW 3
          simp only [List.getElem?_toArray, List.getElem?_cons_zero, List.getElem?_cons_succ] at d0 d1 d3
          have O6 : Hid (Only (fun _ => False) w5 W6) := by rw [hW6]; exact ((Only.refl _ w5).alloc _).alloc _
          have hnx2 : ∀ ty, (Instr.next (.pointer (some ⟨w5.heap.size + 1, 0, none⟩)) true ty).run Tryd.prog ((w5.alloc (.cells #[.int .i64 k, .string t, .int .i64 n, .int .i64 (a : Int)] 36)).iter S 0) = .ok (.tuple #[.bool true, .int .i64 0, .int .i32 (c : Int)]) W6 := fun ty => by rw [hnx ty, hW6]
          have HF6 : Hid (∀ W7, Only (fun _ => False) W6 W7 → Only (fun _ => False) w W7 ∧ ToksAt W7 w.heap.size (.slice (some ⟨g, 0, none⟩) L cap) l) := fun W7 o7 => ⟨(HK.out.2.2.1.trans O6.out (fun _ _ x => x)).trans o7 (fun _ _ x => x), toks_only HK.out.2.2.2 (O6.out.trans o7 (fun _ _ x => x))⟩
          have HG : Hid (i + 1 ≤ L ∧ Chain s (a : Int) (l.drop (i + 1))) := ⟨by have : L = l.length := HL.out; have := HK.out.1; omega, HK.out.2.1⟩
          clear hnx hW hW6 hc hw hSd hSz hsl c0 c1 c2 c3 hnb HK O6
          by_cases h3 : k = 3
          · have h34 := hst.1 h3
            subst h3
            subst h34
            clear hst HOK
            go_wp2_with fail
            refine (show Calls Tryd.prog 20 _ _ _ from HB.out _).mono ?_
            rintro e3 wz ⟨rfl, hwz⟩
            subst wz
            clear HB
            go_wp2
            go_quiet (fail)
            go_wp2
            go_roundw
            case rel => exact ⟨i + 1, a, rfl, by go_num, HG.out.1, HG.out.2, HF6.out _ ((Only.refl _ W6).drewN _)⟩
            case measure => simp only [uOf]; omega
          · have h34 : ¬ (c : Int) = 34 := fun g => h3 (hst.2 (by omega))
            clear hst
            have hk3 : (k == 3) = false := by simp [h3]
            have hc34 : ((c : Int) == 34) = false := by simp [h34]
            go_wp2_with fail
            refine (show Calls Tryd.prog 20 _ _ _ from HB.out _).mono ?_
            rintro e3 wz ⟨rfl, hwz⟩
            subst wz
            clear HB
            by_cases h1 : k = 1
            · obtain ⟨z1, z2, z3⟩ := HOK.out.word h1
              subst h1
              have z1 : t.size ≤ s.size - a := z1
              have z2 : s.extract a (a + t.size) = t := z2
              have hw1 : IntKind.i64.wrap ((s.size : Int) - (a : Int)) = (s.size : Int) - (a : Int) := wrap_id (by omega) (by omega)
              have hw2 : IntKind.i64.wrap ((a : Int) + (t.size : Int)) = (a : Int) + (t.size : Int) := wrap_id (by omega) (by omega)
              have z1' : ¬ (s.size : Int) - (a : Int) < (t.size : Int) := by omega
              have hs2 : ∀ W : World, (Instr.slice 9 (.string s) (some (.int .i64 (a : Int))) (some (.int .i64 ((a : Int) + (t.size : Int)))) none).run Tryd.prog W = .ok (.string t) W := fun W => by
                rw [show ((a : Int) + (t.size : Int)) = ((a + t.size : Nat) : Int) by omega, run_slice_string W 9 s _ _ _ _ Tryd.underlying9 (by omega) (by omega) (by omega)]
                show Result.ok (Value.string (s.extract a (a + t.size))) W = _
                rw [z2]
              have HNm : Hid (∀ W7, Only (fun _ => False) W6 W7 → Calls Tryd.prog 17 #[.string t] W7 fun e w' => e = .returned (.bool true) ∧ Only (fun _ => False) W7 w') := fun W7 o7 => HN.out t W7 (HF6.out W7 o7).1 z3
              clear HOK z1 z2 z3
              have HKp : Hid (∀ W W', (Only (fun _ => False) W6 W ∧ W.cell? ⟨w5.heap.size, 0, none⟩ = some (.int .i64 1) ∧ W.cell? ⟨w5.heap.size, 1, none⟩ = some (.string t) ∧ W.cell? ⟨w5.heap.size, 3, none⟩ = some (.int .i64 (a : Int))) → Only (fun _ => False) W W' → (Only (fun _ => False) W6 W' ∧ W'.cell? ⟨w5.heap.size, 0, none⟩ = some (.int .i64 1) ∧ W'.cell? ⟨w5.heap.size, 1, none⟩ = some (.string t) ∧ W'.cell? ⟨w5.heap.size, 3, none⟩ = some (.int .i64 (a : Int)))) := fun W W' g o => ⟨g.1.trans o (fun _ _ x => x), o.cell g.2.1 (fun x => x), o.cell g.2.2.1 (fun x => x), o.cell g.2.2.2 (fun x => x)⟩
              go_wp2_with fail
              refine wp_region_held_drew (S := fun w' => Only (fun _ => False) W6 w' ∧ w'.cell? ⟨w5.heap.size, 0, none⟩ = some (.int .i64 1) ∧ w'.cell? ⟨w5.heap.size, 1, none⟩ = some (.string t) ∧ w'.cell? ⟨w5.heap.size, 3, none⟩ = some (.int .i64 (a : Int))) (by kernel_rfl) ⟨(Only.refl _ W6).drew, d0, d1, d3⟩ (fun hHeld => ?_)
              refine wpAnyH_take (i := 0) (v := .pointer (some ⟨w5.heap.size, 0, none⟩)) rfl (by kernel_rfl) (by kernel_rfl) (by kernel_rfl) (fun _ _ _ h => h) (Or.inl ⟨by rfl, fun wx hSw => by go_simp⟩) hHeld ?_
              simp only [Act.put, List.setIfInBounds_toArray, List.set_cons_zero, List.set_cons_succ, List.getElem_toArray, List.getElem_cons_zero, List.getElem_cons_succ]
              refine wpAnyH_take (i := 1) (v := .int .i64 1) rfl (by kernel_rfl) (by kernel_rfl) (by kernel_rfl) (fun _ _ _ h => h) (Or.inl ⟨by rfl, fun wx hSw => by obtain ⟨q0, q1, q2, q3⟩ := hSw; go_simp⟩) hHeld ?_
              simp only [Act.put, List.setIfInBounds_toArray, List.set_cons_zero, List.set_cons_succ, List.getElem_toArray, List.getElem_cons_zero, List.getElem_cons_succ]
              refine wpAnyH_take (i := 2) (v := .bool true) rfl (by kernel_rfl) (by kernel_rfl) (by kernel_rfl) (fun _ _ _ h => h) (Or.inl ⟨by rfl, fun wx hSw => by go_simp⟩) hHeld ?_
              simp only [Act.put, List.setIfInBounds_toArray, List.set_cons_zero, List.set_cons_succ, List.getElem_toArray, List.getElem_cons_zero, List.getElem_cons_succ]
              refine wpAnyH_take (i := 3) (v := .bool true) rfl (by kernel_rfl) (by kernel_rfl) (by kernel_rfl) (fun _ _ _ h => h) (Or.inl ⟨by rfl, fun wx hSw => by go_simp⟩) hHeld ?_
              simp only [Act.put, List.setIfInBounds_toArray, List.set_cons_zero, List.set_cons_succ, List.getElem_toArray, List.getElem_cons_zero, List.getElem_cons_succ]
              refine wpAnyH_take (i := 4) (v := .pointer (some ⟨w5.heap.size, 1, none⟩)) rfl (by kernel_rfl) (by kernel_rfl) (by kernel_rfl) (fun _ _ _ h => h) (Or.inl ⟨by rfl, fun wx hSw => by go_simp⟩) hHeld ?_
              simp only [Act.put, List.setIfInBounds_toArray, List.set_cons_zero, List.set_cons_succ, List.getElem_toArray, List.getElem_cons_zero, List.getElem_cons_succ]
              refine wpAnyH_take (i := 5) (v := .string t) rfl (by kernel_rfl) (by kernel_rfl) (by kernel_rfl) (fun _ _ _ h => h) (Or.inl ⟨by rfl, fun wx hSw => by obtain ⟨q0, q1, q2, q3⟩ := hSw; go_simp⟩) hHeld ?_
              simp only [Act.put, List.setIfInBounds_toArray, List.set_cons_zero, List.set_cons_succ, List.getElem_toArray, List.getElem_cons_zero, List.getElem_cons_succ]
              refine wpAnyH_take (i := 6) (v := .int .i64 (t.size : Int)) rfl (by kernel_rfl) (by kernel_rfl) (by kernel_rfl) (fun _ _ _ h => h) (Or.inl ⟨by rfl, fun wx hSw => by go_simp⟩) hHeld ?_
              simp only [Act.put, List.setIfInBounds_toArray, List.set_cons_zero, List.set_cons_succ, List.getElem_toArray, List.getElem_cons_zero, List.getElem_cons_succ]
              refine wpAnyH_take (i := 7) (v := .string s) rfl (by kernel_rfl) (by kernel_rfl) (by kernel_rfl) (fun _ _ _ h => h) (Or.inl ⟨by rfl, fun wx hSw => by go_simp⟩) hHeld ?_
              simp only [Act.put, List.setIfInBounds_toArray, List.set_cons_zero, List.set_cons_succ, List.getElem_toArray, List.getElem_cons_zero, List.getElem_cons_succ]
              refine wpAnyH_take (i := 8) (v := .int .i64 (s.size : Int)) rfl (by kernel_rfl) (by kernel_rfl) (by kernel_rfl) (fun _ _ _ h => h) (Or.inl ⟨by rfl, fun wx hSw => by go_simp⟩) hHeld ?_
              simp only [Act.put, List.setIfInBounds_toArray, List.set_cons_zero, List.set_cons_succ, List.getElem_toArray, List.getElem_cons_zero, List.getElem_cons_succ]
              refine wpAnyH_take (i := 9) (v := .pointer (some ⟨w5.heap.size, 3, none⟩)) rfl (by kernel_rfl) (by kernel_rfl) (by kernel_rfl) (fun _ _ _ h => h) (Or.inl ⟨by rfl, fun wx hSw => by go_simp⟩) hHeld ?_
              simp only [Act.put, List.setIfInBounds_toArray, List.set_cons_zero, List.set_cons_succ, List.getElem_toArray, List.getElem_cons_zero, List.getElem_cons_succ]
              refine wpAnyH_take (i := 10) (v := .int .i64 (a : Int)) rfl (by kernel_rfl) (by kernel_rfl) (by kernel_rfl) (fun _ _ _ h => h) (Or.inl ⟨by rfl, fun wx hSw => by obtain ⟨q0, q1, q2, q3⟩ := hSw; go_simp⟩) hHeld ?_
              simp only [Act.put, List.setIfInBounds_toArray, List.set_cons_zero, List.set_cons_succ, List.getElem_toArray, List.getElem_cons_zero, List.getElem_cons_succ]
              refine wpAnyH_take (i := 11) (v := .int .i64 ((s.size : Int) - (a : Int))) rfl (by kernel_rfl) (by kernel_rfl) (by kernel_rfl) (fun _ _ _ h => h) (Or.inl ⟨by rfl, fun wx hSw => by go_simp⟩) hHeld ?_
              simp only [Act.put, List.setIfInBounds_toArray, List.set_cons_zero, List.set_cons_succ, List.getElem_toArray, List.getElem_cons_zero, List.getElem_cons_succ]
              refine wpAnyH_take (i := 12) (v := .bool false) rfl (by kernel_rfl) (by kernel_rfl) (by kernel_rfl) (fun _ _ _ h => h) (Or.inl ⟨by rfl, fun wx hSw => by go_simp⟩) hHeld ?_
              simp only [Act.put, List.setIfInBounds_toArray, List.set_cons_zero, List.set_cons_succ, List.getElem_toArray, List.getElem_cons_zero, List.getElem_cons_succ]
              refine wpAnyH_take (i := 13) (v := .bool false) rfl (by kernel_rfl) (by kernel_rfl) (by kernel_rfl) (fun _ _ _ h => h) (Or.inl ⟨by rfl, fun wx hSw => by go_simp⟩) hHeld ?_
              simp only [Act.put, List.setIfInBounds_toArray, List.set_cons_zero, List.set_cons_succ, List.getElem_toArray, List.getElem_cons_zero, List.getElem_cons_succ]
              refine wpAnyH_take (i := 14) (v := .string s) rfl (by kernel_rfl) (by kernel_rfl) (by kernel_rfl) (fun _ _ _ h => h) (Or.inl ⟨by rfl, fun wx hSw => by go_simp⟩) hHeld ?_
              simp only [Act.put, List.setIfInBounds_toArray, List.set_cons_zero, List.set_cons_succ, List.getElem_toArray, List.getElem_cons_zero, List.getElem_cons_succ]
              refine wpAnyH_take (i := 15) (v := .pointer (some ⟨w5.heap.size, 3, none⟩)) rfl (by kernel_rfl) (by kernel_rfl) (by kernel_rfl) (fun _ _ _ h => h) (Or.inl ⟨by rfl, fun wx hSw => by go_simp⟩) hHeld ?_
              simp only [Act.put, List.setIfInBounds_toArray, List.set_cons_zero, List.set_cons_succ, List.getElem_toArray, List.getElem_cons_zero, List.getElem_cons_succ]
              refine wpAnyH_take (i := 16) (v := .int .i64 (a : Int)) rfl (by kernel_rfl) (by kernel_rfl) (by kernel_rfl) (fun _ _ _ h => h) (Or.inl ⟨by rfl, fun wx hSw => by obtain ⟨q0, q1, q2, q3⟩ := hSw; go_simp⟩) hHeld ?_
              simp only [Act.put, List.setIfInBounds_toArray, List.set_cons_zero, List.set_cons_succ, List.getElem_toArray, List.getElem_cons_zero, List.getElem_cons_succ]
              refine wpAnyH_take (i := 17) (v := .pointer (some ⟨w5.heap.size, 3, none⟩)) rfl (by kernel_rfl) (by kernel_rfl) (by kernel_rfl) (fun _ _ _ h => h) (Or.inl ⟨by rfl, fun wx hSw => by go_simp⟩) hHeld ?_
              simp only [Act.put, List.setIfInBounds_toArray, List.set_cons_zero, List.set_cons_succ, List.getElem_toArray, List.getElem_cons_zero, List.getElem_cons_succ]
              refine wpAnyH_take (i := 18) (v := .int .i64 (a : Int)) rfl (by kernel_rfl) (by kernel_rfl) (by kernel_rfl) (fun _ _ _ h => h) (Or.inl ⟨by rfl, fun wx hSw => by obtain ⟨q0, q1, q2, q3⟩ := hSw; go_simp⟩) hHeld ?_
              simp only [Act.put, List.setIfInBounds_toArray, List.set_cons_zero, List.set_cons_succ, List.getElem_toArray, List.getElem_cons_zero, List.getElem_cons_succ]
              refine wpAnyH_take (i := 19) (v := .pointer (some ⟨w5.heap.size, 1, none⟩)) rfl (by kernel_rfl) (by kernel_rfl) (by kernel_rfl) (fun _ _ _ h => h) (Or.inl ⟨by rfl, fun wx hSw => by go_simp⟩) hHeld ?_
              simp only [Act.put, List.setIfInBounds_toArray, List.set_cons_zero, List.set_cons_succ, List.getElem_toArray, List.getElem_cons_zero, List.getElem_cons_succ]
              refine wpAnyH_take (i := 20) (v := .string t) rfl (by kernel_rfl) (by kernel_rfl) (by kernel_rfl) (fun _ _ _ h => h) (Or.inl ⟨by rfl, fun wx hSw => by obtain ⟨q0, q1, q2, q3⟩ := hSw; go_simp⟩) hHeld ?_
              simp only [Act.put, List.setIfInBounds_toArray, List.set_cons_zero, List.set_cons_succ, List.getElem_toArray, List.getElem_cons_zero, List.getElem_cons_succ]
              refine wpAnyH_take (i := 21) (v := .int .i64 (t.size : Int)) rfl (by kernel_rfl) (by kernel_rfl) (by kernel_rfl) (fun _ _ _ h => h) (Or.inl ⟨by rfl, fun wx hSw => by go_simp⟩) hHeld ?_
              simp only [Act.put, List.setIfInBounds_toArray, List.set_cons_zero, List.set_cons_succ, List.getElem_toArray, List.getElem_cons_zero, List.getElem_cons_succ]
              refine wpAnyH_take (i := 22) (v := .int .i64 ((a : Int) + (t.size : Int))) rfl (by kernel_rfl) (by kernel_rfl) (by kernel_rfl) (fun _ _ _ h => h) (Or.inl ⟨by rfl, fun wx hSw => by go_simp⟩) hHeld ?_
              simp only [Act.put, List.setIfInBounds_toArray, List.set_cons_zero, List.set_cons_succ, List.getElem_toArray, List.getElem_cons_zero, List.getElem_cons_succ]
              refine wpAnyH_take (i := 23) (v := .string t) rfl (by kernel_rfl) (by kernel_rfl) (by kernel_rfl) (fun _ _ _ h => h) (Or.inl ⟨by rfl, fun wx hSw => by go_simp⟩) hHeld ?_
              simp only [Act.put, List.setIfInBounds_toArray, List.set_cons_zero, List.set_cons_succ, List.getElem_toArray, List.getElem_cons_zero, List.getElem_cons_succ]
              refine wpAnyH_take (i := 24) (v := .pointer (some ⟨w5.heap.size, 1, none⟩)) rfl (by kernel_rfl) (by kernel_rfl) (by kernel_rfl) (fun _ _ _ h => h) (Or.inl ⟨by rfl, fun wx hSw => by go_simp⟩) hHeld ?_
              simp only [Act.put, List.setIfInBounds_toArray, List.set_cons_zero, List.set_cons_succ, List.getElem_toArray, List.getElem_cons_zero, List.getElem_cons_succ]
              refine wpAnyH_take (i := 25) (v := .string t) rfl (by kernel_rfl) (by kernel_rfl) (by kernel_rfl) (fun _ _ _ h => h) (Or.inl ⟨by rfl, fun wx hSw => by obtain ⟨q0, q1, q2, q3⟩ := hSw; go_simp⟩) hHeld ?_
              simp only [Act.put, List.setIfInBounds_toArray, List.set_cons_zero, List.set_cons_succ, List.getElem_toArray, List.getElem_cons_zero, List.getElem_cons_succ]
              refine wpAnyH_take (i := 26) (v := .bool false) rfl (by kernel_rfl) (by kernel_rfl) (by kernel_rfl) (fun _ _ _ h => h) (Or.inl ⟨by rfl, fun wx hSw => by go_simp⟩) hHeld ?_
              simp only [Act.put, List.setIfInBounds_toArray, List.set_cons_zero, List.set_cons_succ, List.getElem_toArray, List.getElem_cons_zero, List.getElem_cons_succ]
              refine wpAnyH_take (i := 27) (v := .bool false) rfl (by kernel_rfl) (by kernel_rfl) (by kernel_rfl) (fun _ _ _ h => h) (Or.inl ⟨by rfl, fun wx hSw => by go_simp⟩) hHeld ?_
              simp only [Act.put, List.setIfInBounds_toArray, List.set_cons_zero, List.set_cons_succ, List.getElem_toArray, List.getElem_cons_zero, List.getElem_cons_succ]
              refine wpAnyH_take (i := 28) (v := .bool false) rfl (by kernel_rfl) (by kernel_rfl) (by kernel_rfl) (fun _ _ _ h => h) (Or.inl ⟨by rfl, fun wx hSw => by go_simp⟩) hHeld ?_
              simp only [Act.put, List.setIfInBounds_toArray, List.set_cons_zero, List.set_cons_succ, List.getElem_toArray, List.getElem_cons_zero, List.getElem_cons_succ]
              refine wpAnyH_take (i := 29) (v := .pointer (some ⟨w5.heap.size, 1, none⟩)) rfl (by kernel_rfl) (by kernel_rfl) (by kernel_rfl) (fun _ _ _ h => h) (Or.inl ⟨by rfl, fun wx hSw => by go_simp⟩) hHeld ?_
              simp only [Act.put, List.setIfInBounds_toArray, List.set_cons_zero, List.set_cons_succ, List.getElem_toArray, List.getElem_cons_zero, List.getElem_cons_succ]
              refine wpAnyH_take (i := 30) (v := .string t) rfl (by kernel_rfl) (by kernel_rfl) (by kernel_rfl) (fun _ _ _ h => h) (Or.inl ⟨by rfl, fun wx hSw => by obtain ⟨q0, q1, q2, q3⟩ := hSw; go_simp⟩) hHeld ?_
              simp only [Act.put, List.setIfInBounds_toArray, List.set_cons_zero, List.set_cons_succ, List.getElem_toArray, List.getElem_cons_zero, List.getElem_cons_succ]
              refine wpAnyH_ready (rs := [31]) (by kernel_rfl) (by simp) ?_
              refine AllReadyH.cons rfl (fun K hK => ?_) AllReadyH.nil
              rw [if_pos (by rfl)]
              refine wp_call_func #[.tmp 105] #[9] rfl #[.string t] (by simp [Act.eval]) (enters_of Tryd.func17 (by kernel_rfl) rfl) (HNm.out _ hHeld.1) (fun e W4 he4 => ?_)
              obtain ⟨rfl, o4⟩ := he4
              have hH4 := HKp.out _ _ hHeld o4
              refine ⟨_, rfl, hK _ _ hH4 (fun hHeld => ?_)⟩
              clear hK K hH4 o4
              simp only [Act.put, List.setIfInBounds_toArray, List.set_cons_zero, List.set_cons_succ, List.getElem_toArray, List.getElem_cons_zero, List.getElem_cons_succ]
              refine wpAnyH_take (i := 32) (v := .bool false) rfl (by kernel_rfl) (by kernel_rfl) (by kernel_rfl) (fun _ _ _ h => h) (Or.inl ⟨by rfl, fun wx hSw => by go_simp⟩) hHeld ?_
              simp only [Act.put, List.setIfInBounds_toArray, List.set_cons_zero, List.set_cons_succ, List.getElem_toArray, List.getElem_cons_zero, List.getElem_cons_succ]
              refine wpAnyH_take (i := 33) (v := .bool false) rfl (by kernel_rfl) (by kernel_rfl) (by kernel_rfl) (fun _ _ _ h => h) (Or.inl ⟨by rfl, fun wx hSw => by go_simp⟩) hHeld ?_
              simp only [Act.put, List.setIfInBounds_toArray, List.set_cons_zero, List.set_cons_succ, List.getElem_toArray, List.getElem_cons_zero, List.getElem_cons_succ]
              refine wpAnyH_take (i := 34) (v := .bool false) rfl (by kernel_rfl) (by kernel_rfl) (by kernel_rfl) (fun _ _ _ h => h) (Or.inl ⟨by rfl, fun wx hSw => by go_simp⟩) hHeld ?_
              simp only [Act.put, List.setIfInBounds_toArray, List.set_cons_zero, List.set_cons_succ, List.getElem_toArray, List.getElem_cons_zero, List.getElem_cons_succ]
              refine wpAnyH_done (by kernel_rfl) ?_ _
              have HF7 := HF6.out _ hHeld.1
              clear hHeld HNm HKp
              go_wp2
              go_roundw
              case rel => exact ⟨i + 1, a, rfl, by go_num, HG.out.1, HG.out.2, HF7⟩
              case measure => simp only [uOf]; omega
            · have h1b : (k == 1) = false := by simp [h1]
              go_wp2_with fail
              refine wp_region_held_drew (S := fun w' => Only (fun _ => False) W6 w' ∧ w'.cell? ⟨w5.heap.size, 0, none⟩ = some (.int .i64 k)) (by kernel_rfl) ⟨(Only.refl _ W6).drew, d0⟩ (fun hHeld => ?_)
              refine wpAnyH_take (i := 0) (v := .pointer (some ⟨w5.heap.size, 0, none⟩)) rfl (by kernel_rfl) (by kernel_rfl) (by kernel_rfl) (fun _ _ _ h => h) (Or.inl ⟨by rfl, fun wx hSw => by go_simp⟩) hHeld ?_
              simp only [Act.put, List.setIfInBounds_toArray, List.set_cons_zero, List.set_cons_succ, List.getElem_toArray, List.getElem_cons_zero, List.getElem_cons_succ]
              refine wpAnyH_take (i := 1) (v := .int .i64 k) rfl (by kernel_rfl) (by kernel_rfl) (by kernel_rfl) (fun _ _ _ h => h) (Or.inl ⟨by rfl, fun wx hSw => by obtain ⟨q0, q1⟩ := hSw; go_simp⟩) hHeld ?_
              simp only [Act.put, List.setIfInBounds_toArray, List.set_cons_zero, List.set_cons_succ, List.getElem_toArray, List.getElem_cons_zero, List.getElem_cons_succ]
              refine wpAnyH_take (i := 2) (v := .bool false) rfl (by kernel_rfl) (by kernel_rfl) (by kernel_rfl) (fun _ _ _ h => h) (Or.inl ⟨by rfl, fun wx hSw => by go_simp⟩) hHeld ?_
              simp only [Act.put, List.setIfInBounds_toArray, List.set_cons_zero, List.set_cons_succ, List.getElem_toArray, List.getElem_cons_zero, List.getElem_cons_succ]
              refine wpAnyH_take (i := 3) (v := .bool false) rfl (by kernel_rfl) (by kernel_rfl) (by kernel_rfl) (fun _ _ _ h => h) (Or.inl ⟨by rfl, fun wx hSw => by go_simp⟩) hHeld ?_
              simp only [Act.put, List.setIfInBounds_toArray, List.set_cons_zero, List.set_cons_succ, List.getElem_toArray, List.getElem_cons_zero, List.getElem_cons_succ]
              refine wpAnyH_take (i := 4) (v := undef) rfl (by kernel_rfl) (by kernel_rfl) (by kernel_rfl) (fun _ _ _ h => h) (Or.inr ⟨by rfl, rfl⟩) hHeld ?_
              simp only [Act.put, List.setIfInBounds_toArray, List.set_cons_zero, List.set_cons_succ, List.getElem_toArray, List.getElem_cons_zero, List.getElem_cons_succ]
              refine wpAnyH_take (i := 5) (v := undef) rfl (by kernel_rfl) (by kernel_rfl) (by kernel_rfl) (fun _ _ _ h => h) (Or.inr ⟨by rfl, rfl⟩) hHeld ?_
              simp only [Act.put, List.setIfInBounds_toArray, List.set_cons_zero, List.set_cons_succ, List.getElem_toArray, List.getElem_cons_zero, List.getElem_cons_succ]
              refine wpAnyH_take (i := 6) (v := undef) rfl (by kernel_rfl) (by kernel_rfl) (by kernel_rfl) (fun _ _ _ h => h) (Or.inr ⟨by rfl, rfl⟩) hHeld ?_
              simp only [Act.put, List.setIfInBounds_toArray, List.set_cons_zero, List.set_cons_succ, List.getElem_toArray, List.getElem_cons_zero, List.getElem_cons_succ]
              refine wpAnyH_take (i := 7) (v := undef) rfl (by kernel_rfl) (by kernel_rfl) (by kernel_rfl) (fun _ _ _ h => h) (Or.inr ⟨by rfl, rfl⟩) hHeld ?_
              simp only [Act.put, List.setIfInBounds_toArray, List.set_cons_zero, List.set_cons_succ, List.getElem_toArray, List.getElem_cons_zero, List.getElem_cons_succ]
              refine wpAnyH_take (i := 8) (v := undef) rfl (by kernel_rfl) (by kernel_rfl) (by kernel_rfl) (fun _ _ _ h => h) (Or.inr ⟨by rfl, rfl⟩) hHeld ?_
              simp only [Act.put, List.setIfInBounds_toArray, List.set_cons_zero, List.set_cons_succ, List.getElem_toArray, List.getElem_cons_zero, List.getElem_cons_succ]
              refine wpAnyH_take (i := 9) (v := undef) rfl (by kernel_rfl) (by kernel_rfl) (by kernel_rfl) (fun _ _ _ h => h) (Or.inr ⟨by rfl, rfl⟩) hHeld ?_
              simp only [Act.put, List.setIfInBounds_toArray, List.set_cons_zero, List.set_cons_succ, List.getElem_toArray, List.getElem_cons_zero, List.getElem_cons_succ]
              refine wpAnyH_take (i := 10) (v := undef) rfl (by kernel_rfl) (by kernel_rfl) (by kernel_rfl) (fun _ _ _ h => h) (Or.inr ⟨by rfl, rfl⟩) hHeld ?_
              simp only [Act.put, List.setIfInBounds_toArray, List.set_cons_zero, List.set_cons_succ, List.getElem_toArray, List.getElem_cons_zero, List.getElem_cons_succ]
              refine wpAnyH_take (i := 11) (v := undef) rfl (by kernel_rfl) (by kernel_rfl) (by kernel_rfl) (fun _ _ _ h => h) (Or.inr ⟨by rfl, rfl⟩) hHeld ?_
              simp only [Act.put, List.setIfInBounds_toArray, List.set_cons_zero, List.set_cons_succ, List.getElem_toArray, List.getElem_cons_zero, List.getElem_cons_succ]
              refine wpAnyH_take (i := 12) (v := undef) rfl (by kernel_rfl) (by kernel_rfl) (by kernel_rfl) (fun _ _ _ h => h) (Or.inr ⟨by rfl, rfl⟩) hHeld ?_
              simp only [Act.put, List.setIfInBounds_toArray, List.set_cons_zero, List.set_cons_succ, List.getElem_toArray, List.getElem_cons_zero, List.getElem_cons_succ]
              refine wpAnyH_take (i := 13) (v := undef) rfl (by kernel_rfl) (by kernel_rfl) (by kernel_rfl) (fun _ _ _ h => h) (Or.inr ⟨by rfl, rfl⟩) hHeld ?_
              simp only [Act.put, List.setIfInBounds_toArray, List.set_cons_zero, List.set_cons_succ, List.getElem_toArray, List.getElem_cons_zero, List.getElem_cons_succ]
              refine wpAnyH_take (i := 14) (v := undef) rfl (by kernel_rfl) (by kernel_rfl) (by kernel_rfl) (fun _ _ _ h => h) (Or.inr ⟨by rfl, rfl⟩) hHeld ?_
              simp only [Act.put, List.setIfInBounds_toArray, List.set_cons_zero, List.set_cons_succ, List.getElem_toArray, List.getElem_cons_zero, List.getElem_cons_succ]
              refine wpAnyH_take (i := 15) (v := undef) rfl (by kernel_rfl) (by kernel_rfl) (by kernel_rfl) (fun _ _ _ h => h) (Or.inr ⟨by rfl, rfl⟩) hHeld ?_
              simp only [Act.put, List.setIfInBounds_toArray, List.set_cons_zero, List.set_cons_succ, List.getElem_toArray, List.getElem_cons_zero, List.getElem_cons_succ]
              refine wpAnyH_take (i := 16) (v := undef) rfl (by kernel_rfl) (by kernel_rfl) (by kernel_rfl) (fun _ _ _ h => h) (Or.inr ⟨by rfl, rfl⟩) hHeld ?_
              simp only [Act.put, List.setIfInBounds_toArray, List.set_cons_zero, List.set_cons_succ, List.getElem_toArray, List.getElem_cons_zero, List.getElem_cons_succ]
              refine wpAnyH_take (i := 17) (v := undef) rfl (by kernel_rfl) (by kernel_rfl) (by kernel_rfl) (fun _ _ _ h => h) (Or.inr ⟨by rfl, rfl⟩) hHeld ?_
              simp only [Act.put, List.setIfInBounds_toArray, List.set_cons_zero, List.set_cons_succ, List.getElem_toArray, List.getElem_cons_zero, List.getElem_cons_succ]
              refine wpAnyH_take (i := 18) (v := undef) rfl (by kernel_rfl) (by kernel_rfl) (by kernel_rfl) (fun _ _ _ h => h) (Or.inr ⟨by rfl, rfl⟩) hHeld ?_
              simp only [Act.put, List.setIfInBounds_toArray, List.set_cons_zero, List.set_cons_succ, List.getElem_toArray, List.getElem_cons_zero, List.getElem_cons_succ]
              refine wpAnyH_take (i := 19) (v := undef) rfl (by kernel_rfl) (by kernel_rfl) (by kernel_rfl) (fun _ _ _ h => h) (Or.inr ⟨by rfl, rfl⟩) hHeld ?_
              simp only [Act.put, List.setIfInBounds_toArray, List.set_cons_zero, List.set_cons_succ, List.getElem_toArray, List.getElem_cons_zero, List.getElem_cons_succ]
              refine wpAnyH_take (i := 20) (v := undef) rfl (by kernel_rfl) (by kernel_rfl) (by kernel_rfl) (fun _ _ _ h => h) (Or.inr ⟨by rfl, rfl⟩) hHeld ?_
              simp only [Act.put, List.setIfInBounds_toArray, List.set_cons_zero, List.set_cons_succ, List.getElem_toArray, List.getElem_cons_zero, List.getElem_cons_succ]
              refine wpAnyH_take (i := 21) (v := undef) rfl (by kernel_rfl) (by kernel_rfl) (by kernel_rfl) (fun _ _ _ h => h) (Or.inr ⟨by rfl, rfl⟩) hHeld ?_
              simp only [Act.put, List.setIfInBounds_toArray, List.set_cons_zero, List.set_cons_succ, List.getElem_toArray, List.getElem_cons_zero, List.getElem_cons_succ]
              refine wpAnyH_take (i := 22) (v := undef) rfl (by kernel_rfl) (by kernel_rfl) (by kernel_rfl) (fun _ _ _ h => h) (Or.inr ⟨by rfl, rfl⟩) hHeld ?_
              simp only [Act.put, List.setIfInBounds_toArray, List.set_cons_zero, List.set_cons_succ, List.getElem_toArray, List.getElem_cons_zero, List.getElem_cons_succ]
              refine wpAnyH_take (i := 23) (v := undef) rfl (by kernel_rfl) (by kernel_rfl) (by kernel_rfl) (fun _ _ _ h => h) (Or.inr ⟨by rfl, rfl⟩) hHeld ?_
              simp only [Act.put, List.setIfInBounds_toArray, List.set_cons_zero, List.set_cons_succ, List.getElem_toArray, List.getElem_cons_zero, List.getElem_cons_succ]
              refine wpAnyH_take (i := 24) (v := undef) rfl (by kernel_rfl) (by kernel_rfl) (by kernel_rfl) (fun _ _ _ h => h) (Or.inr ⟨by rfl, rfl⟩) hHeld ?_
              simp only [Act.put, List.setIfInBounds_toArray, List.set_cons_zero, List.set_cons_succ, List.getElem_toArray, List.getElem_cons_zero, List.getElem_cons_succ]
              refine wpAnyH_take (i := 25) (v := undef) rfl (by kernel_rfl) (by kernel_rfl) (by kernel_rfl) (fun _ _ _ h => h) (Or.inr ⟨by rfl, rfl⟩) hHeld ?_
              simp only [Act.put, List.setIfInBounds_toArray, List.set_cons_zero, List.set_cons_succ, List.getElem_toArray, List.getElem_cons_zero, List.getElem_cons_succ]
              refine wpAnyH_take (i := 26) (v := undef) rfl (by kernel_rfl) (by kernel_rfl) (by kernel_rfl) (fun _ _ _ h => h) (Or.inr ⟨by rfl, rfl⟩) hHeld ?_
              simp only [Act.put, List.setIfInBounds_toArray, List.set_cons_zero, List.set_cons_succ, List.getElem_toArray, List.getElem_cons_zero, List.getElem_cons_succ]
              refine wpAnyH_take (i := 27) (v := undef) rfl (by kernel_rfl) (by kernel_rfl) (by kernel_rfl) (fun _ _ _ h => h) (Or.inr ⟨by rfl, rfl⟩) hHeld ?_
              simp only [Act.put, List.setIfInBounds_toArray, List.set_cons_zero, List.set_cons_succ, List.getElem_toArray, List.getElem_cons_zero, List.getElem_cons_succ]
              refine wpAnyH_take (i := 28) (v := undef) rfl (by kernel_rfl) (by kernel_rfl) (by kernel_rfl) (fun _ _ _ h => h) (Or.inr ⟨by rfl, rfl⟩) hHeld ?_
              simp only [Act.put, List.setIfInBounds_toArray, List.set_cons_zero, List.set_cons_succ, List.getElem_toArray, List.getElem_cons_zero, List.getElem_cons_succ]
              refine wpAnyH_take (i := 29) (v := undef) rfl (by kernel_rfl) (by kernel_rfl) (by kernel_rfl) (fun _ _ _ h => h) (Or.inr ⟨by rfl, rfl⟩) hHeld ?_
              simp only [Act.put, List.setIfInBounds_toArray, List.set_cons_zero, List.set_cons_succ, List.getElem_toArray, List.getElem_cons_zero, List.getElem_cons_succ]
              refine wpAnyH_take (i := 30) (v := undef) rfl (by kernel_rfl) (by kernel_rfl) (by kernel_rfl) (fun _ _ _ h => h) (Or.inr ⟨by rfl, rfl⟩) hHeld ?_
              simp only [Act.put, List.setIfInBounds_toArray, List.set_cons_zero, List.set_cons_succ, List.getElem_toArray, List.getElem_cons_zero, List.getElem_cons_succ]
              refine wpAnyH_take (i := 31) (v := undef) rfl (by kernel_rfl) (by kernel_rfl) (by kernel_rfl) (fun _ _ _ h => h) (Or.inr ⟨by rfl, rfl⟩) hHeld ?_
              simp only [Act.put, List.setIfInBounds_toArray, List.set_cons_zero, List.set_cons_succ, List.getElem_toArray, List.getElem_cons_zero, List.getElem_cons_succ]
              refine wpAnyH_take (i := 32) (v := undef) rfl (by kernel_rfl) (by kernel_rfl) (by kernel_rfl) (fun _ _ _ h => h) (Or.inr ⟨by rfl, rfl⟩) hHeld ?_
              simp only [Act.put, List.setIfInBounds_toArray, List.set_cons_zero, List.set_cons_succ, List.getElem_toArray, List.getElem_cons_zero, List.getElem_cons_succ]
              refine wpAnyH_take (i := 33) (v := undef) rfl (by kernel_rfl) (by kernel_rfl) (by kernel_rfl) (fun _ _ _ h => h) (Or.inr ⟨by rfl, rfl⟩) hHeld ?_
              simp only [Act.put, List.setIfInBounds_toArray, List.set_cons_zero, List.set_cons_succ, List.getElem_toArray, List.getElem_cons_zero, List.getElem_cons_succ]
              refine wpAnyH_take (i := 34) (v := .bool false) rfl (by kernel_rfl) (by kernel_rfl) (by kernel_rfl) (fun _ _ _ h => h) (Or.inl ⟨by rfl, fun wx hSw => by go_simp⟩) hHeld ?_
              simp only [Act.put, List.setIfInBounds_toArray, List.set_cons_zero, List.set_cons_succ, List.getElem_toArray, List.getElem_cons_zero, List.getElem_cons_succ]
              refine wpAnyH_done (by kernel_rfl) ?_ _
              have HF7 := HF6.out _ hHeld.1
              clear hHeld
              go_wp2
              go_roundw
              case rel => exact ⟨i + 1, a, rfl, by go_num, HG.out.1, HG.out.2, HF7⟩
              case measure => simp only [uOf]; omega
      · have i1 : ¬ (i : Int) < (l.length : Int) := by omega
        go_wp2
        go_ret
        exact ⟨rfl, only_below HI.out.2.2.1⟩
  · obtain ⟨rfl, hp⟩ := HE.out he
    obtain ⟨ao, cap, rfl⟩ := T2.out.1
    have i1 : (0 : Int) ≤ (p : Int) := Int.natCast_nonneg _
    have i2 : (p : Int) ≤ (s.size : Int) := by omega
    go_wp2
    go_ret
    exact ⟨rfl, only_below O2.out⟩
end Go.Proofs.YtbijiigobbjlcaaDoor
