/- The document's Tokens: the walk. -/
import Derived.Test.YtfecmpebnianpaaGreatDoorGax
namespace Go.Proofs.YtfecmpebnianpaaGreatDoor
open Go.RowKit Go.Lib
set_option linter.unusedSimpArgs false
set_option linter.unusedVariables false
/-- A token under way: the row of those that were read, and the block T of the one that is being made. -/
structure Mid (w2 : World) (B T : Nat) (ao : Option Addr) (cap L : Nat) (acc : List Tok) (cs : Array Value) (W : World) : Prop where
  bel : Below B w2 W
  row : W.ownsRowF B 152 4 (.slice ao L cap) L (tkCs acc)
  ne : ∀ g, (Value.slice ao L cap).ownBlock = some g → g ≠ T
  tok : W.heap[T]? = some (.cells cs 152)
  ge : B ≤ T
theorem tset {w : World} {T i : Nat} {cs : Array Value} {t : TypeId} (h : w.heap[T]? = some (.cells cs t)) (v : Value) : (w.setCell ⟨T, i, none⟩ v).heap[T]? = some (.cells (cs.setIfInBounds i v) t) := by
  simp [World.setCell, Array.getElem?_modify, h]
theorem Mid.only {w2 : World} {B T : Nat} {ao : Option Addr} {cap L : Nat} {acc : List Tok} {cs : Array Value} {W W' : World} (h : Mid w2 B T ao cap L acc cs W) (o : Only (fun _ => False) W W') : Mid w2 B T ao cap L acc cs W' :=
  ⟨h.bel.trans ((only_below o).mono (by have := (Array.getElem?_eq_some_iff.1 h.tok).1; have := h.ge; omega)), owns_only h.row o, h.ne, (o.block T (Array.getElem?_eq_some_iff.1 h.tok).1 (fun x => x)).trans h.tok, h.ge⟩
theorem Mid.set {w2 : World} {B T : Nat} {ao : Option Addr} {cap L : Nat} {acc : List Tok} {cs : Array Value} {W : World} (h : Mid w2 B T ao cap L acc cs W) (i : Nat) (v : Value) : Mid w2 B T ao cap L acc (cs.setIfInBounds i v) (W.setCell ⟨T, i, none⟩ v) := by
  refine ⟨h.bel.setCell (p := ⟨T, i, none⟩) h.ge _, ⟨h.row.1, ?_⟩, h.ne, tset h.tok v, h.ge⟩
  rcases h.row.2 with g | ⟨g, cap', cur, fz, h1, h2, h3, h4⟩
  · exact .inl g
  · refine .inr ⟨g, cap', cur, fz, h1, h2, ?_, h4⟩
    rw [Below.heap_setCell _ _ _ _ (fun e => h.ne g (by rw [h1]; rfl) e)]
    exact h3
theorem mid_new {w2 W : World} {B : Nat} {ao : Option Addr} {cap L : Nat} {acc : List Tok} (hb : Below B w2 W) (hB : B ≤ W.heap.size) (hr : W.ownsRowF B 152 4 (.slice ao L cap) L (tkCs acc)) (cs : Array Value) : Mid w2 B W.heap.size ao cap L acc cs (W.alloc (.cells cs 152)) :=
  ⟨hb.alloc hB _, hr.alloc _, fun g hg => by have := (hr.lt g hg).2; omega, alloc_at _ _ _ rfl, hB⟩
theorem cl_vr {l : List Nat} (hv : VL l) : ∀ t ∈ cl 0 l, Vr t.r := by
  have key : ∀ (q : List Nat) (A : Nat), VL q → ∀ t ∈ cl A q, Vr t.r := by
    intro q
    induction q with
    | nil => intro A _ t ht; simp [cl] at ht
    | cons c q ih =>
      intro A h t ht
      rw [cl] at ht
      rcases List.mem_cons.1 ht with rfl | ht
      · exact h c (List.mem_cons_self ..)
      · exact ih _ (fun x hx => h x (List.mem_cons_of_mem _ hx)) t ht
  exact key l 0 hv
theorem below_drewN {B : Nat} {a w : World} (h : Below B a w) (n : Nat) : Below B a (w.drewN n) := ⟨h.os, h.tape, h.output, h.size, h.block⟩
theorem Mid.drewN {w2 : World} {B T : Nat} {ao : Option Addr} {cap L : Nat} {acc : List Tok} {cs : Array Value} {W : World} (h : Mid w2 B T ao cap L acc cs W) (n : Nat) : Mid w2 B T ao cap L acc cs (W.drewN n) := ⟨below_drewN h.bel n, h.row, h.ne, h.tok, h.ge⟩
theorem tw_all (P : Nat → Bool) : ∀ (q : List Nat) (i : Nat), i < (q.takeWhile P).length → ∃ d, q[i]? = some d ∧ P d = true
  | [], i, h => by simp at h
  | c :: q, i, h => by
    rw [List.takeWhile_cons] at h
    by_cases hc : P c = true
    · rw [if_pos hc, List.length_cons] at h
      cases i with
      | zero => exact ⟨c, rfl, hc⟩
      | succ i =>
        obtain ⟨d, h1, h2⟩ := tw_all P q i (by omega)
        exact ⟨d, by simpa using h1, h2⟩
    · rw [if_neg hc] at h
      simp at h
theorem tw_stop (P : Nat → Bool) : ∀ (q : List Nat) (d : Nat), q[(q.takeWhile P).length]? = some d → P d = false
  | [], d, h => by simp at h
  | c :: q, d, h => by
    rw [List.takeWhile_cons] at h
    by_cases hc : P c = true
    · rw [if_pos hc, List.length_cons, List.getElem?_cons_succ] at h
      exact tw_stop P q d h
    · rw [if_neg hc, List.length_nil, List.getElem?_cons_zero, Option.some.injEq] at h
      subst h
      simpa using hc
/-- The word's end: what stands ahead of it and there. -/
theorem word_in {l : List Nat} {k i : Nat} (h : i < ((l.drop k).takeWhile (fun c => !blk c)).length) : ∃ d, l[k + i]? = some d ∧ blk d = false := by
  obtain ⟨d, h1, h2⟩ := tw_all _ _ _ h
  rw [List.getElem?_drop] at h1
  exact ⟨d, h1, by simpa using h2⟩
theorem word_out {l : List Nat} {k d : Nat} (h : l[k + ((l.drop k).takeWhile (fun c => !blk c)).length]? = some d) : blk d = true := by
  have := tw_stop (fun c => !blk c) (l.drop k) d (by rw [List.getElem?_drop]; exact h)
  simpa using this
theorem word_le {l : List Nat} {k : Nat} (hk : k ≤ l.length) : k + ((l.drop k).takeWhile (fun c => !blk c)).length ≤ l.length := by
  have := (List.takeWhile_sublist (l := l.drop k) (fun c => !blk c)).length_le
  rw [List.length_drop] at this
  omega
theorem cl_runes : ∀ (q : List Nat) (A : Nat), (cl A q).map (·.r) = q
  | [], A => rfl
  | c :: q, A => by rw [cl, List.map_cons, cl_runes]
theorem rdc_sub {w : World} {g o m cap : Nat} {L : List Chr} (h : RdC w (.slice (some ⟨g, o, none⟩) m cap) L) {k E : Nat} (hk : k < E) (hE : E ≤ L.length) : m ≤ cap ∧ RdC w (.slice (some ⟨g, o + k * 4, none⟩) (E - k) (cap - k)) ((L.drop k).take (E - k)) := by
  obtain ⟨ao, cap', e, hc, f⟩ := h
  injection e with e1 e2 e3
  subst e1
  have hl : ((L.drop k).take (E - k)).length = E - k := by rw [List.length_take, List.length_drop]; omega
  refine ⟨by omega, some ⟨g, o + k * 4, none⟩, cap - k, by rw [hl], by rw [hl]; omega, fun i t ht => ?_⟩
  have hi : i < E - k := by have := (List.getElem?_eq_some_iff.1 ht).1; omega
  rw [List.getElem?_take_of_lt hi, List.getElem?_drop] at ht
  obtain ⟨g', o', eg, hg, c⟩ := f (k + i) t ht
  injection eg with eg
  injection eg with eg1 eg2
  subst eg1
  subst eg2
  refine ⟨g, o + k * 4, rfl, hg, ?_⟩
  rw [show o + k * 4 + i * 4 = o + (k + i) * 4 by omega]
  exact c
theorem slice_chr (g o m cap k E : Nat) (hk : k < E) (hc : E ≤ cap) : ∀ W : World, (Instr.slice 142 (.slice (some ⟨g, o, none⟩) m cap) (some (.int .i64 (k : Int))) (some (.int .i64 (E : Int))) none).run Tryz.prog W = .ok (.slice (some ⟨g, o + k * 4, none⟩) (E - k) (cap - k)) W := by
  intro W
  have k0 : (0 : Int) ≤ (k : Int) := Int.natCast_nonneg _
  have k1 : (k : Int) ≤ (E : Int) := by omega
  have k2 : (E : Int) ≤ (cap : Int) := by omega
  have e1 : ((E : Int) - (k : Int)).toNat = E - k := by omega
  have e2 : ((cap : Int) - (k : Int)).toNat = cap - k := by omega
  have ec : ¬ cap - k = 0 := by omega
  go_simp
  intro h
  omega
theorem World.alloc_size (w : World) (o : Obj) : (w.alloc o).heap.size = w.heap.size + 1 := by simp
theorem new_cellsN (W : World) {n : Nat} (t : TypeId) (h : n = W.heap.size) (a b c d : Value) : ∀ (j : Nat) (u : Value), [a, b, c, d][j]? = some u → (W.alloc (.cells #[a, b, c, d] t)).cell? ((⟨n, 0, none⟩ : Addr).add j) = some u := by
  subst h
  exact new_cells W t a b c d
theorem one_t (x y z : Int) (b : ByteArray) : ∀ u ∈ [Value.int .i64 x, .string b, .int .i64 y, .int .i64 z], u.oneCell' = true := by
  intro u hu
  simp only [List.mem_cons, List.not_mem_nil, or_false] at hu
  rcases hu with rfl | rfl | rfl | rfl <;> rfl
set_option maxRecDepth 100000 in
set_option maxHeartbeats 1000000 in
theorem rTokens_any (s : ByteArray) (w : World) :
    Calls Tryz.prog 48 #[.string s] w fun e w' => ∃ v, e = .returned (.tuple #[v, .int .i64 ((tokR s).2.1 : Nat), .int .i64 (tokR s).2.2]) ∧ Hid (ToksAt w' w.heap.size v (tokR s).1 ∧ Below w.heap.size w w') := by
  obtain ⟨Z, hZ⟩ : ∃ Z, Z = tokR s := ⟨_, rfl⟩
  rw [← hZ]
  by_cases hs : 65536 < s.size
  · have HE : Hid (Z = ([], 0, 11)) := by
      show Z = _
      rw [hZ]
      unfold tokR
      rw [if_pos hs]
    have b1 : decide ((65536 : Int) < (s.size : Int)) = true := decide_eq_true (by omega)
    clear hZ hs
    go_enter Tryz.func48, Tryz.ntmps48
    go_wp2
    go_ret3
    rw [show Z = _ from HE.out]
    exact ⟨_, rfl, toks_nil _ _, Below.refl _ _⟩
  · have b1 : decide ((65536 : Int) < (s.size : Int)) = false := decide_eq_false (by omega)
    have HB0 : Hid (∀ w1, Calls Tryz.prog 70 #[.string s] w1 fun e w' => e = .returned (.int .i64 (badR s)) ∧ Only (fun _ => False) w1 w') := fun w1 => bad_any s (by omega) w1
    have hbr : badR s = if stR s < s.size then (stR s : Int) else -1 := rfl
    by_cases hb : stR s < s.size
    · rw [if_pos hb] at hbr
      rw [hbr] at HB0
      have HE : Hid (Z = ([], stR s, 8)) := by
        show Z = _
        rw [hZ]
        unfold tokR
        rw [if_neg hs, if_pos hb]
      have b2 : (0 : Int) ≤ (stR s : Int) := Int.natCast_nonneg _
      obtain ⟨z, hz⟩ : ∃ z, z = stR s := ⟨_, rfl⟩
      rw [← hz] at HB0 b2 HE
      clear hbr hb hz hZ
      go_enter Tryz.func48, Tryz.ntmps48
      go_wp2_with fail
      refine (show Calls Tryz.prog 70 _ _ _ from HB0.out _).mono ?_
      rintro e w1 ⟨rfl, o1⟩
      have O1 : Hid (Only (fun _ => False) w w1) := o1
      clear o1
      go_wp2_with fail
      refine (show Calls Tryz.prog 70 _ _ _ from HB0.out _).mono ?_
      rintro e w2 ⟨rfl, o2⟩
      have O2 : Hid (Only (fun _ => False) w w2) := O1.out.trans o2 (fun _ _ x => x)
      clear HB0 O1 o2
      go_wp2
      go_ret3
      rw [show Z = _ from HE.out]
      exact ⟨_, rfl, toks_nil _ _, only_below O2.out⟩
    · rw [if_neg hb] at hbr
      rw [hbr] at HB0
      have hZh := tokR_h (Nat.le_of_not_lt hs) hb
      rw [hZh] at hZ
      have HC : Hid (∀ w1, Calls Tryz.prog 67 #[.string s] w1 fun e w' => ∃ v, e = .returned v ∧ Hid (ChrAt w' w1.heap.size v (chrL s) ∧ Below w1.heap.size w1 w')) := fun w1 => chars_any s (by omega) w1
      have HBk : Hid (∀ (c : Nat) w1, Calls Tryz.prog 68 #[.int .i32 (c : Int)] w1 fun e w' => e = .returned (.bool (blk c)) ∧ w' = w1) := fun c w1 => rblank_any c w1
      have hcl := chrL_len s
      obtain ⟨l, hv, hsl⟩ := valid_tx hb
      have hchr : chrL s = cl 0 l := by rw [hsl]; exact chr_tx hv
      rw [hchr] at HC hcl
      rw [cl_len] at hcl
      obtain ⟨m, hm⟩ : ∃ m, m = l.length := ⟨_, rfl⟩
      have HM : Hid (m = l.length) := hm
      have hmm : m ≤ 65536 := by omega
      have HZ : Hid (Z = tokH (tx l) (bg (tx l) (Pk l 0)) []) := by
        show Z = _
        rw [hZ, hsl]
        rfl
      have HV : Hid (VL l) := hv
      have HS : Hid (s = tx l) := hsl
      clear hbr hb hZ hZh hchr hcl hm hv hsl hs
      go_enter Tryz.func48, Tryz.ntmps48
      go_wp2_with fail
      refine (show Calls Tryz.prog 70 _ _ _ from HB0.out _).mono ?_
      rintro e w1 ⟨rfl, o1⟩
      have O1 : Hid (Only (fun _ => False) w w1) := o1
      clear HB0 o1
      go_wp2_with fail
      refine (show Calls Tryz.prog 67 _ _ _ from HC.out _).mono ?_
      rintro e w2 ⟨v5, rfl, g⟩
      have O2 : Hid (Only (fun _ => False) w w2) := O1.out.trans (below_only g.out.2) (fun _ _ x => x)
      have T2 : Hid (RdC w2 v5 (cl 0 l)) := rdc_chr g.out.1
      obtain ⟨ao5, cap5, rfl⟩ := g.out.1.1
      rw [cl_len, ← (show m = l.length from HM.out)] at T2 ⊢
      clear HC g O1
      obtain ⟨B, hB⟩ : ∃ B, B = w2.heap.size := ⟨_, rfl⟩
      have HBw : Hid (B = w2.heap.size) := hB
      have HWb : Hid (∀ W, Below B w2 W → Below w.heap.size w W) := fun W hW => (only_below O2.out).trans (hW.mono (by rw [hB]; exact O2.out.size))
      have HRd : Hid (∀ W, Below B w2 W → RdC W (.slice ao5 m cap5) (cl 0 l)) := fun W hW => T2.out.only (below_only (by rw [hB] at hW; exact hW))
      clear hB T2
      go_wp2
      go_loopw [6, 7] (fun r6 r7 wr => ∃ (k : Nat) (acc : List Tok) (ao : Option Addr) (cap : Nat), k ≤ m ∧ r6 = .slice ao acc.length cap ∧ r7 = .int .i64 (k : Int) ∧ Hid (Z = tokH (tx l) (bg (tx l) (Pk l k)) acc ∧ acc.length ≤ 4096 ∧ wr.ownsRowF B 152 4 (.slice ao acc.length cap) acc.length (tkCs acc) ∧ Below B w2 wr)) (fun _ r7 _ => m - uOf r7)
      case atStart => exact ⟨0, [], none, 0, Nat.zero_le _, rfl, rfl, HZ.out, by simp, ⟨rfl, .inl ⟨rfl, rfl⟩⟩, Below.refl _ _⟩
      case round =>
        obtain ⟨k, acc, ao, cap, hk, rfl, rfl, HI⟩ := hrel
        obtain ⟨w3, rfl⟩ : ∃ w3, w3 = wr := ⟨_, rfl⟩
        clear HZ
        obtain ⟨L, hL⟩ : ∃ L, L = acc.length := ⟨_, rfl⟩
        have HL : Hid (L = acc.length) := hL
        have HL4 : Hid (L ≤ 4096) := by rw [hL]; exact HI.out.2.1
        have HRw : Hid (w3.ownsRowF B 152 4 (.slice ao L cap) L (tkCs acc)) := by rw [hL]; exact HI.out.2.2.1
        have HBl : Hid (Below B w2 w3) := HI.out.2.2.2
        have HZk : Hid (Z = tokH (tx l) (bg (tx l) (Pk l k)) acc) := HI.out.1
        have HB3 : Hid (B ≤ w3.heap.size) := by have h1 := HBl.out.size; have h2 : B = w2.heap.size := HBw.out; show B ≤ _; omega
        rw [← hL]
        clear HI hL
        by_cases hlt : k < m
        · have hlt2 : k < l.length := by have : m = l.length := HM.out; omega
          obtain ⟨c, hc⟩ : ∃ c, c = l[k]'hlt2 := ⟨_, rfl⟩
          have hc2 : l[k]? = some c := by rw [hc]; exact List.getElem?_eq_getElem _
          have HC2 : Hid (l[k]? = some c) := hc2
          obtain ⟨ao5', cap5', e5, _, fR⟩ := HRd.out _ HBl.out
          injection e5 with e51 e52 e53
          subst e51
          obtain ⟨g, o, rfl, hg, x0, x1, x2, _⟩ := fR k _ (cl_get l 0 k c hc2)
          dsimp only at x0 x1 x2
          rw [Nat.zero_add] at x1 x2
          have HPk : Hid (wl (l.take k) = Pk l k) := rfl
          rw [show wl (l.take k) = Pk l k from rfl] at x1 x2
          have k0 : (0 : Int) ≤ (k : Int) := Int.natCast_nonneg _
          have k1 : (k : Int) < (m : Int) := by omega
          clear hc hc2 fR hg e52 e53
          have HBc := HBk.out c
          cases hbk : blk c with
          | true =>
            rw [hbk] at HBc
            have HB1 : Hid (∀ w1, Calls Tryz.prog 68 #[.int .i32 (c : Int)] w1 _) := HBc
            have HZ2 : Hid (Z = tokH (tx l) (bg (tx l) (Pk l (k + 1))) acc) := by
              show Z = _
              rw [HZk.out, t_blank HV.out HC2.out hbk]
            clear HBc hbk HZk
            go_wp2_with fail
            refine (show Calls Tryz.prog 68 _ _ _ from HB1.out _).mono ?_
            rintro e3 wz ⟨rfl, hwz⟩
            subst wz
            go_wp2
            go_roundw
            case rel => exact ⟨k + 1, acc, ao, cap, by omega, by rw [show L = acc.length from HL.out], by go_num, HZ2.out, by rw [← (show L = acc.length from HL.out)]; exact HL4.out, by rw [← (show L = acc.length from HL.out)]; exact HRw.out, HBl.out⟩
            case measure => simp only [uOf]; omega
          | false =>
            rw [hbk] at HBc
            have HB1 : Hid (∀ w1, Calls Tryz.prog 68 #[.int .i32 (c : Int)] w1 _) := HBc
            have HNb : Hid (blk c = false) := hbk
            clear HBc hbk
            have MT : Hid (Mid w2 B w3.heap.size ao cap L acc #[.int .i64 0, .string ⟨#[]⟩, .int .i64 0, .int .i64 (Pk l k : Int)] (w3.alloc (.cells #[.int .i64 0, .string ⟨#[]⟩, .int .i64 0, .int .i64 (Pk l k : Int)] 152))) := mid_new HBl.out HB3.out HRw.out _
            by_cases h34 : c = 34
            · have b34 : ((c : Int) == 34) = true := by rw [h34]; rfl
              have hC34 : l[k]? = some 34 := by rw [← h34]; exact HC2.out
              obtain ⟨hd1, hd2⟩ := t_head HV.out hC34 rfl (by rw [drop_cons hC34]; rfl)
              have hst := t_str HV.out hC34
              have HSt : Hid (∀ W, Below B w2 W → Calls Tryz.prog 71 #[.slice (some ⟨g, o, none⟩) m cap5, .int .i64 (k : Int)] W fun e w' => e = .returned (strV (rstr (Pk l k) (l.length + 1) ((cl 0 l).drop (k + 1)) (k + 1) [])) ∧ Only (fun _ => False) W w') := fun W hW => by
                have := rstr_any (cl 0 l) (by rw [cl_len]; have : m = l.length := HM.out; omega) (cl_vr HV.out) k _ (cl_get l 0 k 34 hC34) _ W (HRd.out W hW)
                rw [cl_len] at this
                dsimp only at this
                rw [Nat.zero_add] at this
                exact this
              obtain ⟨R, hR⟩ : ∃ R, R = rstr (Pk l k) (l.length + 1) ((cl 0 l).drop (k + 1)) (k + 1) [] := ⟨_, rfl⟩
              rw [← hR] at hst HSt
              clear hR
              obtain ⟨txt, p, e⟩ := R
              dsimp only at hst
              simp only [strV] at HSt
              by_cases he : e = 0
              · subst he
                obtain ⟨i, hi1, hi2, hred⟩ := hst.1 rfl
                have HFull : Hid (acc.length = 4096 → Z = ([], Pk l k, 11)) := fun h => by
                  rw [HZk.out, hd1]
                  exact t_full hd2 (by rw [hred]) h
                have HGo : Hid (acc.length ≠ 4096 → Z = tokH (tx l) (bg (tx l) (Pk l (k + 1 + i))) (acc ++ [(⟨3, tx txt, 0, (Pk l k : Nat)⟩ : Tok)])) := fun h => by
                  rw [HZk.out, hd1, tokH_go hd2 (by rw [hred]) h, hred]
                have hp : p = k + 1 + i := hi2
                have hpm : p ≤ m := by have : m = l.length := HM.out; omega
                have hpk : k < p := by omega
                rw [← hp] at HGo
                obtain ⟨X, hX⟩ : ∃ X, X = tx txt := ⟨_, rfl⟩
                rw [← hX] at HGo HSt
                clear hst hred hX hi1 hi2 hp hd1 hd2 hC34 h34 HZk HPk
                go_wp2_with fail
                refine (show Calls Tryz.prog 68 _ _ _ from HB1.out _).mono ?_
                rintro e3 wz ⟨rfl, hwz⟩
                subst wz
                clear HB1
                have X0 := (Only.refl (fun _ => False) w3).alloc (.cells #[.int .i64 0, .string ⟨#[]⟩, .int .i64 0, .int .i64 (Pk l k : Int)] 152)
                have x0' := X0.cell x0 (fun x => x)
                clear X0
                go_wp2_with fail
                refine (show Calls Tryz.prog 71 _ _ _ from HSt.out _ MT.out.bel).mono ?_
                rintro e4 w4 ⟨rfl, o4⟩
                have M3 : Hid (Mid w2 B w3.heap.size ao cap L acc #[.int .i64 0, .string ⟨#[]⟩, .int .i64 0, .int .i64 (Pk l k : Int)] w4) := MT.out.only o4
                have c0 := blk_cells M3.out.tok 0
                have c1 := blk_cells M3.out.tok 1
                have c2 := blk_cells M3.out.tok 2
                have c3 := blk_cells M3.out.tok 3
                have z0 := blk_froz M3.out.tok 0
                have z1 := blk_froz M3.out.tok 1
                simp only [List.getElem?_toArray, List.getElem?_cons_zero, List.getElem?_cons_succ] at c0 c1 c2 c3
                have M4 : Hid (Mid w2 B w3.heap.size ao cap L acc #[.int .i64 3, .string X, .int .i64 0, .int .i64 (Pk l k : Int)] ((w4.setCell ⟨w3.heap.size, 0, none⟩ (.int .i64 3)).setCell ⟨w3.heap.size, 1, none⟩ (.string X))) := (M3.out.set 0 (.int .i64 3)).set 1 (.string X)
                clear HSt o4 x0' x0 x1 x2 MT
                have M4' := M4.out
                have q0 := blk_cells M4'.tok 0
                have q1 := blk_cells M4'.tok 1
                have q2 := blk_cells M4'.tok 2
                have q3 := blk_cells M4'.tok 3
                simp only [List.getElem?_toArray, List.getElem?_cons_zero, List.getElem?_cons_succ] at q0 q1 q2 q3
                clear M4'
                by_cases h4 : L = 4096
                · have HE : Hid (Z = ([], Pk l k, 11)) := HFull.out (by have : L = acc.length := HL.out; omega)
                  have b4 : decide ((4096 : Int) ≤ (L : Int)) = true := decide_eq_true (by omega)
                  clear h4
                  go_wp2
                  go_quiet (fail)
                  go_wp2
                  go_ret3
                  rw [show Z = _ from HE.out]
                  exact ⟨_, rfl, toks_nil _ _, HWb.out _ (below_drewN M4.out.bel _)⟩
                · have b4 : decide ((4096 : Int) ≤ (L : Int)) = false := decide_eq_false (by have : L ≤ 4096 := HL4.out; omega)
                  have HE : Hid (Z = tokH (tx l) (bg (tx l) (Pk l (p))) (acc ++ [(⟨3, X, 0, (Pk l k : Nat)⟩ : Tok)])) := HGo.out (by have : L = acc.length := HL.out; omega)
                  obtain ⟨i0, z0, hi, hz0, hz1, hz2, hz3⟩ := tok_info
                  have hm1 : L + 1 ≤ maxLen := by have : L ≤ 4096 := HL4.out; unfold maxLen; omega
                  have hm2 : (L + 1) * 40 ≤ 140737488355328 := by have : L ≤ 4096 := HL4.out; omega
                  have HM3 : Hid (∀ o, B ≤ (World.alloc ((w4.setCell ⟨w3.heap.size, 0, none⟩ (.int .i64 3)).setCell ⟨w3.heap.size, 1, none⟩ (.string X)) o).heap.size) := fun o => by have h1 := (Array.getElem?_eq_some_iff.1 M4.out.tok).1; have h2 := M4.out.ge; rw [World.alloc_size]; omega
                  clear h4
                  go_wp2_with (at_builtin; refine wpList_append_ownF _ rfl _ _ 118 rfl B 152 i0 z0 4 40 Tryz.underlying118 hi hz0 hz1 hz2 hz3 (by decide) _ L (tkCs acc) rfl (M4.out.row.alloc _) _ 1 1 [.int .i64 3, .string X, .int .i64 0, .int .i64 (Pk l k : Int)] rfl rfl (new_cellsN _ _ (by simp) _ _ _ _) (one_t _ _ _ _) hm1 hm2 (HM3.out _) ?_)
                  intro v' w9 hown' hgrow _
                  obtain ⟨ao', cap', rfl⟩ : ∃ ao' cap', v' = .slice ao' (L + 1) cap' := by
                    rcases hown'.2 with ⟨_, h0⟩ | ⟨g, cap', cur, fz, hv, _⟩
                    · omega
                    · exact ⟨_, cap', hv⟩
                  have e2 : (acc ++ [(⟨3, X, 0, (Pk l k : Nat)⟩ : Tok)]).length = L + 1 := by rw [List.length_append, ← (show L = acc.length from HL.out)]; rfl
                  have hbB : B ≤ (World.heap ((w4.setCell ⟨w3.heap.size, 0, none⟩ (.int .i64 3)).setCell ⟨w3.heap.size, 1, none⟩ (.string X))).size := by have := (Array.getElem?_eq_some_iff.1 M4.out.tok).1; have := M4.out.ge; omega
                  have HK : Hid (w9.ownsRowF B 152 4 (.slice ao' (acc ++ [(⟨3, X, 0, (Pk l k : Nat)⟩ : Tok)]).length cap') (acc ++ [(⟨3, X, 0, (Pk l k : Nat)⟩ : Tok)]).length (tkCs (acc ++ [(⟨3, X, 0, (Pk l k : Nat)⟩ : Tok)])) ∧ Below B w2 w9 ∧ (acc ++ [(⟨3, X, 0, (Pk l k : Nat)⟩ : Tok)]).length ≤ 4096) := by
                    refine ⟨by rw [e2, tkCs_snoc]; exact hown', (M4.out.bel.alloc hbB _).grown hgrow (HM3.out _) (fun k hk => (M4.out.row.lt k hk).1), ?_⟩
                    rw [e2]
                    have h1 : L ≤ 4096 := HL4.out
                    have h2 : ¬ (4096 : Int) ≤ (L : Int) := of_decide_eq_false b4
                    omega
                  have HV : Hid ((Value.slice ao' (L + 1) cap') = .slice ao' (acc ++ [(⟨3, X, 0, (Pk l k : Nat)⟩ : Tok)]).length cap') := by rw [e2]; exact rfl
                  clear hown' hgrow e2 HM3 hi hz0 hz1 hz2 hz3 q0 q1 q2 q3
                  go_wp2
                  go_roundw
                  case rel => exact ⟨p, acc ++ [(⟨3, X, 0, (Pk l k : Nat)⟩ : Tok)], ao', cap', by omega, HV.out, rfl, HE.out, HK.out.2.2, HK.out.1, HK.out.2.1⟩
                  case measure => simp only [uOf]; omega
              · have hred := (hst.2 he).2
                have htx := (hst.2 he).1
                have HE : Hid (Z = ([], p, e)) := by
                  show Z = _
                  rw [HZk.out, hd1, t_err acc hd2 (by rw [hred]; exact he), hred]
                clear hst hred hd1 hd2 hC34 h34 HZk HPk htx
                go_wp2_with fail
                refine (show Calls Tryz.prog 68 _ _ _ from HB1.out _).mono ?_
                rintro e3 wz ⟨rfl, hwz⟩
                subst wz
                clear HB1
                have X0 := (Only.refl (fun _ => False) w3).alloc (.cells #[.int .i64 0, .string ⟨#[]⟩, .int .i64 0, .int .i64 (Pk l k : Int)] 152)
                have x0' := X0.cell x0 (fun x => x)
                clear X0
                go_wp2_with fail
                refine (show Calls Tryz.prog 71 _ _ _ from HSt.out _ MT.out.bel).mono ?_
                rintro e4 w4 ⟨rfl, o4⟩
                have M3 : Hid (Mid w2 B w3.heap.size ao cap L acc #[.int .i64 0, .string ⟨#[]⟩, .int .i64 0, .int .i64 (Pk l k : Int)] w4) := MT.out.only o4
                clear HSt o4 x0' x0 x1 x2 MT
                go_wp2
                go_ret3
                rw [show Z = _ from HE.out]
                exact ⟨_, rfl, toks_nil _ _, HWb.out _ M3.out.bel⟩
            · have b34 : ((c : Int) == 34) = false := by simp; omega
              obtain ⟨wd, hwd⟩ : ∃ wd, wd = (l.drop k).takeWhile (fun c => !blk c) := ⟨_, rfl⟩
              have hred := t_word HV.out HC2.out h34
              have hbytes := t_bytes HV.out k
              have hrm := rm_word HC2.out HNb.out
              have hEle := word_le (l := l) (k := k) (Nat.le_of_lt hlt2)
              have hIn := @word_in l k
              have hOut := @word_out l k
              have htk := wrd_take l k
              rw [← hwd] at hred hbytes hrm hEle hIn hOut htk
              have hwv : VL wd := fun x hx => HV.out x (by rw [hwd] at hx; exact List.mem_of_mem_drop ((List.takeWhile_sublist _).subset hx))
              have hw1 : 1 ≤ wd.length := by
                rw [hwd, drop_cons HC2.out, List.takeWhile_cons, HNb.out]
                simp
              have hbang := bang_toList wd hwv
              have hnum := num_same (tx wd)
              rw [rns_tx hwv] at hnum
              obtain ⟨E, hE⟩ : ∃ E, E = k + wd.length := ⟨_, rfl⟩
              rw [← hE] at hred hbytes hEle hOut
              have hEm : E ≤ m := by have : m = l.length := HM.out; omega
              have HIn : Hid (∀ i, k ≤ i → i < E → ∃ d, l[i]? = some d ∧ blk d = false) := fun i h1 h2 => by
                have := hIn (i := i - k) (by omega)
                rwa [show k + (i - k) = i by omega] at this
              have HOut : Hid (∀ d, l[E]? = some d → blk d = true) := fun d hd => hOut hd
              obtain ⟨W3, hW3⟩ : ∃ W3, W3 = w3.alloc (.cells #[.int .i64 0, .string ⟨#[]⟩, .int .i64 0, .int .i64 (Pk l k : Int)] 152) := ⟨_, rfl⟩
              rw [← hW3] at MT
              have HCe : Hid (∀ i d : Nat, l[i]? = some d → W3.cell? ⟨g, o + i * 4, none⟩ = some (.int .i32 (d : Int)) ∧ W3.cell? ⟨g, o + i * 4 + 1, none⟩ = some (.int .i64 (Pk l i : Int)) ∧ W3.cell? ⟨g, o + i * 4 + 2, none⟩ = some (.int .i64 (Pk l (i + 1) : Int))) := fun i d hd => by
                obtain ⟨ao6, cap6, e6, _, fR⟩ := HRd.out _ MT.out.bel
                injection e6 with e61 e62 e63
                subst e61
                obtain ⟨g', o', eg, _, y0, y1, y2, _⟩ := fR i _ (cl_get l 0 i d hd)
                injection eg with eg
                injection eg with eg1 eg2
                subst eg1
                subst eg2
                dsimp only at y0 y1 y2
                rw [Nat.zero_add] at y1 y2
                rw [pk_succ hd]
                exact ⟨y0, y1, y2⟩
              have X0 := (HCe.out k c HC2.out).1
              have X1 := (HCe.out k c HC2.out).2.1
              have HSl : Hid (∀ W : World, (Instr.slice 9 (.string s) (some (.int .i64 (Pk l k : Int))) (some (.int .i64 (Pk l E : Int))) none).run Tryz.prog W = .ok (.string (tx wd)) W) := fun W => by
                have hp1 : Pk l k ≤ Pk l E := by rw [hE, pk_add]; omega
                have hp2 : Pk l E ≤ s.size := by
                  have := (sfx_at HV.out E).size
                  rw [show s = tx l from HS.out]
                  omega
                rw [run_slice_string W 9 s _ _ _ _ Tryz.underlying9 (by omega) (by omega) (by omega)]
                show Result.ok (Value.string (s.extract (Pk l k) (Pk l E))) W = _
                rw [show s = tx l from HS.out, hbytes]
              have HRm : Hid (rmL (l.drop k) = decide (wd = [33])) := hrm
              have HRed : Hid (redR (tx l) (Pk l k) = wrdL wd (Pk l k) (Pk l E)) := hred
              have HBang : Hid (((tx wd).toList == [33]) = decide (wd = [33])) := hbang
              have HNum : Hid (rNumR (tx wd) = numR (tx wd) ∧ ((numR (tx wd)).2 = 9 ↔ (rnumL wd).2.2 = false)) := hnum
              have HTk : Hid (wd = (l.drop k).take wd.length) := htk
              have HEk : Hid (E = k + wd.length) := hE
              have hkE : k < E := by omega
              clear hwd hred hbytes hrm hEle hIn hOut htk hwv hw1 hbang hnum hE
              go_wp2_with fail
              refine (show Calls Tryz.prog 68 _ _ _ from HB1.out _).mono ?_
              rintro e3 wz ⟨rfl, hwz⟩
              subst wz
              have HW3 : Hid (W3 = w3.alloc (.cells #[.int .i64 0, .string ⟨#[]⟩, .int .i64 0, .int .i64 (Pk l k : Int)] 152)) := hW3
              clear HB1
              have X0a := ((Only.refl (fun _ => False) w3).alloc (.cells #[.int .i64 0, .string ⟨#[]⟩, .int .i64 0, .int .i64 (Pk l k : Int)] 152)).cell x0 (fun x => x)
              clear hW3
              go_wp2
              rw [← HW3.out]
              clear X0a x0 x1 x2
              go_loopw [12] (fun r12 wr => ∃ e : Nat, k ≤ e ∧ e ≤ E ∧ r12 = .int .i64 (e : Int) ∧ wr = W3) (fun r12 _ => m - uOf r12)
              case atStart => exact ⟨k, Nat.le_refl _, by omega, rfl, rfl⟩
              case round =>
                obtain ⟨e, he1, he2, rfl, hwr⟩ := hrel
                subst wr
                by_cases heE : e < E
                · obtain ⟨d, hd1, hd2⟩ := HIn.out e he1 heE
                  have Y0 := (HCe.out e d hd1).1
                  have HBd : Hid (Calls Tryz.prog 68 #[.int .i32 (d : Int)] W3 fun e w' => e = .returned (.bool false) ∧ w' = W3) := by rw [← hd2]; exact HBk.out d W3
                  have j0 : (0 : Int) ≤ (e : Int) := Int.natCast_nonneg _
                  have j1 : (e : Int) < (m : Int) := by omega
                  clear hd1 hd2
                  go_wp2_with fail
                  refine (show Calls Tryz.prog 68 _ _ _ from HBd.out).mono ?_
                  rintro e5 wz ⟨rfl, hwz⟩
                  subst wz
                  clear HBd
                  go_wp2
                  go_roundw
                  case rel => exact ⟨e + 1, by omega, by omega, by go_num, by simp⟩
                  case measure => simp only [uOf]; omega
                · obtain rfl : E = e := by omega
                  by_cases hEm2 : E < m
                  · have hEl : E < l.length := by have : m = l.length := HM.out; omega
                    obtain ⟨d, hd⟩ : ∃ d, d = l[E]'hEl := ⟨_, rfl⟩
                    have hd2 : l[E]? = some d := by rw [hd]; exact List.getElem?_eq_getElem _
                    have hbd := HOut.out d hd2
                    have Y0 := (HCe.out E d hd2).1
                    have HBd : Hid (Calls Tryz.prog 68 #[.int .i32 (d : Int)] W3 fun e w' => e = .returned (.bool true) ∧ w' = W3) := by rw [← hbd]; exact HBk.out d W3
                    have j0 : (0 : Int) ≤ (E : Int) := Int.natCast_nonneg _
                    have j1 : (E : Int) < (m : Int) := by omega
                    clear hd hd2 hbd
                    go_wp2_with fail
                    refine (show Calls Tryz.prog 68 _ _ _ from HBd.out).mono ?_
                    rintro e5 wz ⟨rfl, hwz⟩
                    subst wz
                    clear HBd Y0 j0 j1
                    obtain ⟨dl, hdl1, _⟩ := HIn.out (E - 1) (by omega) (by omega)
                    have Y2 := (HCe.out (E - 1) dl hdl1).2.2
                    rw [show E - 1 + 1 = E by omega] at Y2
                    have r0 : (0 : Int) ≤ (E : Int) - 1 := by omega
                    have r1 : (E : Int) - 1 < (m : Int) := by omega
                    have r2 : ((E : Int) - 1).toNat = E - 1 := by omega
                    have hsl := HSl.out
                    obtain ⟨X, hX⟩ : ∃ X, X = tx wd := ⟨_, rfl⟩
                    have HX : Hid (X = tx wd) := hX
                    rw [← hX] at hsl
                    clear hdl1 hX
                    go_wp2
                    go_quiet (fail)
                    obtain ⟨W4, hW4⟩ : ∃ W4, W4 = W3.drewN nq := ⟨_, rfl⟩
                    rw [← hW4]
                    have M4 : Hid (Mid w2 B w3.heap.size ao cap L acc #[.int .i64 0, .string ⟨#[]⟩, .int .i64 0, .int .i64 (Pk l k : Int)] W4) := by rw [hW4]; exact MT.out.drewN _
                    have HC4 : Hid (∀ i d : Nat, l[i]? = some d → W4.cell? ⟨g, o + i * 4, none⟩ = some (.int .i32 (d : Int))) := fun i d hd => by rw [hW4]; exact (HCe.out i d hd).1
                    clear hW4 Y2 hsl X0 X1 r0 r1 r2
                    by_cases hw33 : wd = [33]
                    · have hbt : (X.toList == [33]) = true := by rw [show X = _ from HX.out, HBang.out, decide_eq_true hw33]
                      have hrmt : rmL (l.drop k) = true := by rw [HRm.out, decide_eq_true hw33]
                      have HRmT : Hid (rmL (l.drop k) = true) := hrmt
                      have hc33 : c = 33 := by
                        have h1 := HTk.out
                        rw [hw33, drop_cons HC2.out] at h1
                        simp at h1
                        exact h1.symm
                      have HDw : Hid ((l.drop k).dropWhile blk = l.drop k) := by
                        show _ = _
                        rw [drop_cons HC2.out, List.dropWhile_cons, if_neg (by rw [HNb.out]; simp)]
                      have HC33 : Hid (l[k]? = some 33) := by rw [← hc33]; exact HC2.out
                      clear hrmt hc33 hw33 HRm HRed HBang HNum HTk HIn HOut HCe
                      go_wp2
                      go_loopw [7] (fun r7 wr => ∃ k2 : Nat, k ≤ k2 ∧ k2 ≤ m ∧ r7 = .int .i64 (k2 : Int) ∧ wr = W4 ∧ Hid ((l.drop k2).dropWhile (fun c => !decide (c = 10)) = (l.drop k).dropWhile (fun c => !decide (c = 10)))) (fun r7 _ => m - uOf r7)
                      case atStart => exact ⟨k, Nat.le_refl _, by omega, rfl, rfl, rfl⟩
                      case round =>
                        obtain ⟨k2, hk1, hk2, rfl, hwr, HI3⟩ := hrel
                        subst wr
                        by_cases hlt3 : k2 < m
                        · have hlt4 : k2 < l.length := by have : m = l.length := HM.out; omega
                          obtain ⟨d, hd⟩ : ∃ d, d = l[k2]'hlt4 := ⟨_, rfl⟩
                          have hd2 : l[k2]? = some d := by rw [hd]; exact List.getElem?_eq_getElem _
                          have Y0 := HC4.out k2 d hd2
                          have j0 : (0 : Int) ≤ (k2 : Int) := Int.natCast_nonneg _
                          have j1 : (k2 : Int) < (m : Int) := by omega
                          by_cases h10 : d = 10
                          · have e10 : ((d : Int) != 10) = false := by rw [h10]; rfl
                            have HE : Hid (Z = tokH (tx l) (bg (tx l) (Pk l k2)) acc) := by
                              show Z = _
                              rw [HZk.out, t_remark HV.out HDw.out HRmT.out (k' := k2)]
                              rw [← HI3.out, drop_cons hd2, List.dropWhile_cons, if_neg (by simp [h10])]
                            have hkk : k < k2 := by
                              rcases Nat.lt_or_ge k k2 with g | g
                              · exact g
                              · exfalso
                                obtain rfl : k2 = k := by omega
                                have h3 : l[k2]? = some 33 := HC33.out
                                rw [hd2] at h3
                                simp at h3
                                omega
                            clear h10 hd hd2
                            go_wp2
                            go_roundw
                            case rel => exact ⟨k2, acc, ao, cap, by omega, by rw [show L = acc.length from HL.out], rfl, HE.out, by rw [← (show L = acc.length from HL.out)]; exact HL4.out, by rw [← (show L = acc.length from HL.out)]; exact M4.out.row, M4.out.bel⟩
                            case measure => simp only [uOf]; omega
                          · have e10 : ((d : Int) != 10) = true := by simp; omega
                            have i10 : ¬ (d : Int) = 10 := by omega
                            have HI4 : Hid ((l.drop (k2 + 1)).dropWhile (fun c => !decide (c = 10)) = (l.drop k).dropWhile (fun c => !decide (c = 10))) := by
                              show _ = _
                              rw [← HI3.out, drop_cons hd2, List.dropWhile_cons, if_pos (by simp [h10])]
                            clear h10 hd hd2 HI3
                            go_wp2
                            go_roundw
                            case rel => exact ⟨k2 + 1, by omega, by omega, by go_num, by simp, HI4⟩
                            case measure => simp only [uOf]; omega
                        · have j1 : ¬ (k2 : Int) < (m : Int) := by omega
                          have HE : Hid (Z = tokH (tx l) (bg (tx l) (Pk l k2)) acc) := by
                            show Z = _
                            rw [HZk.out, t_remark HV.out HDw.out HRmT.out (k' := k2)]
                            rw [← HI3.out, List.drop_eq_nil_of_le (by have : m = l.length := HM.out; omega)]
                            rfl
                          go_wp2
                          go_roundw
                          case rel => exact ⟨k2, acc, ao, cap, by omega, by rw [show L = acc.length from HL.out], rfl, HE.out, by rw [← (show L = acc.length from HL.out)]; exact HL4.out, by rw [← (show L = acc.length from HL.out)]; exact M4.out.row, M4.out.bel⟩
                          case measure => simp only [uOf]; omega
                    · have hbt : (X.toList == [33]) = false := by rw [show X = _ from HX.out, HBang.out, decide_eq_false hw33]
                      have hrmf : rmL (l.drop k) = false := by rw [HRm.out, decide_eq_false hw33]
                      obtain ⟨hd1, hd2⟩ := t_head HV.out HC2.out HNb.out hrmf
                      have HD1 : Hid (bg (tx l) (Pk l k) = Pk l k ∧ Pk l k < (tx l).size) := ⟨hd1, hd2⟩
                      have hRdC := HRd.out _ M4.out.bel
                      obtain ⟨hcap5, hsub⟩ := rdc_sub hRdC (k := k) (E := E) hkE (by rw [cl_len]; have : m = l.length := HM.out; omega)
                      have hrun : ((((cl 0 l).drop k).take (E - k)).map (·.r)) = wd := by
                        rw [List.map_take, List.map_drop, cl_runes, show E - k = wd.length by have : E = k + wd.length := HEk.out; omega]
                        exact HTk.out.symm
                      have HNm : Hid (Calls Tryz.prog 69 #[.slice (some ⟨g, o + k * 4, none⟩) (E - k) (cap5 - k)] W4 fun e w' => e = .returned (rnV (rnumL wd)) ∧ Only (fun _ => False) W4 w') := by
                        have := rnumber_any (((cl 0 l).drop k).take (E - k)) (by rw [List.length_take]; omega) _ W4 hsub
                        rwa [hrun] at this
                      have hslc := slice_chr g o m cap5 k E hkE (by omega)
                      have hXs : X.size ≤ 4000000 := by
                        rw [show X = tx wd from HX.out, tx_size]
                        have h1 := pk_add l k wd.length
                        rw [← HTk.out] at h1
                        have h2 := (sfx_at HV.out (k + wd.length)).size
                        have h3 : s.size ≤ 65536 := by have := of_decide_eq_false b1; omega
                        rw [← (show s = tx l from HS.out)] at h2
                        omega
                      have HRN : Hid (∀ w1, Calls Tryz.prog 72 #[.string X] w1 fun e w' => e = .returned (.tuple #[.int .i64 (numR X).1, .int .i64 (numR X).2]) ∧ Only (fun _ => False) w1 w') := fun w1 => rNumber_any X hXs w1
                      have HRM : Hid (∀ w1, Calls Tryz.prog 47 #[.string X] w1 fun e w' => e = .returned (.bool (nameB X)) ∧ Only (fun _ => False) w1 w') := fun w1 => rName_any X hXs w1
                      have hnum := HNum.out.2
                      have hred := HRed.out
                      unfold wrdL at hred
                      rw [← (show X = tx wd from HX.out)] at hnum hred
                      have h3 := numR_three X
                      have hnb : nameB X = (decide ((numR X).2 = 9) && nmdB X) := rfl
                      obtain ⟨nn, hnn⟩ : ∃ nn, nn = (numR X).1 := ⟨_, rfl⟩
                      obtain ⟨ee, hee⟩ : ∃ ee, ee = (numR X).2 := ⟨_, rfl⟩
                      obtain ⟨yy, hyy⟩ : ∃ yy, yy = nmdB X := ⟨_, rfl⟩
                      rw [← hnn, ← hee] at HRN
                      rw [← hee] at hnum h3 hnb
                      rw [← hnn, ← hee, ← hyy] at hred
                      rw [← hyy] at hnb
                      rw [hnb] at HRM
                      obtain ⟨x, hx⟩ : ∃ x, x = rnumL wd := ⟨_, rfl⟩
                      rw [← hx] at HNm hnum
                      obtain ⟨xn, xm, xo⟩ := x
                      simp only [rnV] at HNm
                      dsimp only at hnum
                      have HT : Hid (∀ d : Tok, ∀ z ez, redR (tx l) (Pk l k) = (d, z, ez) → (ez = 0 → acc.length = 4096 → Z = ([], Pk l k, 11)) ∧ (ez = 0 → acc.length ≠ 4096 → Z = tokH (tx l) (bg (tx l) z) (acc ++ [d])) ∧ (ez ≠ 0 → Z = ([], z, ez))) := fun d z ez hq => by
                        obtain ⟨p1, p2⟩ := HD1.out
                        rw [HZk.out, p1]
                        refine ⟨fun g h => t_full p2 (by rw [hq]; exact g) h, fun g h => by rw [tokH_go p2 (by rw [hq]; exact g) h, hq], fun g => by rw [t_err acc p2 (by rw [hq]; exact g), hq]⟩
                      clear hd1 hd2 hRdC hsub hrun hnn hee hyy hx hnb hrmf hw33 HRm HRed HBang HNum HTk HIn HOut HCe HC4 HZk HD1 hXs hcap5
                      go_wp2_with fail
                      refine (show Calls Tryz.prog 69 _ _ _ from HNm.out).mono ?_
                      rintro e6 w5 ⟨rfl, o5⟩
                      have M5 : Hid (Mid w2 B w3.heap.size ao cap L acc #[.int .i64 0, .string ⟨#[]⟩, .int .i64 0, .int .i64 (Pk l k : Int)] w5) := M4.out.only o5
                      clear HNm o5 M4 hslc hbt
                      cases xo with
                      | true =>
                        have hne9 : ¬ ee = 9 := fun g => by simp at hnum; exact hnum g
                        go_wp2_with fail
                        refine (show Calls Tryz.prog 72 _ _ _ from HRN.out _).mono ?_
                        rintro e7 w6 ⟨rfl, o6⟩
                        have M6 : Hid (Mid w2 B w3.heap.size ao cap L acc #[.int .i64 0, .string ⟨#[]⟩, .int .i64 0, .int .i64 (Pk l k : Int)] w6) := M5.out.only o6
                        have c0 := blk_cells M6.out.tok 0
                        have c1 := blk_cells M6.out.tok 1
                        have c2 := blk_cells M6.out.tok 2
                        have c3 := blk_cells M6.out.tok 3
                        have z0 := blk_froz M6.out.tok 0
                        have z1 := blk_froz M6.out.tok 1
                        have z2 := blk_froz M6.out.tok 2
                        simp only [List.getElem?_toArray, List.getElem?_cons_zero, List.getElem?_cons_succ] at c0 c1 c2 c3
                        clear HRN HRM o6 M5
                        by_cases he0 : ee = 0
                        · rw [if_pos he0] at hred
                          obtain ⟨t1, t2, _⟩ := HT.out _ _ _ hred
                          have HFull : Hid (acc.length = 4096 → Z = ([], Pk l k, 11)) := t1 rfl
                          have HGo : Hid (acc.length ≠ 4096 → Z = tokH (tx l) (bg (tx l) (Pk l E)) (acc ++ [(⟨2, ⟨#[]⟩, nn, (Pk l k : Nat)⟩ : Tok)])) := t2 rfl
                          subst he0
                          have M4 : Hid (Mid w2 B w3.heap.size ao cap L acc #[.int .i64 2, .string ⟨#[]⟩, .int .i64 nn, .int .i64 (Pk l k : Int)] ((w6.setCell ⟨w3.heap.size, 0, none⟩ (.int .i64 2)).setCell ⟨w3.heap.size, 2, none⟩ (.int .i64 nn))) := (M6.out.set 0 (.int .i64 2)).set 2 (.int .i64 nn)
                          clear hred t1 t2 HT hnum h3 hne9
                          have M4' := M4.out
                          have q0 := blk_cells M4'.tok 0
                          have q1 := blk_cells M4'.tok 1
                          have q2 := blk_cells M4'.tok 2
                          have q3 := blk_cells M4'.tok 3
                          simp only [List.getElem?_toArray, List.getElem?_cons_zero, List.getElem?_cons_succ] at q0 q1 q2 q3
                          clear M4'
                          by_cases h4 : L = 4096
                          · have HE : Hid (Z = ([], Pk l k, 11)) := HFull.out (by have : L = acc.length := HL.out; omega)
                            have b4 : decide ((4096 : Int) ≤ (L : Int)) = true := decide_eq_true (by omega)
                            clear h4
                            go_wp2
                            go_quiet (fail)
                            go_wp2
                            go_ret3
                            rw [show Z = _ from HE.out]
                            exact ⟨_, rfl, toks_nil _ _, HWb.out _ (below_drewN M4.out.bel _)⟩
                          · have b4 : decide ((4096 : Int) ≤ (L : Int)) = false := decide_eq_false (by have : L ≤ 4096 := HL4.out; omega)
                            have HE : Hid (Z = tokH (tx l) (bg (tx l) (Pk l (E))) (acc ++ [(⟨2, ⟨#[]⟩, nn, (Pk l k : Nat)⟩ : Tok)])) := HGo.out (by have : L = acc.length := HL.out; omega)
                            obtain ⟨i0, z0, hi, hz0, hz1, hz2, hz3⟩ := tok_info
                            have hm1 : L + 1 ≤ maxLen := by have : L ≤ 4096 := HL4.out; unfold maxLen; omega
                            have hm2 : (L + 1) * 40 ≤ 140737488355328 := by have : L ≤ 4096 := HL4.out; omega
                            have HM3 : Hid (∀ o, B ≤ (World.alloc ((w6.setCell ⟨w3.heap.size, 0, none⟩ (.int .i64 2)).setCell ⟨w3.heap.size, 2, none⟩ (.int .i64 nn)) o).heap.size) := fun o => by have h1 := (Array.getElem?_eq_some_iff.1 M4.out.tok).1; have h2 := M4.out.ge; rw [World.alloc_size]; omega
                            clear h4
                            go_wp2_with (at_builtin; refine wpList_append_ownF _ rfl _ _ 118 rfl B 152 i0 z0 4 40 Tryz.underlying118 hi hz0 hz1 hz2 hz3 (by decide) _ L (tkCs acc) rfl (M4.out.row.alloc _) _ 1 1 [.int .i64 2, .string ⟨#[]⟩, .int .i64 nn, .int .i64 (Pk l k : Int)] rfl rfl (new_cellsN _ _ (by simp) _ _ _ _) (one_t _ _ _ _) hm1 hm2 (HM3.out _) ?_)
                            intro v' w9 hown' hgrow _
                            obtain ⟨ao', cap', rfl⟩ : ∃ ao' cap', v' = .slice ao' (L + 1) cap' := by
                              rcases hown'.2 with ⟨_, h0⟩ | ⟨g, cap', cur, fz, hv, _⟩
                              · omega
                              · exact ⟨_, cap', hv⟩
                            have e2 : (acc ++ [(⟨2, ⟨#[]⟩, nn, (Pk l k : Nat)⟩ : Tok)]).length = L + 1 := by rw [List.length_append, ← (show L = acc.length from HL.out)]; rfl
                            have hbB : B ≤ (World.heap ((w6.setCell ⟨w3.heap.size, 0, none⟩ (.int .i64 2)).setCell ⟨w3.heap.size, 2, none⟩ (.int .i64 nn))).size := by have := (Array.getElem?_eq_some_iff.1 M4.out.tok).1; have := M4.out.ge; omega
                            have HK : Hid (w9.ownsRowF B 152 4 (.slice ao' (acc ++ [(⟨2, ⟨#[]⟩, nn, (Pk l k : Nat)⟩ : Tok)]).length cap') (acc ++ [(⟨2, ⟨#[]⟩, nn, (Pk l k : Nat)⟩ : Tok)]).length (tkCs (acc ++ [(⟨2, ⟨#[]⟩, nn, (Pk l k : Nat)⟩ : Tok)])) ∧ Below B w2 w9 ∧ (acc ++ [(⟨2, ⟨#[]⟩, nn, (Pk l k : Nat)⟩ : Tok)]).length ≤ 4096) := by
                              refine ⟨by rw [e2, tkCs_snoc]; exact hown', (M4.out.bel.alloc hbB _).grown hgrow (HM3.out _) (fun k hk => (M4.out.row.lt k hk).1), ?_⟩
                              rw [e2]
                              have h1 : L ≤ 4096 := HL4.out
                              have h2 : ¬ (4096 : Int) ≤ (L : Int) := of_decide_eq_false b4
                              omega
                            have HV : Hid ((Value.slice ao' (L + 1) cap') = .slice ao' (acc ++ [(⟨2, ⟨#[]⟩, nn, (Pk l k : Nat)⟩ : Tok)]).length cap') := by rw [e2]; exact rfl
                            clear hown' hgrow e2 HM3 hi hz0 hz1 hz2 hz3 q0 q1 q2 q3
                            go_wp2
                            go_roundw
                            case rel => exact ⟨E, acc ++ [(⟨2, ⟨#[]⟩, nn, (Pk l k : Nat)⟩ : Tok)], ao', cap', by omega, HV.out, rfl, HE.out, HK.out.2.2, HK.out.1, HK.out.2.1⟩
                            case measure => simp only [uOf]; omega
                        · have he11 : ee = 11 := by omega
                          rw [if_neg he0, if_pos he11] at hred
                          have HE : Hid (Z = ([], Pk l k, 11)) := (HT.out _ _ _ hred).2.2 (by decide)
                          subst he11
                          clear hred HT hnum h3 hne9 he0
                          go_wp2
                          go_quiet (fail)
                          go_wp2
                          go_ret3
                          rw [show Z = _ from HE.out]
                          exact ⟨_, rfl, toks_nil _ _, HWb.out _ (below_drewN M6.out.bel _)⟩
                      | false =>
                        have he9 : ee = 9 := hnum.2 rfl
                        rw [he9, decide_eq_true rfl, Bool.true_and] at HRM
                        rw [if_neg (by omega), if_neg (by omega)] at hred
                        go_wp2_with fail
                        refine (show Calls Tryz.prog 47 _ _ _ from HRM.out _).mono ?_
                        rintro e7 w6 ⟨rfl, o6⟩
                        have M6 : Hid (Mid w2 B w3.heap.size ao cap L acc #[.int .i64 0, .string ⟨#[]⟩, .int .i64 0, .int .i64 (Pk l k : Int)] w6) := M5.out.only o6
                        have c0 := blk_cells M6.out.tok 0
                        have c1 := blk_cells M6.out.tok 1
                        have c2 := blk_cells M6.out.tok 2
                        have c3 := blk_cells M6.out.tok 3
                        have z0 := blk_froz M6.out.tok 0
                        have z1 := blk_froz M6.out.tok 1
                        simp only [List.getElem?_toArray, List.getElem?_cons_zero, List.getElem?_cons_succ] at c0 c1 c2 c3
                        clear HRN HRM o6 M5 he9 h3 hnum
                        cases yy with
                        | true =>
                          rw [if_neg (by simp)] at hred
                          obtain ⟨t1, t2, _⟩ := HT.out _ _ _ hred
                          have HFull : Hid (acc.length = 4096 → Z = ([], Pk l k, 11)) := t1 rfl
                          have HGo : Hid (acc.length ≠ 4096 → Z = tokH (tx l) (bg (tx l) (Pk l E)) (acc ++ [(⟨1, X, 0, (Pk l k : Nat)⟩ : Tok)])) := t2 rfl
                          have M4 : Hid (Mid w2 B w3.heap.size ao cap L acc #[.int .i64 1, .string X, .int .i64 0, .int .i64 (Pk l k : Int)] ((w6.setCell ⟨w3.heap.size, 0, none⟩ (.int .i64 1)).setCell ⟨w3.heap.size, 1, none⟩ (.string X))) := (M6.out.set 0 (.int .i64 1)).set 1 (.string X)
                          clear hred t1 t2 HT
                          have M4' := M4.out
                          have q0 := blk_cells M4'.tok 0
                          have q1 := blk_cells M4'.tok 1
                          have q2 := blk_cells M4'.tok 2
                          have q3 := blk_cells M4'.tok 3
                          simp only [List.getElem?_toArray, List.getElem?_cons_zero, List.getElem?_cons_succ] at q0 q1 q2 q3
                          clear M4'
                          by_cases h4 : L = 4096
                          · have HE : Hid (Z = ([], Pk l k, 11)) := HFull.out (by have : L = acc.length := HL.out; omega)
                            have b4 : decide ((4096 : Int) ≤ (L : Int)) = true := decide_eq_true (by omega)
                            clear h4
                            go_wp2
                            go_quiet (fail)
                            go_wp2
                            go_ret3
                            rw [show Z = _ from HE.out]
                            exact ⟨_, rfl, toks_nil _ _, HWb.out _ (below_drewN M4.out.bel _)⟩
                          · have b4 : decide ((4096 : Int) ≤ (L : Int)) = false := decide_eq_false (by have : L ≤ 4096 := HL4.out; omega)
                            have HE : Hid (Z = tokH (tx l) (bg (tx l) (Pk l (E))) (acc ++ [(⟨1, X, 0, (Pk l k : Nat)⟩ : Tok)])) := HGo.out (by have : L = acc.length := HL.out; omega)
                            obtain ⟨i0, z0, hi, hz0, hz1, hz2, hz3⟩ := tok_info
                            have hm1 : L + 1 ≤ maxLen := by have : L ≤ 4096 := HL4.out; unfold maxLen; omega
                            have hm2 : (L + 1) * 40 ≤ 140737488355328 := by have : L ≤ 4096 := HL4.out; omega
                            have HM3 : Hid (∀ o, B ≤ (World.alloc ((w6.setCell ⟨w3.heap.size, 0, none⟩ (.int .i64 1)).setCell ⟨w3.heap.size, 1, none⟩ (.string X)) o).heap.size) := fun o => by have h1 := (Array.getElem?_eq_some_iff.1 M4.out.tok).1; have h2 := M4.out.ge; rw [World.alloc_size]; omega
                            clear h4
                            go_wp2_with (at_builtin; refine wpList_append_ownF _ rfl _ _ 118 rfl B 152 i0 z0 4 40 Tryz.underlying118 hi hz0 hz1 hz2 hz3 (by decide) _ L (tkCs acc) rfl (M4.out.row.alloc _) _ 1 1 [.int .i64 1, .string X, .int .i64 0, .int .i64 (Pk l k : Int)] rfl rfl (new_cellsN _ _ (by simp) _ _ _ _) (one_t _ _ _ _) hm1 hm2 (HM3.out _) ?_)
                            intro v' w9 hown' hgrow _
                            obtain ⟨ao', cap', rfl⟩ : ∃ ao' cap', v' = .slice ao' (L + 1) cap' := by
                              rcases hown'.2 with ⟨_, h0⟩ | ⟨g, cap', cur, fz, hv, _⟩
                              · omega
                              · exact ⟨_, cap', hv⟩
                            have e2 : (acc ++ [(⟨1, X, 0, (Pk l k : Nat)⟩ : Tok)]).length = L + 1 := by rw [List.length_append, ← (show L = acc.length from HL.out)]; rfl
                            have hbB : B ≤ (World.heap ((w6.setCell ⟨w3.heap.size, 0, none⟩ (.int .i64 1)).setCell ⟨w3.heap.size, 1, none⟩ (.string X))).size := by have := (Array.getElem?_eq_some_iff.1 M4.out.tok).1; have := M4.out.ge; omega
                            have HK : Hid (w9.ownsRowF B 152 4 (.slice ao' (acc ++ [(⟨1, X, 0, (Pk l k : Nat)⟩ : Tok)]).length cap') (acc ++ [(⟨1, X, 0, (Pk l k : Nat)⟩ : Tok)]).length (tkCs (acc ++ [(⟨1, X, 0, (Pk l k : Nat)⟩ : Tok)])) ∧ Below B w2 w9 ∧ (acc ++ [(⟨1, X, 0, (Pk l k : Nat)⟩ : Tok)]).length ≤ 4096) := by
                              refine ⟨by rw [e2, tkCs_snoc]; exact hown', (M4.out.bel.alloc hbB _).grown hgrow (HM3.out _) (fun k hk => (M4.out.row.lt k hk).1), ?_⟩
                              rw [e2]
                              have h1 : L ≤ 4096 := HL4.out
                              have h2 : ¬ (4096 : Int) ≤ (L : Int) := of_decide_eq_false b4
                              omega
                            have HV : Hid ((Value.slice ao' (L + 1) cap') = .slice ao' (acc ++ [(⟨1, X, 0, (Pk l k : Nat)⟩ : Tok)]).length cap') := by rw [e2]; exact rfl
                            clear hown' hgrow e2 HM3 hi hz0 hz1 hz2 hz3 q0 q1 q2 q3
                            go_wp2
                            go_roundw
                            case rel => exact ⟨E, acc ++ [(⟨1, X, 0, (Pk l k : Nat)⟩ : Tok)], ao', cap', by omega, HV.out, rfl, HE.out, HK.out.2.2, HK.out.1, HK.out.2.1⟩
                            case measure => simp only [uOf]; omega
                        | false =>
                          rw [if_pos rfl] at hred
                          have HE : Hid (Z = ([], Pk l k, 10)) := (HT.out _ _ _ hred).2.2 (by decide)
                          clear hred HT
                          go_wp2
                          go_quiet (fail)
                          go_wp2
                          go_ret3
                          rw [show Z = _ from HE.out]
                          exact ⟨_, rfl, toks_nil _ _, HWb.out _ (below_drewN M6.out.bel _)⟩
                  · have j1 : ¬ (E : Int) < (m : Int) := by omega
                    obtain ⟨dl, hdl1, _⟩ := HIn.out (E - 1) (by omega) (by omega)
                    have Y2 := (HCe.out (E - 1) dl hdl1).2.2
                    rw [show E - 1 + 1 = E by omega] at Y2
                    have r0 : (0 : Int) ≤ (E : Int) - 1 := by omega
                    have r1 : (E : Int) - 1 < (m : Int) := by omega
                    have r2 : ((E : Int) - 1).toNat = E - 1 := by omega
                    have hsl := HSl.out
                    obtain ⟨X, hX⟩ : ∃ X, X = tx wd := ⟨_, rfl⟩
                    have HX : Hid (X = tx wd) := hX
                    rw [← hX] at hsl
                    clear hdl1 hX
                    go_wp2
                    go_quiet (fail)
                    obtain ⟨W4, hW4⟩ : ∃ W4, W4 = W3.drewN nq := ⟨_, rfl⟩
                    rw [← hW4]
                    have M4 : Hid (Mid w2 B w3.heap.size ao cap L acc #[.int .i64 0, .string ⟨#[]⟩, .int .i64 0, .int .i64 (Pk l k : Int)] W4) := by rw [hW4]; exact MT.out.drewN _
                    have HC4 : Hid (∀ i d : Nat, l[i]? = some d → W4.cell? ⟨g, o + i * 4, none⟩ = some (.int .i32 (d : Int))) := fun i d hd => by rw [hW4]; exact (HCe.out i d hd).1
                    clear hW4 Y2 hsl X0 X1 r0 r1 r2
                    by_cases hw33 : wd = [33]
                    · have hbt : (X.toList == [33]) = true := by rw [show X = _ from HX.out, HBang.out, decide_eq_true hw33]
                      have hrmt : rmL (l.drop k) = true := by rw [HRm.out, decide_eq_true hw33]
                      have HRmT : Hid (rmL (l.drop k) = true) := hrmt
                      have hc33 : c = 33 := by
                        have h1 := HTk.out
                        rw [hw33, drop_cons HC2.out] at h1
                        simp at h1
                        exact h1.symm
                      have HDw : Hid ((l.drop k).dropWhile blk = l.drop k) := by
                        show _ = _
                        rw [drop_cons HC2.out, List.dropWhile_cons, if_neg (by rw [HNb.out]; simp)]
                      have HC33 : Hid (l[k]? = some 33) := by rw [← hc33]; exact HC2.out
                      clear hrmt hc33 hw33 HRm HRed HBang HNum HTk HIn HOut HCe
                      go_wp2
                      go_loopw [7] (fun r7 wr => ∃ k2 : Nat, k ≤ k2 ∧ k2 ≤ m ∧ r7 = .int .i64 (k2 : Int) ∧ wr = W4 ∧ Hid ((l.drop k2).dropWhile (fun c => !decide (c = 10)) = (l.drop k).dropWhile (fun c => !decide (c = 10)))) (fun r7 _ => m - uOf r7)
                      case atStart => exact ⟨k, Nat.le_refl _, by omega, rfl, rfl, rfl⟩
                      case round =>
                        obtain ⟨k2, hk1, hk2, rfl, hwr, HI3⟩ := hrel
                        subst wr
                        by_cases hlt3 : k2 < m
                        · have hlt4 : k2 < l.length := by have : m = l.length := HM.out; omega
                          obtain ⟨d, hd⟩ : ∃ d, d = l[k2]'hlt4 := ⟨_, rfl⟩
                          have hd2 : l[k2]? = some d := by rw [hd]; exact List.getElem?_eq_getElem _
                          have Y0 := HC4.out k2 d hd2
                          have j0 : (0 : Int) ≤ (k2 : Int) := Int.natCast_nonneg _
                          have j1 : (k2 : Int) < (m : Int) := by omega
                          by_cases h10 : d = 10
                          · have e10 : ((d : Int) != 10) = false := by rw [h10]; rfl
                            have HE : Hid (Z = tokH (tx l) (bg (tx l) (Pk l k2)) acc) := by
                              show Z = _
                              rw [HZk.out, t_remark HV.out HDw.out HRmT.out (k' := k2)]
                              rw [← HI3.out, drop_cons hd2, List.dropWhile_cons, if_neg (by simp [h10])]
                            have hkk : k < k2 := by
                              rcases Nat.lt_or_ge k k2 with g | g
                              · exact g
                              · exfalso
                                obtain rfl : k2 = k := by omega
                                have h3 : l[k2]? = some 33 := HC33.out
                                rw [hd2] at h3
                                simp at h3
                                omega
                            clear h10 hd hd2
                            go_wp2
                            go_roundw
                            case rel => exact ⟨k2, acc, ao, cap, by omega, by rw [show L = acc.length from HL.out], rfl, HE.out, by rw [← (show L = acc.length from HL.out)]; exact HL4.out, by rw [← (show L = acc.length from HL.out)]; exact M4.out.row, M4.out.bel⟩
                            case measure => simp only [uOf]; omega
                          · have e10 : ((d : Int) != 10) = true := by simp; omega
                            have i10 : ¬ (d : Int) = 10 := by omega
                            have HI4 : Hid ((l.drop (k2 + 1)).dropWhile (fun c => !decide (c = 10)) = (l.drop k).dropWhile (fun c => !decide (c = 10))) := by
                              show _ = _
                              rw [← HI3.out, drop_cons hd2, List.dropWhile_cons, if_pos (by simp [h10])]
                            clear h10 hd hd2 HI3
                            go_wp2
                            go_roundw
                            case rel => exact ⟨k2 + 1, by omega, by omega, by go_num, by simp, HI4⟩
                            case measure => simp only [uOf]; omega
                        · have j1 : ¬ (k2 : Int) < (m : Int) := by omega
                          have HE : Hid (Z = tokH (tx l) (bg (tx l) (Pk l k2)) acc) := by
                            show Z = _
                            rw [HZk.out, t_remark HV.out HDw.out HRmT.out (k' := k2)]
                            rw [← HI3.out, List.drop_eq_nil_of_le (by have : m = l.length := HM.out; omega)]
                            rfl
                          go_wp2
                          go_roundw
                          case rel => exact ⟨k2, acc, ao, cap, by omega, by rw [show L = acc.length from HL.out], rfl, HE.out, by rw [← (show L = acc.length from HL.out)]; exact HL4.out, by rw [← (show L = acc.length from HL.out)]; exact M4.out.row, M4.out.bel⟩
                          case measure => simp only [uOf]; omega
                    · have hbt : (X.toList == [33]) = false := by rw [show X = _ from HX.out, HBang.out, decide_eq_false hw33]
                      have hrmf : rmL (l.drop k) = false := by rw [HRm.out, decide_eq_false hw33]
                      obtain ⟨hd1, hd2⟩ := t_head HV.out HC2.out HNb.out hrmf
                      have HD1 : Hid (bg (tx l) (Pk l k) = Pk l k ∧ Pk l k < (tx l).size) := ⟨hd1, hd2⟩
                      have hRdC := HRd.out _ M4.out.bel
                      obtain ⟨hcap5, hsub⟩ := rdc_sub hRdC (k := k) (E := E) hkE (by rw [cl_len]; have : m = l.length := HM.out; omega)
                      have hrun : ((((cl 0 l).drop k).take (E - k)).map (·.r)) = wd := by
                        rw [List.map_take, List.map_drop, cl_runes, show E - k = wd.length by have : E = k + wd.length := HEk.out; omega]
                        exact HTk.out.symm
                      have HNm : Hid (Calls Tryz.prog 69 #[.slice (some ⟨g, o + k * 4, none⟩) (E - k) (cap5 - k)] W4 fun e w' => e = .returned (rnV (rnumL wd)) ∧ Only (fun _ => False) W4 w') := by
                        have := rnumber_any (((cl 0 l).drop k).take (E - k)) (by rw [List.length_take]; omega) _ W4 hsub
                        rwa [hrun] at this
                      have hslc := slice_chr g o m cap5 k E hkE (by omega)
                      have hXs : X.size ≤ 4000000 := by
                        rw [show X = tx wd from HX.out, tx_size]
                        have h1 := pk_add l k wd.length
                        rw [← HTk.out] at h1
                        have h2 := (sfx_at HV.out (k + wd.length)).size
                        have h3 : s.size ≤ 65536 := by have := of_decide_eq_false b1; omega
                        rw [← (show s = tx l from HS.out)] at h2
                        omega
                      have HRN : Hid (∀ w1, Calls Tryz.prog 72 #[.string X] w1 fun e w' => e = .returned (.tuple #[.int .i64 (numR X).1, .int .i64 (numR X).2]) ∧ Only (fun _ => False) w1 w') := fun w1 => rNumber_any X hXs w1
                      have HRM : Hid (∀ w1, Calls Tryz.prog 47 #[.string X] w1 fun e w' => e = .returned (.bool (nameB X)) ∧ Only (fun _ => False) w1 w') := fun w1 => rName_any X hXs w1
                      have hnum := HNum.out.2
                      have hred := HRed.out
                      unfold wrdL at hred
                      rw [← (show X = tx wd from HX.out)] at hnum hred
                      have h3 := numR_three X
                      have hnb : nameB X = (decide ((numR X).2 = 9) && nmdB X) := rfl
                      obtain ⟨nn, hnn⟩ : ∃ nn, nn = (numR X).1 := ⟨_, rfl⟩
                      obtain ⟨ee, hee⟩ : ∃ ee, ee = (numR X).2 := ⟨_, rfl⟩
                      obtain ⟨yy, hyy⟩ : ∃ yy, yy = nmdB X := ⟨_, rfl⟩
                      rw [← hnn, ← hee] at HRN
                      rw [← hee] at hnum h3 hnb
                      rw [← hnn, ← hee, ← hyy] at hred
                      rw [← hyy] at hnb
                      rw [hnb] at HRM
                      obtain ⟨x, hx⟩ : ∃ x, x = rnumL wd := ⟨_, rfl⟩
                      rw [← hx] at HNm hnum
                      obtain ⟨xn, xm, xo⟩ := x
                      simp only [rnV] at HNm
                      dsimp only at hnum
                      have HT : Hid (∀ d : Tok, ∀ z ez, redR (tx l) (Pk l k) = (d, z, ez) → (ez = 0 → acc.length = 4096 → Z = ([], Pk l k, 11)) ∧ (ez = 0 → acc.length ≠ 4096 → Z = tokH (tx l) (bg (tx l) z) (acc ++ [d])) ∧ (ez ≠ 0 → Z = ([], z, ez))) := fun d z ez hq => by
                        obtain ⟨p1, p2⟩ := HD1.out
                        rw [HZk.out, p1]
                        refine ⟨fun g h => t_full p2 (by rw [hq]; exact g) h, fun g h => by rw [tokH_go p2 (by rw [hq]; exact g) h, hq], fun g => by rw [t_err acc p2 (by rw [hq]; exact g), hq]⟩
                      clear hd1 hd2 hRdC hsub hrun hnn hee hyy hx hnb hrmf hw33 HRm HRed HBang HNum HTk HIn HOut HCe HC4 HZk HD1 hXs hcap5
                      go_wp2_with fail
                      refine (show Calls Tryz.prog 69 _ _ _ from HNm.out).mono ?_
                      rintro e6 w5 ⟨rfl, o5⟩
                      have M5 : Hid (Mid w2 B w3.heap.size ao cap L acc #[.int .i64 0, .string ⟨#[]⟩, .int .i64 0, .int .i64 (Pk l k : Int)] w5) := M4.out.only o5
                      clear HNm o5 M4 hslc hbt
                      cases xo with
                      | true =>
                        have hne9 : ¬ ee = 9 := fun g => by simp at hnum; exact hnum g
                        go_wp2_with fail
                        refine (show Calls Tryz.prog 72 _ _ _ from HRN.out _).mono ?_
                        rintro e7 w6 ⟨rfl, o6⟩
                        have M6 : Hid (Mid w2 B w3.heap.size ao cap L acc #[.int .i64 0, .string ⟨#[]⟩, .int .i64 0, .int .i64 (Pk l k : Int)] w6) := M5.out.only o6
                        have c0 := blk_cells M6.out.tok 0
                        have c1 := blk_cells M6.out.tok 1
                        have c2 := blk_cells M6.out.tok 2
                        have c3 := blk_cells M6.out.tok 3
                        have z0 := blk_froz M6.out.tok 0
                        have z1 := blk_froz M6.out.tok 1
                        have z2 := blk_froz M6.out.tok 2
                        simp only [List.getElem?_toArray, List.getElem?_cons_zero, List.getElem?_cons_succ] at c0 c1 c2 c3
                        clear HRN HRM o6 M5
                        by_cases he0 : ee = 0
                        · rw [if_pos he0] at hred
                          obtain ⟨t1, t2, _⟩ := HT.out _ _ _ hred
                          have HFull : Hid (acc.length = 4096 → Z = ([], Pk l k, 11)) := t1 rfl
                          have HGo : Hid (acc.length ≠ 4096 → Z = tokH (tx l) (bg (tx l) (Pk l E)) (acc ++ [(⟨2, ⟨#[]⟩, nn, (Pk l k : Nat)⟩ : Tok)])) := t2 rfl
                          subst he0
                          have M4 : Hid (Mid w2 B w3.heap.size ao cap L acc #[.int .i64 2, .string ⟨#[]⟩, .int .i64 nn, .int .i64 (Pk l k : Int)] ((w6.setCell ⟨w3.heap.size, 0, none⟩ (.int .i64 2)).setCell ⟨w3.heap.size, 2, none⟩ (.int .i64 nn))) := (M6.out.set 0 (.int .i64 2)).set 2 (.int .i64 nn)
                          clear hred t1 t2 HT hnum h3 hne9
                          have M4' := M4.out
                          have q0 := blk_cells M4'.tok 0
                          have q1 := blk_cells M4'.tok 1
                          have q2 := blk_cells M4'.tok 2
                          have q3 := blk_cells M4'.tok 3
                          simp only [List.getElem?_toArray, List.getElem?_cons_zero, List.getElem?_cons_succ] at q0 q1 q2 q3
                          clear M4'
                          by_cases h4 : L = 4096
                          · have HE : Hid (Z = ([], Pk l k, 11)) := HFull.out (by have : L = acc.length := HL.out; omega)
                            have b4 : decide ((4096 : Int) ≤ (L : Int)) = true := decide_eq_true (by omega)
                            clear h4
                            go_wp2
                            go_quiet (fail)
                            go_wp2
                            go_ret3
                            rw [show Z = _ from HE.out]
                            exact ⟨_, rfl, toks_nil _ _, HWb.out _ (below_drewN M4.out.bel _)⟩
                          · have b4 : decide ((4096 : Int) ≤ (L : Int)) = false := decide_eq_false (by have : L ≤ 4096 := HL4.out; omega)
                            have HE : Hid (Z = tokH (tx l) (bg (tx l) (Pk l (E))) (acc ++ [(⟨2, ⟨#[]⟩, nn, (Pk l k : Nat)⟩ : Tok)])) := HGo.out (by have : L = acc.length := HL.out; omega)
                            obtain ⟨i0, z0, hi, hz0, hz1, hz2, hz3⟩ := tok_info
                            have hm1 : L + 1 ≤ maxLen := by have : L ≤ 4096 := HL4.out; unfold maxLen; omega
                            have hm2 : (L + 1) * 40 ≤ 140737488355328 := by have : L ≤ 4096 := HL4.out; omega
                            have HM3 : Hid (∀ o, B ≤ (World.alloc ((w6.setCell ⟨w3.heap.size, 0, none⟩ (.int .i64 2)).setCell ⟨w3.heap.size, 2, none⟩ (.int .i64 nn)) o).heap.size) := fun o => by have h1 := (Array.getElem?_eq_some_iff.1 M4.out.tok).1; have h2 := M4.out.ge; rw [World.alloc_size]; omega
                            clear h4
                            go_wp2_with (at_builtin; refine wpList_append_ownF _ rfl _ _ 118 rfl B 152 i0 z0 4 40 Tryz.underlying118 hi hz0 hz1 hz2 hz3 (by decide) _ L (tkCs acc) rfl (M4.out.row.alloc _) _ 1 1 [.int .i64 2, .string ⟨#[]⟩, .int .i64 nn, .int .i64 (Pk l k : Int)] rfl rfl (new_cellsN _ _ (by simp) _ _ _ _) (one_t _ _ _ _) hm1 hm2 (HM3.out _) ?_)
                            intro v' w9 hown' hgrow _
                            obtain ⟨ao', cap', rfl⟩ : ∃ ao' cap', v' = .slice ao' (L + 1) cap' := by
                              rcases hown'.2 with ⟨_, h0⟩ | ⟨g, cap', cur, fz, hv, _⟩
                              · omega
                              · exact ⟨_, cap', hv⟩
                            have e2 : (acc ++ [(⟨2, ⟨#[]⟩, nn, (Pk l k : Nat)⟩ : Tok)]).length = L + 1 := by rw [List.length_append, ← (show L = acc.length from HL.out)]; rfl
                            have hbB : B ≤ (World.heap ((w6.setCell ⟨w3.heap.size, 0, none⟩ (.int .i64 2)).setCell ⟨w3.heap.size, 2, none⟩ (.int .i64 nn))).size := by have := (Array.getElem?_eq_some_iff.1 M4.out.tok).1; have := M4.out.ge; omega
                            have HK : Hid (w9.ownsRowF B 152 4 (.slice ao' (acc ++ [(⟨2, ⟨#[]⟩, nn, (Pk l k : Nat)⟩ : Tok)]).length cap') (acc ++ [(⟨2, ⟨#[]⟩, nn, (Pk l k : Nat)⟩ : Tok)]).length (tkCs (acc ++ [(⟨2, ⟨#[]⟩, nn, (Pk l k : Nat)⟩ : Tok)])) ∧ Below B w2 w9 ∧ (acc ++ [(⟨2, ⟨#[]⟩, nn, (Pk l k : Nat)⟩ : Tok)]).length ≤ 4096) := by
                              refine ⟨by rw [e2, tkCs_snoc]; exact hown', (M4.out.bel.alloc hbB _).grown hgrow (HM3.out _) (fun k hk => (M4.out.row.lt k hk).1), ?_⟩
                              rw [e2]
                              have h1 : L ≤ 4096 := HL4.out
                              have h2 : ¬ (4096 : Int) ≤ (L : Int) := of_decide_eq_false b4
                              omega
                            have HV : Hid ((Value.slice ao' (L + 1) cap') = .slice ao' (acc ++ [(⟨2, ⟨#[]⟩, nn, (Pk l k : Nat)⟩ : Tok)]).length cap') := by rw [e2]; exact rfl
                            clear hown' hgrow e2 HM3 hi hz0 hz1 hz2 hz3 q0 q1 q2 q3
                            go_wp2
                            go_roundw
                            case rel => exact ⟨E, acc ++ [(⟨2, ⟨#[]⟩, nn, (Pk l k : Nat)⟩ : Tok)], ao', cap', by omega, HV.out, rfl, HE.out, HK.out.2.2, HK.out.1, HK.out.2.1⟩
                            case measure => simp only [uOf]; omega
                        · have he11 : ee = 11 := by omega
                          rw [if_neg he0, if_pos he11] at hred
                          have HE : Hid (Z = ([], Pk l k, 11)) := (HT.out _ _ _ hred).2.2 (by decide)
                          subst he11
                          clear hred HT hnum h3 hne9 he0
                          go_wp2
                          go_quiet (fail)
                          go_wp2
                          go_ret3
                          rw [show Z = _ from HE.out]
                          exact ⟨_, rfl, toks_nil _ _, HWb.out _ (below_drewN M6.out.bel _)⟩
                      | false =>
                        have he9 : ee = 9 := hnum.2 rfl
                        rw [he9, decide_eq_true rfl, Bool.true_and] at HRM
                        rw [if_neg (by omega), if_neg (by omega)] at hred
                        go_wp2_with fail
                        refine (show Calls Tryz.prog 47 _ _ _ from HRM.out _).mono ?_
                        rintro e7 w6 ⟨rfl, o6⟩
                        have M6 : Hid (Mid w2 B w3.heap.size ao cap L acc #[.int .i64 0, .string ⟨#[]⟩, .int .i64 0, .int .i64 (Pk l k : Int)] w6) := M5.out.only o6
                        have c0 := blk_cells M6.out.tok 0
                        have c1 := blk_cells M6.out.tok 1
                        have c2 := blk_cells M6.out.tok 2
                        have c3 := blk_cells M6.out.tok 3
                        have z0 := blk_froz M6.out.tok 0
                        have z1 := blk_froz M6.out.tok 1
                        simp only [List.getElem?_toArray, List.getElem?_cons_zero, List.getElem?_cons_succ] at c0 c1 c2 c3
                        clear HRN HRM o6 M5 he9 h3 hnum
                        cases yy with
                        | true =>
                          rw [if_neg (by simp)] at hred
                          obtain ⟨t1, t2, _⟩ := HT.out _ _ _ hred
                          have HFull : Hid (acc.length = 4096 → Z = ([], Pk l k, 11)) := t1 rfl
                          have HGo : Hid (acc.length ≠ 4096 → Z = tokH (tx l) (bg (tx l) (Pk l E)) (acc ++ [(⟨1, X, 0, (Pk l k : Nat)⟩ : Tok)])) := t2 rfl
                          have M4 : Hid (Mid w2 B w3.heap.size ao cap L acc #[.int .i64 1, .string X, .int .i64 0, .int .i64 (Pk l k : Int)] ((w6.setCell ⟨w3.heap.size, 0, none⟩ (.int .i64 1)).setCell ⟨w3.heap.size, 1, none⟩ (.string X))) := (M6.out.set 0 (.int .i64 1)).set 1 (.string X)
                          clear hred t1 t2 HT
                          have M4' := M4.out
                          have q0 := blk_cells M4'.tok 0
                          have q1 := blk_cells M4'.tok 1
                          have q2 := blk_cells M4'.tok 2
                          have q3 := blk_cells M4'.tok 3
                          simp only [List.getElem?_toArray, List.getElem?_cons_zero, List.getElem?_cons_succ] at q0 q1 q2 q3
                          clear M4'
                          by_cases h4 : L = 4096
                          · have HE : Hid (Z = ([], Pk l k, 11)) := HFull.out (by have : L = acc.length := HL.out; omega)
                            have b4 : decide ((4096 : Int) ≤ (L : Int)) = true := decide_eq_true (by omega)
                            clear h4
                            go_wp2
                            go_quiet (fail)
                            go_wp2
                            go_ret3
                            rw [show Z = _ from HE.out]
                            exact ⟨_, rfl, toks_nil _ _, HWb.out _ (below_drewN M4.out.bel _)⟩
                          · have b4 : decide ((4096 : Int) ≤ (L : Int)) = false := decide_eq_false (by have : L ≤ 4096 := HL4.out; omega)
                            have HE : Hid (Z = tokH (tx l) (bg (tx l) (Pk l (E))) (acc ++ [(⟨1, X, 0, (Pk l k : Nat)⟩ : Tok)])) := HGo.out (by have : L = acc.length := HL.out; omega)
                            obtain ⟨i0, z0, hi, hz0, hz1, hz2, hz3⟩ := tok_info
                            have hm1 : L + 1 ≤ maxLen := by have : L ≤ 4096 := HL4.out; unfold maxLen; omega
                            have hm2 : (L + 1) * 40 ≤ 140737488355328 := by have : L ≤ 4096 := HL4.out; omega
                            have HM3 : Hid (∀ o, B ≤ (World.alloc ((w6.setCell ⟨w3.heap.size, 0, none⟩ (.int .i64 1)).setCell ⟨w3.heap.size, 1, none⟩ (.string X)) o).heap.size) := fun o => by have h1 := (Array.getElem?_eq_some_iff.1 M4.out.tok).1; have h2 := M4.out.ge; rw [World.alloc_size]; omega
                            clear h4
                            go_wp2_with (at_builtin; refine wpList_append_ownF _ rfl _ _ 118 rfl B 152 i0 z0 4 40 Tryz.underlying118 hi hz0 hz1 hz2 hz3 (by decide) _ L (tkCs acc) rfl (M4.out.row.alloc _) _ 1 1 [.int .i64 1, .string X, .int .i64 0, .int .i64 (Pk l k : Int)] rfl rfl (new_cellsN _ _ (by simp) _ _ _ _) (one_t _ _ _ _) hm1 hm2 (HM3.out _) ?_)
                            intro v' w9 hown' hgrow _
                            obtain ⟨ao', cap', rfl⟩ : ∃ ao' cap', v' = .slice ao' (L + 1) cap' := by
                              rcases hown'.2 with ⟨_, h0⟩ | ⟨g, cap', cur, fz, hv, _⟩
                              · omega
                              · exact ⟨_, cap', hv⟩
                            have e2 : (acc ++ [(⟨1, X, 0, (Pk l k : Nat)⟩ : Tok)]).length = L + 1 := by rw [List.length_append, ← (show L = acc.length from HL.out)]; rfl
                            have hbB : B ≤ (World.heap ((w6.setCell ⟨w3.heap.size, 0, none⟩ (.int .i64 1)).setCell ⟨w3.heap.size, 1, none⟩ (.string X))).size := by have := (Array.getElem?_eq_some_iff.1 M4.out.tok).1; have := M4.out.ge; omega
                            have HK : Hid (w9.ownsRowF B 152 4 (.slice ao' (acc ++ [(⟨1, X, 0, (Pk l k : Nat)⟩ : Tok)]).length cap') (acc ++ [(⟨1, X, 0, (Pk l k : Nat)⟩ : Tok)]).length (tkCs (acc ++ [(⟨1, X, 0, (Pk l k : Nat)⟩ : Tok)])) ∧ Below B w2 w9 ∧ (acc ++ [(⟨1, X, 0, (Pk l k : Nat)⟩ : Tok)]).length ≤ 4096) := by
                              refine ⟨by rw [e2, tkCs_snoc]; exact hown', (M4.out.bel.alloc hbB _).grown hgrow (HM3.out _) (fun k hk => (M4.out.row.lt k hk).1), ?_⟩
                              rw [e2]
                              have h1 : L ≤ 4096 := HL4.out
                              have h2 : ¬ (4096 : Int) ≤ (L : Int) := of_decide_eq_false b4
                              omega
                            have HV : Hid ((Value.slice ao' (L + 1) cap') = .slice ao' (acc ++ [(⟨1, X, 0, (Pk l k : Nat)⟩ : Tok)]).length cap') := by rw [e2]; exact rfl
                            clear hown' hgrow e2 HM3 hi hz0 hz1 hz2 hz3 q0 q1 q2 q3
                            go_wp2
                            go_roundw
                            case rel => exact ⟨E, acc ++ [(⟨1, X, 0, (Pk l k : Nat)⟩ : Tok)], ao', cap', by omega, HV.out, rfl, HE.out, HK.out.2.2, HK.out.1, HK.out.2.1⟩
                            case measure => simp only [uOf]; omega
                        | false =>
                          rw [if_pos rfl] at hred
                          have HE : Hid (Z = ([], Pk l k, 10)) := (HT.out _ _ _ hred).2.2 (by decide)
                          clear hred HT
                          go_wp2
                          go_quiet (fail)
                          go_wp2
                          go_ret3
                          rw [show Z = _ from HE.out]
                          exact ⟨_, rfl, toks_nil _ _, HWb.out _ (below_drewN M6.out.bel _)⟩
        · have k1 : ¬ (k : Int) < (m : Int) := by omega
          have HE : Hid (Z = (acc, 0, 0)) := by
            show Z = _
            rw [HZk.out, t_end HV.out (by have : m = l.length := HM.out; omega)]
          clear HZk
          go_wp2
          go_ret3
          have e1 : L = acc.length := HL.out
          rw [show Z = _ from HE.out]
          exact ⟨_, rfl, ⟨⟨ao, cap, by rw [e1]; rfl⟩, by have := owns_lower HRw.out (C := w.heap.size) (by have h2 : B = w2.heap.size := HBw.out; have := O2.out.size; omega); rw [e1] at this ⊢; exact this⟩, HWb.out _ HBl.out⟩
end Go.Proofs.YtfecmpebnianpaaGreatDoor
