import Derived.Test.YtenjollhlgjjdaaGreatDoorGaa
import Derived.Test.YtenjollhlgjjdaaGreatDoorGaq
import Derived.Test.YtenjollhlgjjdaaGreatDoorGap
import Derived.Deep.RegionHeld3
/-        -/
set_option linter.unusedSimpArgs false
set_option linter.unusedVariables false
set_option maxRecDepth 100000
set_option maxHeartbeats 40000000
namespace Go.Proofs.YtenjollhlgjjdaaGreatDoor
open Go.RowKit Go.Lib
theorem sl_midr (g L c a b : Nat) (hab : a ≤ b) (hb : b ≤ L) (hc : L ≤ c) : ∃ a' c', (∀ w, (Instr.slice 144 (.slice (some ⟨g, 0, none⟩) L c) (some (.int .i64 (a : Int))) (some (.int .i64 (b : Int))) none).run Tryz.prog w = .ok (.slice (some ⟨g, a', none⟩) (b - a) c') w) ∧ (a < b → a' = a) := by
 have k0 : (0 : Int) ≤ (a : Int) := by omega
 have k1 : (a : Int) ≤ (b : Int) := by omega
 have k2 : (b : Int) ≤ (c : Int) := by omega
 have k3 : (0 : Int) ≤ (b : Int) := by omega
 have e1 : ((b : Int) - (a : Int)).toNat = b - a := by omega
 have e2 : ((c : Int) - (a : Int)).toNat = c - a := by omega
 by_cases hz : c - a = 0
 ·have hca : c = a := by omega
  have hba : b = a := by omega
  subst hba
  refine ⟨0, 0, fun w => ?_, fun h => by omega⟩
  have k4 : ¬ ((c : Int) < (b : Int)) := by omega
  subst hca
  go_simp
 ·refine ⟨a, c - a, fun w => ?_, fun _ => rfl⟩
  have e4 : ¬ c = a := by omega
  go_simp
def CrP (L : Nat) (g : Nat) (n m : Int) (w : World) (e : Ending) (w' : World) : Prop :=
 w' = w ∧ if 0 ≤ n ∧ n ≤ m ∧ m ≤ (L : Int) then ∃ a' c', e = .returned (.tuple #[.slice (some ⟨g, a', none⟩) (m.toNat - n.toNat) c', .int .i64 0]) ∧ (n < m → a' = n.toNat) else e = .returned (.tuple #[.slice none 0 0, .int .i64 4])
theorem cut_r {L g c : Nat} {w : World} (hc : L ≤ c) (n m : Int) : Cz 87 #[.slice (some ⟨g, 0, none⟩) L c, .int .i64 n, .int .i64 m] w fun e w' => CrP L g n m w e w' := by
 by_cases h : 0 ≤ n ∧ n ≤ m ∧ m ≤ (L : Int)
 ·obtain ⟨h0, h1, h2⟩ := h
  obtain ⟨a, rfl⟩ : ∃ a : Nat, n = (a : Int) := ⟨n.toNat, by omega⟩
  obtain ⟨b, rfl⟩ : ∃ b : Nat, m = (b : Int) := ⟨m.toNat, by omega⟩
  obtain ⟨a', c', hr, ha⟩ := sl_midr g L c a b (by omega) (by omega) hc
  have HP : Hid (CrP L g (a : Int) (b : Int) w (.returned (.tuple #[.slice (some ⟨g, a', none⟩) (b - a) c', .int .i64 0])) w) := by
   refine ⟨rfl, ?_⟩
   rw [if_pos ⟨h0, h1, h2⟩]
   simp only [Int.toNat_natCast]
   exact ⟨a', c', rfl, fun h => ha (by omega)⟩
  have i1 : ¬ (a : Int) < 0 := by omega
  have i2 : ¬ (b : Int) < (a : Int) := by omega
  have i3 : ¬ (b : Int) > (L : Int) := by omega
  have i4 : ¬ (L : Int) < (b : Int) := by omega
  clear hc h0 h1 h2 ha
  go_enter Tryz.func87, Tryz.ntmps87
  go_wp2
  go_ret2
  exact HP.out
 ·have HP : Hid (CrP L g n m w (.returned (.tuple #[.slice none 0 0, .int .i64 4])) w) := by
   refine ⟨rfl, ?_⟩
   rw [if_neg h]
  have hh : n < 0 ∨ (¬ n < 0 ∧ m < n) ∨ (¬ n < 0 ∧ ¬ m < n ∧ m > (L : Int)) := by omega
  clear hc h
  rcases hh with i1 | ⟨i1, i2⟩ | ⟨i1, i2, i3⟩
  all_goals
   go_enter Tryz.func87, Tryz.ntmps87
   go_wp2
   go_ret2
   exact HP.out
theorem tx_mid (q : List Nat) (a b : Nat) : (tx ((q.drop a).take b)).size ≤ (tx q).size := by
 rw [tx_size, tx_size]
 have e : q = q.take a ++ ((q.drop a).take b ++ (q.drop a).drop b) := by rw [List.take_append_drop, List.take_append_drop]
 have h : wl q = wl (q.take a ++ ((q.drop a).take b ++ (q.drop a).drop b)) := by rw [← e]
 rw [wl_app, wl_app] at h
 omega
theorem tx_rev (q : List Nat) : (tx q.reverse).size = (tx q).size := by
 rw [tx_size, tx_size]
 induction q with
 | nil => rfl
 | cons c q ih =>
   rw [List.reverse_cons, wl_app, ih, wl_cons, wl_cons, wl_nil]
   omega
theorem len_wl : ∀ q : List Nat, q.length ≤ wl q
 | [] => Nat.zero_le _
 | c :: q => by
   have := len_wl q
   have := wr_pos c
   rw [wl_cons, List.length_cons]
   omega
theorem vl_mid {q : List Nat} (h : VL q) (a b : Nat) : VL ((q.drop a).take b) := fun c hc => h c (List.mem_of_mem_drop (List.mem_of_mem_take hc))
theorem vl_rev {q : List Nat} (h : VL q) : VL q.reverse := fun c hc => h c (List.mem_reverse.1 hc)
theorem sd_q {d : Nat} {t : Vt} (h : sdB d t = true) (hk : t.k = 2) : ∃ q, VL q ∧ t.s = tx q := by
 cases d with
 | zero => unfold sdB msB at h; simp [okV] at h
 | succ d =>
   unfold sdB msB at h
   simp only [Bool.and_eq_true] at h
   have h1 := h.1.1
   simp only [okV] at h1
   rw [if_neg (by omega)] at h1
   unfold alB at h1
   rw [if_neg (by omega), if_pos hk] at h1
   simp only [Bool.and_eq_true, decide_eq_true_eq] at h1
   exact valid_tx ((vl_st _).1 h1.2)
def pcR (n m : Int) (t : Vt) : Except Int Vt :=
 if t.k = 2 then (if 0 ≤ n ∧ n ≤ m ∧ m ≤ ((rns t.s).length : Int) then .ok (stT (tx (((rns t.s).drop n.toNat).take (m.toNat - n.toNat)))) else .error 4)
 else (if 0 ≤ n ∧ n ≤ m ∧ m ≤ (t.l.length : Int) then .ok ⟨4, 0, ⟨#[]⟩, (t.l.drop n.toNat).take (m.toNat - n.toNat)⟩ else .error 4)
theorem cv_mid {W : World} {g a c L : Nat} {q : List Nat} (hv : VL q) (hc : ∀ j, j < q.length → W.cell? ⟨g, j, none⟩ = some (.int .i32 ((q.getD j 0 : Nat) : Int))) (n k : Nat) (hk : n + k ≤ q.length) (ha : 0 < k → a = n) :
  (convert 144 9 (.slice (some ⟨g, a, none⟩) k c)).run Tryz.prog W = .ok (.string (tx ((q.drop n).take k))) W := by
 have e1 := run_convert_runes (P := Tryz.prog) W 144 9 21 ⟨g, a, none⟩ k c (((q.drop n).take k).map fun (r : Nat) => (r : Int)) (by simp; omega) Tryz.underlying144 Tryz.underlying21 Tryz.underlying9 (fun j hj => by
  simp at hj
  have h1 := hc (n + j) (by omega)
  rw [ha (by omega)]
  rw [Addr.add_mid, h1]
  congr 2
  rw [List.getD_eq_getElem?_getD, List.getD_eq_getElem?_getD, List.getElem?_map, List.getElem?_take, if_pos (by omega), List.getElem?_drop, List.getElem?_eq_getElem (show n + j < q.length by omega)]
  rfl)
 rw [e1, List.take_of_length_le (by simp; omega), rb_tx _ (vl_mid hv n k)]
theorem cv_runes {q : List Nat} (hv : VL q) (hq : (tx q).size ≤ 4096) : ∃ (C : World → Nat) (A : World → Array Value), (∀ W, (convert 9 144 (.string (tx q))).run Tryz.prog W = .ok (.slice (some ⟨W.heap.size, 0, none⟩) q.length (C W)) (W.drew.alloc (.cells (A W) 21))) ∧ (∀ W, q.length ≤ C W) ∧ (∀ (W : World) (j : Nat), j < q.length → (W.drew.alloc (.cells (A W) 21)).cell? ⟨W.heap.size, j, none⟩ = some (.int .i32 ((q.getD j 0 : Nat) : Int))) := by
 have e0 : Conv.runesFrom (tx q) (tx q).size 0 #[] = (q.map fun (r : Nat) => Value.int .i32 (r : Int)).toArray := by rw [rf_rns, rns_tx hv]
 have e1 : (Conv.runesFrom (tx q) (tx q).size 0 #[]).size = q.length := by rw [e0]; simp
 have hlen : q.length ≤ 4096 := by
  have := len_wl q
  rw [tx_size] at hq
  omega
 refine ⟨fun W => grownCap W q.length 0 21, fun W => (q.map fun (r : Nat) => Value.int .i32 (r : Int)).toArray ++ Array.replicate (grownCap W q.length 0 21 - q.length) (.int .i32 0), fun W => ?_, fun W => ?_, fun W j hj => ?_⟩
 ·have h := run_runes_of_string (P := Tryz.prog) W 9 144 21 (tx q) Tryz.underlying9 Tryz.underlying144 Tryz.underlying21 (by rw [e1]; omega)
  rw [e1, e0] at h
  exact h
 ·exact grownCap_ge W q.length 0 21
 ·have h : (W.drew.alloc (.cells ((q.map fun (r : Nat) => Value.int .i32 (r : Int)).toArray ++ Array.replicate (grownCap W q.length 0 21 - q.length) (.int .i32 0)) 21)).heap[W.heap.size]? = some (.cells ((q.map fun (r : Nat) => Value.int .i32 (r : Int)).toArray ++ Array.replicate (grownCap W q.length 0 21 - q.length) (.int .i32 0)) 21) := valloc_at _ _ _ (by simp)
  rw [blk_cells h j, Array.getElem?_append_left (by simpa using hj)]
  simp [hj, List.getD_eq_getElem?_getD]
def PsP (q : List Nat) (n m : Int) (w : World) (e : Ending) (w' : World) : Prop :=
 Oz w w' ∧ if 0 ≤ n ∧ n ≤ m ∧ m ≤ (q.length : Int) then e = .returned (.tuple #[.iface 59 (.agg #[.string (tx ((q.drop n.toNat).take (m.toNat - n.toNat)))]), .int .i64 0]) else ∃ s, e = .returned (.tuple #[.iface 59 (.agg #[.string s]), .int .i64 4])
theorem piece_str {q : List Nat} (hv : VL q) (hq : (tx q).size ≤ 4096) (n m : Int) (w : World) : Cz 56 #[.int .i64 n, .int .i64 m, .iface 59 (.agg #[.string (tx q)])] w fun e w' => PsP q n m w e w' := by
 obtain ⟨C, A, hc1, hc2, hc3⟩ := cv_runes hv hq
 have hi := uas_hit 59 41 _ Tryz.underlying59 (by intro m h; cases h)
 have HC : Hid (∀ (W : World), Cz 87 #[.slice (some ⟨W.heap.size, 0, none⟩) q.length (C W), .int .i64 n, .int .i64 m] (W.drew.alloc (.cells (A W) 21)) fun e w' => CrP q.length W.heap.size n m (W.drew.alloc (.cells (A W) 21)) e w') := fun W => cut_r (hc2 W) n m
 have HM : Hid (∀ (W : World) (a c : Nat), (n < m → a = n.toNat) → 0 ≤ n ∧ n ≤ m ∧ m ≤ (q.length : Int) → (convert 144 9 (.slice (some ⟨W.heap.size, a, none⟩) (m.toNat - n.toNat) c)).run Tryz.prog (W.drew.alloc (.cells (A W) 21)) = .ok (.string (tx ((q.drop n.toNat).take (m.toNat - n.toNat)))) (W.drew.alloc (.cells (A W) 21))) := fun W a c ha hb => cv_mid (L := 0) hv (hc3 W) n.toNat (m.toNat - n.toNat) (by omega) (fun h => ha (by omega))
 have HP : Hid (∀ w' s, Oz w w' → (0 ≤ n ∧ n ≤ m ∧ m ≤ (q.length : Int)) → s = tx ((q.drop n.toNat).take (m.toNat - n.toNat)) → PsP q n m w (.returned (.tuple #[.iface 59 (.agg #[.string s]), .int .i64 0])) w') := fun w' s o h e => ⟨o, by rw [if_pos h, e]⟩
 have HN : Hid (∀ w' s, Oz w w' → ¬ (0 ≤ n ∧ n ≤ m ∧ m ≤ (q.length : Int)) → PsP q n m w (.returned (.tuple #[.iface 59 (.agg #[.string s]), .int .i64 4])) w') := fun w' s o h => ⟨o, by rw [if_neg h]; exact ⟨s, rfl⟩⟩
 have hcn : ∀ W, (convert 144 9 (.slice none 0 0)).run Tryz.prog W = .ok (.string .empty) W := fun W => run_convert_runes_nil (P := Tryz.prog) W 144 9 21 0 0 Tryz.underlying144 Tryz.underlying21 Tryz.underlying9
 obtain ⟨s, hs⟩ : ∃ s, s = tx q := ⟨_, rfl⟩
 obtain ⟨L, hL⟩ : ∃ L, L = q.length := ⟨_, rfl⟩
 rw [← hs] at hc1 ⊢
 have O0 : Hid (Oz w w) := Only.refl _ _
 by_cases h : 0 ≤ n ∧ n ≤ m ∧ m ≤ (q.length : Int)
 ·obtain ⟨r, hr⟩ : ∃ r, r = tx ((q.drop n.toNat).take (m.toNat - n.toNat)) := ⟨_, rfl⟩
  obtain ⟨K, hK⟩ : ∃ K, K = m.toNat - n.toNat := ⟨_, rfl⟩
  have HP2 : Hid (∀ w', Oz w w' → PsP q n m w (.returned (.tuple #[.iface 59 (.agg #[.string r]), .int .i64 0])) w') := fun w' o => HP.out w' r o h hr
  have HC2 : Hid (∀ (W : World) (g : Nat), g = W.heap.size → Cz 87 #[.slice (some ⟨g, 0, none⟩) L (C W), .int .i64 n, .int .i64 m] (W.alloc (.cells (A W) 21)).drew fun e w' => w' = (W.alloc (.cells (A W) 21)).drew ∧ ∃ a' c', e = .returned (.tuple #[.slice (some ⟨g, a', none⟩) K c', .int .i64 0]) ∧ (convert 144 9 (.slice (some ⟨g, a', none⟩) K c')).run Tryz.prog (W.alloc (.cells (A W) 21)).drew = .ok (.string r) (W.alloc (.cells (A W) 21)).drew) := fun W g hg => by
   rw [hL, hK, show (W.alloc (.cells (A W) 21)).drew = W.drew.alloc (.cells (A W) 21) from rfl, hg]
   refine (HC.out W).mono fun e w' g => ?_
   obtain ⟨g1, g2⟩ := g
   rw [if_pos h] at g2
   obtain ⟨a', c', he, ha⟩ := g2
   exact ⟨g1, a', c', he, by rw [hr]; exact HM.out W a' c' ha h⟩
  rw [← hL] at hc1
  clear HC HM HP HN hc2 hc3 h hv hq hs hL hr hK hcn
  go_enter Tryz.func56, Tryz.ntmps56
  go_wp2_with fail
  refine (show Cz 87 _ _ _ from HC2.out (w.alloc (.cells #[.string s] 59)) _ (by simp)).mono ?_
  rintro e w1 ⟨rfl, a', c', rfl, hcv⟩
  go_wp2
  go_ret2
  exact HP2.out _ ((O0.out.alloc _).alloc _).drew
 ·have HN2 : Hid (∀ w' s, Oz w w' → PsP q n m w (.returned (.tuple #[.iface 59 (.agg #[.string s]), .int .i64 4])) w') := fun w' s o => HN.out w' s o h
  have HC2 : Hid (∀ (W : World) (g : Nat), g = W.heap.size → Cz 87 #[.slice (some ⟨g, 0, none⟩) L (C W), .int .i64 n, .int .i64 m] (W.alloc (.cells (A W) 21)).drew fun e w' => w' = (W.alloc (.cells (A W) 21)).drew ∧ e = .returned (.tuple #[.slice none 0 0, .int .i64 4])) := fun W g hg => by
   rw [hL, show (W.alloc (.cells (A W) 21)).drew = W.drew.alloc (.cells (A W) 21) from rfl, hg]
   refine (HC.out W).mono fun e w' g => ?_
   obtain ⟨g1, g2⟩ := g
   rw [if_neg h] at g2
   exact ⟨g1, g2⟩
  rw [← hL] at hc1
  clear HC HM HP HN hc2 hc3 h hv hq hs hL
  go_enter Tryz.func56, Tryz.ntmps56
  go_wp2_with fail
  refine (show Cz 87 _ _ _ from HC2.out (w.alloc (.cells #[.string s] 59)) _ (by simp)).mono ?_
  rintro e w1 ⟨rfl, rfl⟩
  go_wp2
  go_ret2
  exact HN2.out _ _ ((O0.out.alloc _).alloc _).drew
def PlP (d : Nat) (l : List Vt) (S : Nat → Prop) (n m : Int) (w : World) (e : Ending) (w' : World) : Prop :=
 Oz w w' ∧ if 0 ≤ n ∧ n ≤ m ∧ m ≤ (l.length : Int) then ∃ ao' c', e = .returned (.tuple #[.iface 63 (.agg #[.slice ao' (m.toNat - n.toNat) c']), .int .i64 0]) ∧ Hid (m.toNat - n.toNat ≤ c' ∧ PsAt w' S d false ((l.drop n.toNat).take (m.toNat - n.toNat)) ao') else e = .returned (.tuple #[.iface 63 (.agg #[.slice none 0 0]), .int .i64 4])
theorem piece_list {d : Nat} {l : List Vt} {ao : Option Addr} {c : Nat} {w : World} {S : Nat → Prop} (hl : PsAt w S d false l ao) (hc : l.length ≤ c) (hnil : ao = none → l = []) (hb : l.length ≤ 10000) (n m : Int) : Cz 56 #[.int .i64 n, .int .i64 m, .iface 63 (.agg #[.slice ao l.length c])] w fun e w' => PlP d l S n m w e w' := by
 have mStr := uas_miss 63 59 41 _ Tryz.underlying59 (by intro m h; cases h) (by decide) _ uzero_Str
 have hi := uas_hit 63 41 _ Tryz.underlying63 (by intro m h; cases h)
 have HC : Hid (∀ W, Oz w W → Cz 88 #[.slice ao l.length c, .int .i64 n, .int .i64 m] W fun e w' => CuP d l S n m W e w') := fun W o => cut_v (hl.only o (fun _ _ g => g)) hc hnil hb n m
 have O0 : Hid (Oz w w) := Only.refl _ _
 obtain ⟨L, hL⟩ : ∃ L, L = l.length := ⟨_, rfl⟩
 by_cases h : 0 ≤ n ∧ n ≤ m ∧ m ≤ (l.length : Int)
 ·obtain ⟨K, hK⟩ : ∃ K, K = m.toNat - n.toNat := ⟨_, rfl⟩
  have HC2 : Hid (∀ W, Oz w W → Cz 88 #[.slice ao L c, .int .i64 n, .int .i64 m] W fun e w' => w' = W ∧ ∃ ao' c', e = .returned (.tuple #[.slice ao' K c', .int .i64 0]) ∧ Hid (PlP d l S n m w (.returned (.tuple #[.iface 63 (.agg #[.slice ao' K c']), .int .i64 0])) W)) := fun W o => by
   rw [hL, hK]
   refine (HC.out W o).mono fun e w' g => ?_
   obtain ⟨g1, g2⟩ := g
   rw [if_pos h] at g2
   obtain ⟨ao', c', he, hx⟩ := g2
   exact ⟨g1, ao', c', he, ⟨o, by rw [if_pos h]; exact ⟨ao', c', rfl, hx⟩⟩⟩
  rw [← hL]
  clear HC hl hc hnil hb hL hK h
  go_enter Tryz.func56, Tryz.ntmps56
  go_wp2_with fail
  refine (show Cz 88 _ _ _ from HC2.out _ (O0.out.alloc _)).mono ?_
  rintro e w1 ⟨rfl, a', c', rfl, HP⟩
  go_wp2
  go_ret2
  exact HP.out
 ·have HP : Hid (∀ w', Oz w w' → PlP d l S n m w (.returned (.tuple #[.iface 63 (.agg #[.slice none 0 0]), .int .i64 4])) w') := fun w' o => ⟨o, by rw [if_neg h]⟩
  have HC2 : Hid (∀ W, Oz w W → Cz 88 #[.slice ao L c, .int .i64 n, .int .i64 m] W fun e w' => w' = W ∧ e = .returned (.tuple #[.slice none 0 0, .int .i64 4])) := fun W o => by
   rw [hL]
   refine (HC.out W o).mono fun e w' g => ?_
   obtain ⟨g1, g2⟩ := g
   rw [if_neg h] at g2
   exact ⟨g1, g2⟩
  rw [← hL]
  clear HC hl hc hnil hb hL h
  go_enter Tryz.func56, Tryz.ntmps56
  go_wp2_with fail
  refine (show Cz 88 _ _ _ from HC2.out _ (O0.out.alloc _)).mono ?_
  rintro e w1 ⟨rfl, rfl⟩
  go_wp2
  go_ret2
  exact HP.out _ (O0.out.alloc _)
theorem piece_any {D : Nat} {x : Vt} {u : Value} {w : World} {S : Nat → Prop} (hx : TiAt w S D false x u) (hS : ∀ b, S b → b < w.heap.size) (kx : x.k = 2 ∨ x.k = 4) (sq : x.k = 2 → ∃ q, VL q ∧ x.s = tx q) (sx : x.k = 2 → x.s.size ≤ 4096) (lx : x.l.length ≤ 10000) (mx : ∃ e, SmT e x) (n m : Int) : Cz 56 #[.int .i64 n, .int .i64 m, u] w fun e w' => MdP (pcR n m x) D w e w' := by
 unfold pcR
 cases D with
 | zero => exact hx.elim
 | succ D =>
 by_cases h2 : x.k = 2
 ·rw [if_pos h2]
  obtain ⟨q, hv, hs⟩ := sq h2
  have e1 := ti_2 hx h2
  subst e1
  have hz := sx h2
  rw [hs] at hz ⊢
  rw [rns_tx hv]
  refine (piece_str hv hz n m w).mono fun e w' g => ?_
  obtain ⟨o, g⟩ := g
  by_cases h : 0 ≤ n ∧ n ≤ m ∧ m ≤ (q.length : Int)
  ·rw [if_pos h] at g ⊢
   refine ⟨_, g, ⟨fun _ => False, st_ti w' _ D _, fun _ g => g.elim⟩, st_sm ?_, o⟩
   have := tx_mid q n.toNat (m.toNat - n.toNat)
   omega
  ·rw [if_neg h] at g ⊢
   obtain ⟨s, g⟩ := g
   exact ⟨_, g, .inr ⟨_, _, rfl⟩, rfl, o⟩
 ·rw [if_neg h2]
  have k4 : x.k = 4 := by omega
  rcases hx with ⟨e, _⟩ | ⟨e, _⟩ | ⟨e, _⟩ | ⟨e, _⟩ | ⟨e, _⟩ | ⟨_, a1, c1, rfl, q1, p1⟩
  ·omega
  ·omega
  ·omega
  ·omega
  ·omega
  rw [if_pos k4]
  rw [show decide (x.k = 5) = false by rw [k4]; rfl] at p1
  refine (piece_list (c := c1) p1 q1 (fun e => by cases hxl : x.l with | nil => rfl | cons t l => (obtain ⟨g, q, u, p, _⟩ := p1 0 t (by rw [hxl]; rfl); rw [e] at p; cases p)) lx n m).mono fun e w' g => ?_
  obtain ⟨o, g⟩ := g
  by_cases h : 0 ≤ n ∧ n ≤ m ∧ m ≤ (x.l.length : Int)
  ·rw [if_pos h] at g ⊢
   obtain ⟨ao', c', he, g⟩ := g
   obtain ⟨g1, g2⟩ := g.out
   have hln : ((x.l.drop n.toNat).take (m.toNat - n.toNat)).length = m.toNat - n.toNat := by simp; omega
   refine ⟨_, he, ⟨S, ?_, fun b hb => Nat.lt_of_lt_of_le (hS b hb) o.size⟩, jl_sm (.inl rfl) (fun t ht => sm_parts mx t (List.mem_of_mem_drop (List.mem_of_mem_take ht))) (by omega), o⟩
   refine .inr (.inr (.inr (.inr (.inr ⟨.inl rfl, ao', c', ?_, ?_, ?_⟩))))
   ·dsimp only
    rw [hln]
    rfl
   ·dsimp only
    rw [hln]
    exact g1
   ·exact g2
  ·rw [if_neg h] at g ⊢
   exact ⟨_, g, .inr ⟨_, _, rfl⟩, rfl, o⟩
theorem sl_mids (ao : Option Addr) (L c a b : Nat) (hab : a ≤ b) (hb : b ≤ L) (hc : L ≤ c) (hn : ao = none → L = 0) (hp : ∀ ad, ao = some ad → 0 < L → ∃ g q, ad = ⟨g, q, none⟩) : ∃ ao' c', (∀ w, (Instr.slice 56 (.slice ao L c) (some (.int .i64 (a : Int))) (some (.int .i64 (b : Int))) none).run Tryz.prog w = .ok (.slice ao' (b - a) c') w) ∧ b - a ≤ c' ∧ (∀ g q, ao = some ⟨g, q, none⟩ → a < b → ao' = some ⟨g, q + a, none⟩) := by
 have k0 : (0 : Int) ≤ (a : Int) := by omega
 have k1 : (a : Int) ≤ (b : Int) := by omega
 have k2 : (b : Int) ≤ (c : Int) := by omega
 have k3 : (0 : Int) ≤ (b : Int) := by omega
 have e1 : ((b : Int) - (a : Int)).toNat = b - a := by omega
 have e2 : ((c : Int) - (a : Int)).toNat = c - a := by omega
 cases ao with
 | none =>
   have h0 := hn rfl
   subst h0
   obtain rfl : b = 0 := by omega
   obtain rfl : a = 0 := by omega
   exact ⟨none, c, fun w => by go_simp, by omega, fun g q h => by cases h⟩
 | some ad =>
   by_cases hL0 : L = 0
   ·obtain rfl : b = 0 := by omega
    obtain rfl : a = 0 := by omega
    refine ⟨some ad, c, fun w => ?_, by omega, fun g q _ h => by omega⟩
    by_cases hz0 : c = 0
    ·subst hz0
     go_simp
    ·have k6 : ¬ (c : Int) = 0 := by omega
     go_simp
   obtain ⟨g, q, rfl⟩ := hp ad rfl (by omega)
   by_cases hz : c - a = 0
   ·have hca : c = a := by omega
    have hba : b = a := by omega
    subst hba
    refine ⟨some ⟨g, q, none⟩, 0, fun w => ?_, by omega, fun g q _ h => by omega⟩
    have k4 : ¬ ((c : Int) < (b : Int)) := by omega
    subst hca
    go_simp
   ·refine ⟨some ⟨g, q + a, none⟩, c - a, fun w => ?_, by omega, fun g' q' h _ => by cases h; rfl⟩
    have e4 : ¬ c = a := by omega
    go_simp
theorem uresults_ve {fn : Func} {u t : Tmp} (h : fn.results = #[.cell u 38, .tmp t]) (tmps : Array Value) (w : World) (B : Nat) {x y z r e : Value} (h0 : w.cell? ⟨B, 0, none⟩ = some x) (h1 : w.cell? ⟨B, 1, none⟩ = some y) (h2 : w.cell? ⟨B, 2, none⟩ = some z) (h3 : w.cell? ⟨B, 3, none⟩ = some r) (ha : tmps.getD u undef = .pointer (some ⟨B, 0, none⟩)) (he : tmps.getD t undef = e) :
  (results fn tmps).run Tryz.prog w = .ok (.tuple #[.agg #[x, y, z, r], e]) w := by
 have ha' : tmps[u]?.getD undef = .pointer (some ⟨B, 0, none⟩) := by simpa using ha
 have he' : tmps[t]?.getD undef = e := by simpa using he
 simp [results, h, ha', he', asAddr, go_sem, loadVar, isAgg, Tryz.underlying38, h0, h1, h2, h3]
theorem ch_mid {s : ByteArray} {q : List Nat} (hs : rns s = q) (a b : Nat) : catL (((chT s).drop a).take b) = tx ((q.drop a).take b) := by
 unfold chT
 rw [hs, ← List.map_drop, ← List.map_take, cat_tx]
theorem cat_le (q : List Nat) (j : Nat) : (catL ((q.map fun c => tx [c]).take j)).size ≤ (tx q).size := by
 rw [← List.map_take, cat_tx, tx_size, tx_size]
 have e : q = q.take j ++ q.drop j := (List.take_append_drop j q).symm
 have h : wl q = wl (q.take j ++ q.drop j) := by rw [← e]
 rw [wl_app] at h
 omega
theorem rslice_str {q : List Nat} (hv : VL q) (hq : (tx q).size ≤ 4096) (n m k0 : Int) (ao : Option Addr) (L c : Nat) (w : World) (hr : 0 ≤ n ∧ n ≤ m ∧ m ≤ (q.length : Int)) : Cz 69 #[.int .i64 n, .int .i64 m, .agg #[.int .i64 2, .int .i64 k0, .string (tx q), .slice ao L c]] w fun e w' => e = .returned (.tuple #[.agg #[.int .i64 2, .int .i64 0, .string (tx ((q.drop n.toNat).take (m.toNat - n.toNat))), .slice none 0 0], .int .i64 0]) ∧ Oz w w' := by
 have hrn : rns (tx q) = q := rns_tx hv
 have HL : Hid (∀ W, Cz 66 #[.agg #[.int .i64 2, .int .i64 k0, .string (tx q), .slice ao L c]] W fun e w' => e = .returned (.int .i64 (q.length : Int)) ∧ Oz W w') := fun W => by
  have := rlen_any 2 k0 (tx q) (by omega) ao L c W
  rw [if_pos rfl, hrn] at this
  exact this
 have hct : (chT (tx q)).length = q.length := by unfold chT; rw [hrn, List.length_map]
 obtain ⟨h0, h1, h2⟩ := hr
 obtain ⟨a, rfl⟩ : ∃ a : Nat, n = (a : Int) := ⟨n.toNat, by omega⟩
 obtain ⟨b, rfl⟩ : ∃ b : Nat, m = (b : Int) := ⟨m.toNat, by omega⟩
 simp only [Int.toNat_natCast]
 obtain ⟨X, hX⟩ : ∃ X, X = tx ((q.drop a).take (b - a)) := ⟨_, rfl⟩
 have HC : Hid (∀ W, Cz 68 #[.string (tx q)] W fun e w' => ∃ ao cap, e = .returned (.slice ao q.length cap) ∧ (∃ ao' c', (∀ w, (Instr.slice 56 (.slice ao q.length cap) (some (.int .i64 (a : Int))) (some (.int .i64 (b : Int))) none).run Tryz.prog w = .ok (.slice ao' (b - a) c') w) ∧ Hid (Cz 98 #[.slice ao' (b - a) c'] w' fun e w2 => e = .returned (.string X) ∧ w2 = w')) ∧ Hid (Oz W w')) := fun W => (characters_any (tx q) (by omega) W).mono fun e w' g => by
  obtain ⟨a1, c1, he, g⟩ := g
  rw [hct] at he g
  have hcl := g.out.1.cells
  have hcap : q.length ≤ c1 ∧ (a1 = none → q.length = 0) := by
   rcases g.out.1.2 with ⟨g1, g2⟩ | ⟨gg, cap', cur, fz, g1, g2, g3, g4, g5, g6⟩
   ·rw [hct] at g2
    exact ⟨by omega, fun _ => g2⟩
   ·simp only [Value.slice.injEq] at g1
    rw [hct] at g5
    exact ⟨by omega, fun e => by rw [g1.1] at e; cases e⟩
  obtain ⟨ao', c', hsl, hcc, hpt⟩ := sl_mids a1 q.length c1 a b (by omega) (by omega) hcap.1 hcap.2 (fun ad e h => by
   obtain ⟨gg, e1, _⟩ := hcl 0 ((chT (tx q))[0]'(by omega)) (List.getElem?_eq_getElem _)
   rw [e] at e1
   cases e1
   exact ⟨gg, 0, rfl⟩)
  refine ⟨a1, c1, he, ⟨ao', c', hsl, ?_⟩, only_of g.out.2⟩
  have hlen : (((chT (tx q)).drop a).take (b - a)).length = b - a := by rw [List.length_take, List.length_drop, hct]; omega
  have := joined_row (ls := ((chT (tx q)).drop a).take (b - a)) (ao := ao') (c := c') (w := w') (fun j s hs => by
   have hj := (List.getElem?_eq_some_iff.1 hs).1
   rw [hlen] at hj
   rw [List.getElem?_take, if_pos hj, List.getElem?_drop] at hs
   obtain ⟨gg, e1, _, e2⟩ := hcl _ s hs
   refine ⟨gg, 0 + a, hpt gg 0 e1 (by omega), ?_⟩
   rw [Nat.add_assoc]
   exact e2) (by rw [hlen]; have := len_wl q; rw [tx_size] at hq; omega) (fun j => by
   have e1 : ((chT (tx q)).drop a).take (b - a) = ((q.drop a).take (b - a)).map fun c => tx [c] := by
    unfold chT
    rw [hrn, ← List.map_drop, ← List.map_take]
   rw [e1]
   have := cat_le ((q.drop a).take (b - a)) j
   have := tx_mid q a (b - a)
   omega)
  rw [hlen, ch_mid hrn, ← hX] at this
  exact this
 obtain ⟨s, hs⟩ : ∃ s, s = tx q := ⟨_, rfl⟩
 obtain ⟨N, hN⟩ : ∃ N, N = q.length := ⟨_, rfl⟩
 rw [← hX]
 rw [← hs] at HL HC ⊢
 rw [← hN] at HL HC
 have i1 : ¬ (a : Int) < 0 := by omega
 have i2 : ¬ (b : Int) < (a : Int) := by omega
 have i3 : ¬ (N : Int) < (b : Int) := by omega
 have O0 : Hid (Oz w w) := Only.refl _ _
 clear hv hq hrn hct h0 h1 h2 hX hs hN
 go_enter Tryz.func69, Tryz.ntmps69
 go_wp2_with fail
 refine (show Cz 66 _ _ _ from HL.out _).mono ?_
 rintro e w1 ⟨rfl, o1⟩
 have RA : w1.heap[w.heap.size]? = some (.cells #[.int .i64 2, .int .i64 k0, .string s, .slice ao L c] 38) := (o1.block w.heap.size (by simp; omega) (fun h => h)).trans (((((Only.refl (fun _ => False) (w.alloc (.cells #[.int .i64 2, .int .i64 k0, .string s, .slice ao L c] 38)))).alloc _).block w.heap.size (by simp) (fun h => h)).trans (valloc_at _ _ _ rfl))
 have RB : w1.heap[w.heap.size + 1]? = some (.cells #[.int .i64 0, .int .i64 0, .string ⟨#[]⟩, .slice none 0 0] 38) := (o1.block (w.heap.size + 1) (by simp) (fun h => h)).trans (valloc_at _ _ _ (by simp))
 have O1 : Hid (Oz w w1) := ((O0.out.alloc _).alloc _).trans o1 (fun _ _ g => g)
 clear o1 HL O0
 obtain ⟨B, hBe⟩ : ∃ B, B = w.heap.size := ⟨_, rfl⟩
 have HE : Hid (B = w.heap.size) := hBe
 rw [← hBe] at RA RB ⊢
 clear hBe
 have HRB : Hid (w1.heap[B + 1]? = some (.cells #[.int .i64 0, .int .i64 0, .string ⟨#[]⟩, .slice none 0 0] 38)) := RB
 have a0 := vblk_cells RA 0
 have a2 := vblk_cells RA 2
 simp only [List.getElem?_toArray, List.getElem?_cons_zero, List.getElem?_cons_succ] at a0 a2
 clear RA RB
 go_wp2_with fail
 refine (show Cz 68 _ _ _ from HC.out _).mono ?_
 rintro e w2 ⟨a3, c3, rfl, ⟨a4, c4, hsl, HJ⟩, o2⟩
 have O2 : Hid (Oz w w2) := O1.out.trans o2.out (fun _ _ g => g)
 have RB2 : w2.heap[B + 1]? = some (.cells #[.int .i64 0, .int .i64 0, .string ⟨#[]⟩, .slice none 0 0] 38) := (o2.out.block (B + 1) (Array.getElem?_eq_some_iff.1 HRB.out).1 (fun h => h)).trans HRB.out
 have HR2 : Hid (w2.heap[B + 1]? = some (.cells #[.int .i64 0, .int .i64 0, .string ⟨#[]⟩, .slice none 0 0] 38)) := RB2
 clear o2 HC O1 HRB RB2
 go_wp2_with fail
 refine (show Cz 98 _ _ _ from HJ.out).mono ?_
 rintro e w3 ⟨rfl, hw3⟩
 obtain rfl := hw3.symm
 have b0 := vblk_cells HR2.out 0
 have b1 := vblk_cells HR2.out 1
 have b2 := vblk_cells HR2.out 2
 have b3 := vblk_cells HR2.out 3
 have z0 := blk_froz HR2.out 0
 have z1 := blk_froz HR2.out 1
 have z2 := blk_froz HR2.out 2
 have z3 := blk_froz HR2.out 3
 simp only [List.getElem?_toArray, List.getElem?_cons_zero, List.getElem?_cons_succ] at b0 b1 b2 b3
 clear HJ hsl
 go_wp2
 obtain ⟨p0, p1, p2, p3⟩ := set4 HR2.out rfl (.int .i64 2) (.int .i64 0) (.string X) (.slice none 0 0)
 have OB := @uonly4 w2 (B + 1) (.int .i64 2) (.int .i64 0) (.string X) (.slice none 0 0)
 have hBe : B = w.heap.size := HE.out
 refine bodyPost_ret (uresults_ve rfl _ _ (B + 1) p0 p1 p2 p3 rfl rfl) rfl ⟨rfl, O2.out.trans OB (fun b h e => by omega)⟩
theorem rslice_no (n m k k0 : Int) (s : ByteArray) (hs : s.size ≤ 268435456) (ao : Option Addr) (L c : Nat) (w : World) (hr : ¬ (0 ≤ n ∧ n ≤ m ∧ m ≤ ((if k = 2 then (rns s).length else L : Nat) : Int))) : Cz 69 #[.int .i64 n, .int .i64 m, .agg #[.int .i64 k, .int .i64 k0, .string s, .slice ao L c]] w fun e w' => e = .returned (.tuple #[.agg #[.int .i64 0, .int .i64 0, .string ⟨#[]⟩, .slice none 0 0], .int .i64 4]) ∧ Oz w w' := by
 have HL : Hid (∀ W, Cz 66 #[.agg #[.int .i64 k, .int .i64 k0, .string s, .slice ao L c]] W fun e w' => e = .returned (.int .i64 ((if k = 2 then (rns s).length else L : Nat) : Int)) ∧ Oz W w') := fun W => rlen_any k k0 s hs ao L c W
 obtain ⟨N, hN⟩ : ∃ N : Nat, N = if k = 2 then (rns s).length else L := ⟨_, rfl⟩
 rw [← hN] at HL hr
 have hh : n < 0 ∨ (¬ n < 0 ∧ n > m) ∨ (¬ n < 0 ∧ ¬ n > m ∧ m > (N : Int)) := by omega
 have O0 : Hid (Oz w w) := Only.refl _ _
 clear hN hr hs
 rcases hh with i1 | ⟨i1, i2⟩ | ⟨i1, i2, i3⟩
 ·go_enter Tryz.func69, Tryz.ntmps69
  go_wp2
  obtain ⟨W1, hW1⟩ : ∃ W1, W1 = (w.alloc (.cells #[.int .i64 k, .int .i64 k0, .string s, .slice ao L c] 38)).alloc (.cells #[.int .i64 0, .int .i64 0, .string ⟨#[]⟩, .slice none 0 0] 38) := ⟨_, rfl⟩
  have RB : W1.heap[w.heap.size + 1]? = some (.cells #[.int .i64 0, .int .i64 0, .string ⟨#[]⟩, .slice none 0 0] 38) := by rw [hW1]; exact valloc_at _ _ _ (by simp)
  have O1 : Oz w W1 := by rw [hW1]; exact (O0.out.alloc _).alloc _
  rw [← hW1]
  refine bodyPost_ret (uresults_ve rfl _ _ (w.heap.size + 1) (vblk_cells RB 0) (vblk_cells RB 1) (vblk_cells RB 2) (vblk_cells RB 3) rfl rfl) rfl ⟨rfl, O1⟩
 ·have i4 : m < n := by omega
  go_enter Tryz.func69, Tryz.ntmps69
  go_wp2
  obtain ⟨W1, hW1⟩ : ∃ W1, W1 = (w.alloc (.cells #[.int .i64 k, .int .i64 k0, .string s, .slice ao L c] 38)).alloc (.cells #[.int .i64 0, .int .i64 0, .string ⟨#[]⟩, .slice none 0 0] 38) := ⟨_, rfl⟩
  have RB : W1.heap[w.heap.size + 1]? = some (.cells #[.int .i64 0, .int .i64 0, .string ⟨#[]⟩, .slice none 0 0] 38) := by rw [hW1]; exact valloc_at _ _ _ (by simp)
  have O1 : Oz w W1 := by rw [hW1]; exact (O0.out.alloc _).alloc _
  rw [← hW1]
  refine bodyPost_ret (uresults_ve rfl _ _ (w.heap.size + 1) (vblk_cells RB 0) (vblk_cells RB 1) (vblk_cells RB 2) (vblk_cells RB 3) rfl rfl) rfl ⟨rfl, O1⟩
 ·have i4 : ¬ m < n := by omega
  have i5 : (N : Int) < m := by omega
  go_enter Tryz.func69, Tryz.ntmps69
  go_wp2_with fail
  refine (show Cz 66 _ _ _ from HL.out _).mono ?_
  rintro e w1 ⟨rfl, o1⟩
  have RB : w1.heap[w.heap.size + 1]? = some (.cells #[.int .i64 0, .int .i64 0, .string ⟨#[]⟩, .slice none 0 0] 38) := (o1.block (w.heap.size + 1) (by simp) (fun h => h)).trans (valloc_at _ _ _ (by simp))
  have O1 : Hid (Oz w w1) := ((O0.out.alloc _).alloc _).trans o1 (fun _ _ g => g)
  have HRB : Hid (w1.heap[w.heap.size + 1]? = some (.cells #[.int .i64 0, .int .i64 0, .string ⟨#[]⟩, .slice none 0 0] 38)) := RB
  have b0 := vblk_cells RB 0
  have b1 := vblk_cells RB 1
  have b2 := vblk_cells RB 2
  have b3 := vblk_cells RB 3
  have z0 := blk_froz RB 0
  have z1 := blk_froz RB 1
  have z2 := blk_froz RB 2
  have z3 := blk_froz RB 3
  simp only [List.getElem?_toArray, List.getElem?_cons_zero, List.getElem?_cons_succ] at b0 b1 b2 b3
  clear o1 HL O0 RB
  go_wp2
  obtain ⟨p0, p1, p2, p3⟩ := set4 HRB.out rfl (.int .i64 0) (.int .i64 0) (.string ⟨#[]⟩) (.slice none 0 0)
  have OB := @uonly4 w1 (w.heap.size + 1) (.int .i64 0) (.int .i64 0) (.string ⟨#[]⟩) (.slice none 0 0)
  refine bodyPost_ret (uresults_ve rfl _ _ (w.heap.size + 1) p0 p1 p2 p3 rfl rfl) rfl ⟨rfl, O1.out.trans OB (fun b h e => by omega)⟩
theorem sl_midv (ao : Option Addr) (L c a b : Nat) (hab : a ≤ b) (hb : b ≤ L) (hc : L ≤ c) (hn : ao = none → L = 0) (hp : ∀ ad, ao = some ad → 0 < L → ∃ g q, ad = ⟨g, q, none⟩) : ∃ ao' c', (∀ w, (Instr.slice 22 (.slice ao L c) (some (.int .i64 (a : Int))) (some (.int .i64 (b : Int))) none).run Tryz.prog w = .ok (.slice ao' (b - a) c') w) ∧ b - a ≤ c' ∧ (∀ g q, ao = some ⟨g, q, none⟩ → a < b → ao' = some ⟨g, q + a * 4, none⟩) := by
 have k0 : (0 : Int) ≤ (a : Int) := by omega
 have k1 : (a : Int) ≤ (b : Int) := by omega
 have k2 : (b : Int) ≤ (c : Int) := by omega
 have k3 : (0 : Int) ≤ (b : Int) := by omega
 have e1 : ((b : Int) - (a : Int)).toNat = b - a := by omega
 have e2 : ((c : Int) - (a : Int)).toNat = c - a := by omega
 cases ao with
 | none =>
   have h0 := hn rfl
   subst h0
   obtain rfl : b = 0 := by omega
   obtain rfl : a = 0 := by omega
   exact ⟨none, c, fun w => by go_simp, by omega, fun g q h => by cases h⟩
 | some ad =>
   by_cases hL0 : L = 0
   ·obtain rfl : b = 0 := by omega
    obtain rfl : a = 0 := by omega
    refine ⟨some ad, c, fun w => ?_, by omega, fun g q _ h => by omega⟩
    by_cases hz0 : c = 0
    ·subst hz0
     go_simp
    ·have k6 : ¬ (c : Int) = 0 := by omega
     go_simp
   obtain ⟨g, q, rfl⟩ := hp ad rfl (by omega)
   by_cases hz : c - a = 0
   ·have hca : c = a := by omega
    have hba : b = a := by omega
    subst hba
    refine ⟨some ⟨g, q, none⟩, 0, fun w => ?_, by omega, fun g q _ h => by omega⟩
    have k4 : ¬ ((c : Int) < (b : Int)) := by omega
    subst hca
    go_simp
   ·refine ⟨some ⟨g, q + a * 4, none⟩, c - a, fun w => ?_, by omega, fun g' q' h _ => by cases h; rfl⟩
    have e4 : ¬ c = a := by omega
    go_simp
theorem rslice_list {d : Nat} {x : Vt} {ao : Option Addr} {c : Nat} {w : World} {S : Nat → Prop} (hk : x.k = 4) (hl : VsAt w S (d + 1) x.l (.slice ao x.l.length c)) (hsm : ∃ e, SmT e x) (hb : x.l.length ≤ 10000) (n m : Int) (hr : 0 ≤ n ∧ n ≤ m ∧ m ≤ (x.l.length : Int)) (hs : x.s.size ≤ 268435456) : Cz 69 #[.int .i64 n, .int .i64 m, .agg #[.int .i64 4, .int .i64 x.n, .string x.s, .slice ao x.l.length c]] w fun e w' => ∃ a' c', e = .returned (.tuple #[.agg #[.int .i64 4, .int .i64 0, .string ⟨#[]⟩, .slice a' (m.toNat - n.toNat) c'], .int .i64 0]) ∧ Hid ((∃ S', VsAt w' S' (d + 1) ((x.l.drop n.toNat).take (m.toNat - n.toNat)) (.slice a' (m.toNat - n.toNat) c') ∧ ∀ b, S' b → w.heap.size ≤ b) ∧ Oz w w') := by
 have HL : Hid (∀ W, Cz 66 #[.agg #[.int .i64 4, .int .i64 x.n, .string x.s, .slice ao x.l.length c]] W fun e w' => e = .returned (.int .i64 (x.l.length : Int)) ∧ Oz W w') := fun W => by
  have := rlen_any 4 x.n x.s hs ao x.l.length c W
  rw [if_neg (by decide)] at this
  exact this
 obtain ⟨h0, h1, h2⟩ := hr
 obtain ⟨a, rfl⟩ : ∃ a : Nat, n = (a : Int) := ⟨n.toNat, by omega⟩
 obtain ⟨b, rfl⟩ : ∃ b : Nat, m = (b : Int) := ⟨m.toNat, by omega⟩
 simp only [Int.toNat_natCast]
 obtain ⟨ao0, c0, he0, hcap, hel⟩ := id hl
 cases he0
 obtain ⟨ao', c', hsl, hcc, hpt⟩ := sl_midv ao x.l.length c a b (by omega) (by omega) hcap (fun e => by
  cases hxl : x.l with
  | nil => rfl
  | cons t l =>
    obtain ⟨g, k, lx, e1, _⟩ := hel 0 t (by rw [hxl]; rfl)
    rw [e] at e1
    cases e1) (fun ad e h => by
  obtain ⟨g, k, lx, e1, _⟩ := hel 0 x.l[0] (List.getElem?_eq_getElem h)
  rw [e] at e1
  cases e1
  exact ⟨g, k, rfl⟩)
 obtain ⟨ys, hys⟩ : ∃ ys, ys = (x.l.drop a).take (b - a) := ⟨_, rfl⟩
 have hlen : ys.length = b - a := by rw [hys, List.length_take, List.length_drop]; omega
 have hvs : VsAt w S (d + 1) ys (.slice ao' (b - a) c') := by
  refine ⟨ao', c', by rw [hlen], by rw [hlen]; exact hcc, fun i y hy => ?_⟩
  have hi := (List.getElem?_eq_some_iff.1 hy).1
  rw [hys, List.getElem?_take, if_pos (by omega), List.getElem?_drop] at hy
  obtain ⟨g, k, lx, e1, e2, e3, e4⟩ := hel _ y hy
  refine ⟨g, k + a * 4, lx, hpt g k e1 (by omega), e2, ?_, e4⟩
  rw [show k + a * 4 + i * 4 = k + (a + i) * 4 by omega]
  exact e3
 have HC : Hid (∀ W, Oz w W → Cz 21 #[.slice ao' (b - a) c'] W fun e w' => ∃ a2 c2, e = .returned (.slice a2 (b - a) c2) ∧ Hid ((∃ S', VsAt w' S' (d + 1) ys (.slice a2 (b - a) c2) ∧ ∀ b, S' b → W.heap.size ≤ b) ∧ Oz W w')) := fun W o => by
  refine (rcopyall_all d _ ys W S (hvs.only o) (by rw [hlen]; omega) (fun y hy => sm_parts hsm y (List.mem_of_mem_drop (List.mem_of_mem_take (hys ▸ hy))))).mono fun e w' g => ?_
  obtain ⟨a2, c2, he, g⟩ := g
  rw [hlen] at he g
  obtain ⟨S', q1, q2⟩ := g.out.1.tree (t := ⟨4, 0, ⟨#[]⟩, ys⟩) rfl
  exact ⟨a2, c2, he, ⟨⟨S', q1, fun b hb => (q2 b hb).1⟩, g.out.2⟩⟩
 obtain ⟨N, hN⟩ : ∃ N, N = x.l.length := ⟨_, rfl⟩
 obtain ⟨xn, hxn⟩ : ∃ k, k = x.n := ⟨_, rfl⟩
 obtain ⟨xs, hxs⟩ : ∃ k, k = x.s := ⟨_, rfl⟩
 obtain ⟨K, hK⟩ : ∃ K, K = b - a := ⟨_, rfl⟩
 rw [← hN] at HL hsl
 rw [← hxn, ← hxs] at HL
 rw [← hK] at HC hsl
 rw [← hN, ← hxn, ← hxs, ← hys, ← hK]
 have i1 : ¬ (a : Int) < 0 := by omega
 have i2 : ¬ (b : Int) < (a : Int) := by omega
 have i3 : ¬ (N : Int) < (b : Int) := by omega
 have O0 : Hid (Oz w w) := Only.refl _ _
 clear hk hl hsm hb hs h0 h1 h2 hcap hel hcc hpt hys hlen hvs hN hxn hxs hK
 go_enter Tryz.func69, Tryz.ntmps69
 go_wp2_with fail
 refine (show Cz 66 _ _ _ from HL.out _).mono ?_
 rintro e w1 ⟨rfl, o1⟩
 have RA : w1.heap[w.heap.size]? = some (.cells #[.int .i64 4, .int .i64 xn, .string xs, .slice ao N c] 38) := (o1.block w.heap.size (by simp; omega) (fun h => h)).trans (((((Only.refl (fun _ => False) (w.alloc (.cells #[.int .i64 4, .int .i64 xn, .string xs, .slice ao N c] 38)))).alloc _).block w.heap.size (by simp) (fun h => h)).trans (valloc_at _ _ _ rfl))
 have RB : w1.heap[w.heap.size + 1]? = some (.cells #[.int .i64 0, .int .i64 0, .string ⟨#[]⟩, .slice none 0 0] 38) := (o1.block (w.heap.size + 1) (by simp) (fun h => h)).trans (valloc_at _ _ _ (by simp))
 have O1 : Hid (Oz w w1) := ((O0.out.alloc _).alloc _).trans o1 (fun _ _ g => g)
 clear o1 HL O0
 obtain ⟨B, hBe⟩ : ∃ B, B = w.heap.size := ⟨_, rfl⟩
 have HE : Hid (B = w.heap.size) := hBe
 rw [← hBe] at RA RB ⊢
 clear hBe
 have HRB : Hid (w1.heap[B + 1]? = some (.cells #[.int .i64 0, .int .i64 0, .string ⟨#[]⟩, .slice none 0 0] 38)) := RB
 have a0 := vblk_cells RA 0
 have a3 := vblk_cells RA 3
 simp only [List.getElem?_toArray, List.getElem?_cons_zero, List.getElem?_cons_succ] at a0 a3
 have q0 : w1.drew.cell? ⟨B, 0, none⟩ = some (.int .i64 4) := a0
 have q3 : w1.drew.cell? ⟨B, 3, none⟩ = some (.slice ao N c) := a3
 have R1 : Hid (Oz w1 w1) := Only.refl _ _
 clear RA RB
 have HBB : Hid (∀ W, Oz w1 W → W.heap[B + 1]? = some (.cells #[.int .i64 0, .int .i64 0, .string ⟨#[]⟩, .slice none 0 0] 38)) := fun W o => (o.block (B + 1) (Array.getElem?_eq_some_iff.1 HRB.out).1 (fun h => h)).trans HRB.out
 have HCE : Hid (∀ W, Oz w1 W → (W.cell? ⟨B, 0, none⟩ = some (.int .i64 4) ∧ W.cell? ⟨B, 3, none⟩ = some (.slice ao N c)) ∧ (W.cell? ⟨B + 1, 0, none⟩ = some (.int .i64 0) ∧ W.cell? ⟨B + 1, 1, none⟩ = some (.int .i64 0) ∧ W.cell? ⟨B + 1, 2, none⟩ = some (.string ⟨#[]⟩) ∧ W.cell? ⟨B + 1, 3, none⟩ = some (.slice none 0 0)) ∧ (W.frozen? ⟨B + 1, 0, none⟩ = false ∧ W.frozen? ⟨B + 1, 1, none⟩ = false ∧ W.frozen? ⟨B + 1, 2, none⟩ = false ∧ W.frozen? ⟨B + 1, 3, none⟩ = false)) := fun W o => by
  have r := HBB.out W o
  exact ⟨⟨o.cell a0 (fun g => g), o.cell a3 (fun g => g)⟩, ⟨vblk_cells r 0, vblk_cells r 1, vblk_cells r 2, vblk_cells r 3⟩, blk_froz r 0, blk_froz r 1, blk_froz r 2, blk_froz r 3⟩
 go_wp2
 go_region_with
  (go_at_call 21; refine (show Cz 21 _ _ _ from HC.out _ (by first | exact O1.out | exact O1.out.drew | exact O1.out.drew.drew)).mono ?_; rintro ex w4 ⟨a2, c2, rfl, G4⟩; have O4 : Hid (Oz w1 w4) := (by first | exact R1.out.drew.trans G4.out.2 (fun _ _ g => g) | exact R1.out.trans G4.out.2 (fun _ _ g => g)); obtain ⟨⟨e0, e3⟩, ⟨f0, f1, f2, f3⟩, y0, y1, y2, y3⟩ := HCE.out w4 O4.out)
 all_goals
  go_wp2
  obtain ⟨p0, p1, p2, p3⟩ := set4 (HBB.out w4 O4.out) rfl (.int .i64 4) (.int .i64 0) (.string ⟨#[]⟩) (.slice a2 K c2)
  have OB := @uonly4 w4 (B + 1) (.int .i64 4) (.int .i64 0) (.string ⟨#[]⟩) (.slice a2 K c2)
  have hBe : B = w.heap.size := HE.out
  have hB1 : B + 1 < w1.heap.size := (Array.getElem?_eq_some_iff.1 HRB.out).1
  have HF : (∃ S', VsAt ((((w4.setCell ⟨B + 1, 0, none⟩ (.int .i64 4)).setCell ⟨B + 1, 1, none⟩ (.int .i64 0)).setCell ⟨B + 1, 2, none⟩ (.string ⟨#[]⟩)).setCell ⟨B + 1, 3, none⟩ (.slice a2 K c2)) S' (d + 1) ys (.slice a2 K c2) ∧ ∀ b, S' b → w.heap.size ≤ b) ∧ Oz w ((((w4.setCell ⟨B + 1, 0, none⟩ (.int .i64 4)).setCell ⟨B + 1, 1, none⟩ (.int .i64 0)).setCell ⟨B + 1, 2, none⟩ (.string ⟨#[]⟩)).setCell ⟨B + 1, 3, none⟩ (.slice a2 K c2)) := by
   obtain ⟨S', q1, q2⟩ := G4.out.1
   have hsz := O1.out.size
   refine ⟨⟨S', q1.step (fun _ g => g) (fun ad u hs hc => OB.cell hc (fun e => ?_)) (Nat.le_refl _), fun b hb => by have h3 := q2 b hb; simp at h3; omega⟩, (O1.out.trans O4.out (fun _ _ g => g)).trans OB (fun b h e => by omega)⟩
   have h3 := q2 _ hs
   simp at h3
   omega
  first
   | exact bodyPost_ret (uresults_ve rfl _ _ (B + 1) p0 p1 p2 p3 rfl rfl) rfl ⟨a2, c2, rfl, HF⟩
   | exact bodyPost_ret (uresults_ve rfl _ _ (B + 1) p0 p1 p2 p3 rfl rfl) rfl ⟨a2, c2, rfl, ⟨HF.1.imp fun S' h => ⟨h.1.step (fun _ g => g) (fun _ _ _ g => g) (Nat.le_refl _), h.2⟩, HF.2.drew⟩⟩
theorem rset_blk {w : World} {b : Nat} {c : Array Value} {t : TypeId} (h : w.heap[b]? = some (.cells c t)) (j : Nat) (v : Value) : (w.setCell ⟨b, j, none⟩ v).heap[b]? = some (.cells (c.setIfInBounds j v) t) := by
 simp only [World.setCell, Array.getElem?_modify, h]
 simp
theorem rtx_app (p q : List Nat) : tx p ++ tx q = tx (p ++ q) := by
 apply ByteArray.ext
 simp [tx, enL_app, ByteArray.data_append]
def RvB (w2 wr : World) (B : Nat) (k : Int) (X : ByteArray) : Prop := wr.heap[B + 1 + 1]? = some (.cells #[.int .i64 k, .int .i64 0, .string X, .slice none 0 0] 38) ∧ Only (fun b => b = B + 1 + 1) w2 wr
theorem RvB.set {w2 wr : World} {B : Nat} {k : Int} {X Y : ByteArray} (h : RvB w2 wr B k X) : RvB w2 (wr.setCell ⟨B + 1 + 1, 2, none⟩ (.string Y)).drew B k Y := by
 refine ⟨?_, (h.2.setCell _ _ (fun _ => rfl)).drew⟩
 have h2 := rset_blk h.1 2 (.string Y)
 show (wr.setCell ⟨B + 1 + 1, 2, none⟩ (.string Y)).heap[B + 1 + 1]? = _
 rw [h2]
 rfl
theorem rrev_str {q : List Nat} (hv : VL q) (hq : (tx q).size ≤ 4096) (k k0 : Int) (ao : Option Addr) (c : Nat) (w : World) : Cz 70 #[.agg #[.int .i64 k, .int .i64 k0, .string (tx q), .slice ao 0 c]] w fun e w' => e = .returned (.agg #[.int .i64 k, .int .i64 0, .string (tx q.reverse), .slice none 0 0]) ∧ Oz w w' := by
 have hrn : rns (tx q) = q := rns_tx hv
 have hct : (chT (tx q)).length = q.length := by unfold chT; rw [hrn, List.length_map]
 have hlen : q.length ≤ 4096 := by have := len_wl q; rw [tx_size] at hq; omega
 have HC : Hid (∀ W, Cz 68 #[.string (tx q)] W fun e w' => ∃ ao cap, e = .returned (.slice ao q.length cap) ∧ Hid ((∀ (j : Nat), j < q.length → ∃ g, ao = some ⟨g, 0, none⟩ ∧ W.heap.size ≤ g ∧ w'.cell? ⟨g, j, none⟩ = some (.string (tx [q.getD j 0]))) ∧ Oz W w')) := fun W => (characters_any (tx q) (by omega) W).mono fun e w' g => by
  obtain ⟨a1, c1, he, g⟩ := g
  rw [hct] at he g
  refine ⟨a1, c1, he, fun j hj => ?_, only_of g.out.2⟩
  obtain ⟨gg, e1, e2, e3⟩ := g.out.1.cells j (tx [q.getD j 0]) (by unfold chT; rw [hrn, List.getElem?_map, List.getD_eq_getElem?_getD, List.getElem?_eq_getElem hj]; rfl)
  rw [Nat.zero_add] at e3
  exact ⟨gg, e1, e2, e3⟩
 have HX : Hid (∀ j, j < q.length → tx (q.drop (j + 1)).reverse ++ tx [q.getD j 0] = tx (q.drop j).reverse ∧ (tx (q.drop (j + 1)).reverse).size + (tx [q.getD j 0]).size ≤ 4096) := fun j hj => by
  have e : q.drop j = q.getD j 0 :: q.drop (j + 1) := by rw [List.drop_eq_getElem_cons hj, List.getD_eq_getElem?_getD, List.getElem?_eq_getElem hj]; rfl
  have e2 : tx (q.drop (j + 1)).reverse ++ tx [q.getD j 0] = tx (q.drop j).reverse := by rw [rtx_app, e, List.reverse_cons]
  refine ⟨e2, ?_⟩
  have h1 : (tx (q.drop j).reverse).size ≤ 4096 := by
   rw [tx_rev]
   have := tx_mid q j q.length
   rw [List.take_of_length_le (by rw [List.length_drop]; omega)] at this
   omega
  rw [← e2, ByteArray.size_append] at h1
  exact h1
 obtain ⟨s, hs⟩ : ∃ s, s = tx q := ⟨_, rfl⟩
 obtain ⟨N, hN⟩ : ∃ N, N = q.length := ⟨_, rfl⟩
 have HN : Hid (N = q.length ∧ N ≤ 4096) := ⟨hN, by omega⟩
 rw [← hs] at HC ⊢
 rw [← hN] at HC
 have O0 : Hid (Oz w w) := Only.refl _ _
 clear hv hq hrn hct hlen hs hN
 go_enter Tryz.func70, Tryz.ntmps70
 go_wp2_with fail
 refine (show Cz 68 _ _ _ from HC.out _).mono ?_
 rintro e w2 ⟨a2, c2, rfl, G2⟩
 have RB : w2.heap[w.heap.size + 1 + 1]? = some (.cells #[.int .i64 k, .int .i64 0, .string ⟨#[]⟩, .slice none 0 0] 38) := (G2.out.2.block (w.heap.size + 1 + 1) (by simp) (fun h => h)).trans (valloc_at _ _ _ (by simp))
 have RR : w2.heap[w.heap.size + 1]? = some (.cells #[.int .i64 0, .int .i64 0, .string ⟨#[]⟩, .slice none 0 0] 38) := (G2.out.2.block (w.heap.size + 1) (by simp) (fun h => h)).trans (((Only.refl (fun _ => False) ((w.alloc (.cells #[.int .i64 k, .int .i64 k0, .string s, .slice ao 0 c] 38)).alloc (.cells #[.int .i64 0, .int .i64 0, .string ⟨#[]⟩, .slice none 0 0] 38))).alloc _ |>.block (w.heap.size + 1) (by simp) (fun h => h)).trans (valloc_at _ _ _ (by simp)))
 have RA : w2.heap[w.heap.size]? = some (.cells #[.int .i64 k, .int .i64 k0, .string s, .slice ao 0 c] 38) := (G2.out.2.block w.heap.size (by simp; omega) (fun h => h)).trans ((((Only.refl (fun _ => False) (w.alloc (.cells #[.int .i64 k, .int .i64 k0, .string s, .slice ao 0 c] 38))).alloc _).alloc _ |>.block w.heap.size (by simp) (fun h => h)).trans (valloc_at _ _ _ rfl))
 have O2 : Hid (Oz w w2) := (((O0.out.alloc _).alloc _).alloc _).trans G2.out.2 (fun _ _ g => g)
 have HG : Hid (∀ (j : Nat), j < q.length → ∃ g, a2 = some ⟨g, 0, none⟩ ∧ w.heap.size + 3 ≤ g ∧ w2.cell? ⟨g, j, none⟩ = some (.string (tx [q.getD j 0]))) := fun j hj => by
  obtain ⟨g, e1, e2, e3⟩ := G2.out.1 j (by rw [HN.out.1]; exact hj)
  refine ⟨g, e1, ?_, e3⟩
  simpa using e2
 clear G2 HC O0
 obtain ⟨B, hBe⟩ : ∃ B, B = w.heap.size := ⟨_, rfl⟩
 have HE : Hid (B = w.heap.size) := hBe
 rw [← hBe] at RA RB RR HG ⊢
 clear hBe
 have HR0 : Hid (RvB w2 w2 B k (tx (q.drop N).reverse) ∧ w2.heap[B]? = some (.cells #[.int .i64 k, .int .i64 k0, .string s, .slice ao 0 c] 38) ∧ w2.heap[B + 1]? = some (.cells #[.int .i64 0, .int .i64 0, .string ⟨#[]⟩, .slice none 0 0] 38)) := ⟨⟨by rw [HN.out.1, List.drop_length]; exact RB, Only.refl _ _⟩, RA, RR⟩
 clear RA RB RR
 have i0 : IntKind.i64.wrap ((N : Int) - 1) = (N : Int) - 1 := by rw [IntKind.wrap_i64]; have := HN.out; omega
 go_wp2
 go_loopw [5] (fun r wr => ∃ j : Nat, r = .int .i64 ((j : Int) - 1) ∧ j ≤ N ∧ Hid (RvB w2 wr B k (tx (q.drop j).reverse))) (fun r _ => (RowKit.intOf r + 1).toNat)
 case atStart => exact ⟨N, rfl, by omega, HR0.out.1⟩
 case round =>
  obtain ⟨j, rfl, hj, HI⟩ := hrel
  obtain ⟨w5, hw5⟩ : ∃ w5, w5 = wr := ⟨_, rfl⟩
  rw [← hw5] at HI ⊢
  clear hw5
  by_cases hj0 : j = 0
  ·subst hj0
   have i1 : ¬ (0 : Int) ≤ ((0 : Nat) : Int) - 1 := by omega
   have i2 : ¬ (((0 : Nat) : Int) - 1 ≥ 0) := by omega
   have HX5 : Hid (w5.heap[B + 1 + 1]? = some (.cells #[.int .i64 k, .int .i64 0, .string (tx q.reverse), .slice none 0 0] 38) ∧ Oz w w5 ∧ w5.heap[B]? = some (.cells #[.int .i64 k, .int .i64 k0, .string s, .slice ao 0 c] 38) ∧ w5.heap[B + 1]? = some (.cells #[.int .i64 0, .int .i64 0, .string ⟨#[]⟩, .slice none 0 0] 38)) := by
    obtain ⟨h1, h2⟩ := HI.out
    rw [List.drop_zero] at h1
    obtain ⟨_, h3, h4⟩ := HR0.out
    have hBe := HE.out
    exact ⟨h1, O2.out.trans h2 (fun b hb e => by omega), (h2.block B (Array.getElem?_eq_some_iff.1 h3).1 (fun e => by omega)).trans h3, (h2.block (B + 1) (Array.getElem?_eq_some_iff.1 h4).1 (fun e => by omega)).trans h4⟩
   obtain ⟨X, hX⟩ : ∃ X, X = tx q.reverse := ⟨_, rfl⟩
   rw [← hX] at HX5
   have HXq : Hid (X = tx q.reverse) := hX
   have x0 := vblk_cells HX5.out.1 0
   have x1 := vblk_cells HX5.out.1 1
   have x2 := vblk_cells HX5.out.1 2
   have x3 := vblk_cells HX5.out.1 3
   have a3 := vblk_cells HX5.out.2.2.1 3
   have b0 := vblk_cells HX5.out.2.2.2 0
   have b1 := vblk_cells HX5.out.2.2.2 1
   have b2 := vblk_cells HX5.out.2.2.2 2
   have b3 := vblk_cells HX5.out.2.2.2 3
   have z0 := blk_froz HX5.out.2.2.2 0
   have z1 := blk_froz HX5.out.2.2.2 1
   have z2 := blk_froz HX5.out.2.2.2 2
   have z3 := blk_froz HX5.out.2.2.2 3
   simp only [List.getElem?_toArray, List.getElem?_cons_zero, List.getElem?_cons_succ] at x0 x1 x2 x3 a3 b0 b1 b2 b3
   clear HI HR0 HG HX hX
   go_wp2
   go_loopw [6] (fun r wr => r = .int .i64 (-1) ∧ wr = w5) (fun _ _ => 0)
   case atStart => exact ⟨rfl, rfl⟩
   case round =>
    obtain ⟨rfl, rfl⟩ := hrel
    go_wp2
    obtain ⟨p0, p1, p2, p3⟩ := set4 HX5.out.2.2.2 rfl (.int .i64 k) (.int .i64 0) (.string X) (.slice none 0 0)
    have OB := @uonly4 wr (B + 1) (.int .i64 k) (.int .i64 0) (.string X) (.slice none 0 0)
    have hBe : B = w.heap.size := HE.out
    refine bodyPost_ret (uresults_v rfl _ _ (B + 1) p0 p1 p2 p3 rfl) rfl ⟨by rw [← HXq.out], HX5.out.2.1.trans OB (fun b h e => by omega)⟩
  ·obtain ⟨i, rfl⟩ : ∃ i, j = i + 1 := ⟨j - 1, by omega⟩
   obtain ⟨g, rfl, hg, hcell⟩ := HG.out i (by rw [← HN.out.1]; omega)
   obtain ⟨hx1, hx2⟩ := HX.out i (by rw [← HN.out.1]; omega)
   have hc5 : w5.cell? ⟨g, i, none⟩ = some (.string (tx [q.getD i 0])) := HI.out.2.cell hcell (fun e => by have e' : g = B + 1 + 1 := e; omega)
   obtain ⟨X, hX⟩ : ∃ X, X = tx (q.drop (i + 1)).reverse := ⟨_, rfl⟩
   obtain ⟨Y, hY⟩ : ∃ Y, Y = tx [q.getD i 0] := ⟨_, rfl⟩
   rw [← hX, ← hY] at hx1 hx2
   rw [← hX] at HI
   rw [← hY] at hc5
   have HI2 : Hid (RvB w2 (w5.setCell ⟨B + 1 + 1, 2, none⟩ (.string (X ++ Y))).drew B k (tx (q.drop i).reverse)) := by
    have := HI.out.set (Y := X ++ Y)
    rw [hx1] at this ⊢
    exact this
   have x2 := vblk_cells HI.out.1 2
   have z2 := blk_froz HI.out.1 2
   simp only [List.getElem?_toArray, List.getElem?_cons_zero, List.getElem?_cons_succ] at x2
   have y2 : w5.drew.cell? ⟨B + 1 + 1, 2, none⟩ = some (.string X) := x2
   have y5 : w5.drew.cell? ⟨g, i, none⟩ = some (.string Y) := hc5
   have yz : w5.drew.frozen? ⟨B + 1 + 1, 2, none⟩ = false := z2
   have i1 : ((i + 1 : Nat) : Int) - 1 = (i : Int) := by omega
   have i2 : (0 : Int) ≤ (i : Int) := by omega
   have i3 : (i : Int) < (N : Int) := by omega
   have i4 : IntKind.i64.wrap ((i : Int) - 1) = (i : Int) - 1 := by rw [IntKind.wrap_i64]; have := HN.out; omega
   rw [i1]
   clear HI hcell hx1 hX hY HR0 HG HX
   go_wp2
   go_region
   go_wp2
   go_roundw
   case rel => exact ⟨i, rfl, by omega, HI2⟩
   case measure => simp only [RowKit.intOf]; omega
theorem md_two : ∀ nm ∈ ([[43], [45], [42], [47], [109, 111, 100], [109, 105, 110], [109, 97, 120]] : List (List UInt8)), ∀ K : Int → Int → Int × Int, (∀ n m, cfit n = true → cfit m = true → -9223372036854775808 ≤ (K n m).1 ∧ (K n m).1 ≤ 9223372036854775807) → RkC ⟨nm.toArray⟩ K → MdC ⟨nm.toArray⟩ [1, 1] (fun _ l => nmR K (l.getD 0 zT).n (l.getD 1 zT).n) := by
 intro nm hx K hb hrk d l G q w S hl hS hlen hsm hsd hf hT
 obtain ⟨x, y, rfl, hk, hk2⟩ := fit2 hlen hf
 obtain ⟨g, k, u, ha, hg, hc, ht⟩ := hl 0 x rfl
 cases ha
 obtain ⟨g2, k2, u2, ha2, hg2, hc2, ht2⟩ := hl 1 y rfl
 cases ha2
 have hu := ti_1 ht (fb_1 hk)
 subst hu
 have hu2 := ti_1 ht2 (fb_1 hk2)
 subst hu2
 have hsd' : sdB d x = true ∧ sdB d y = true := by simpa using hsd
 have f1 := sd_fit hsd'.1 (fb_1 hk)
 have f2 := sd_fit hsd'.2 (fb_1 hk2)
 show Cz 33 #[_, .slice (some ⟨G, q, none⟩) 2 2] w fun e w' => MdP (nmR K x.n y.n) (d + 2) w e w'
 obtain ⟨n, hn⟩ : ∃ n, n = x.n := ⟨_, rfl⟩
 obtain ⟨m, hm⟩ : ∃ m, m = y.n := ⟨_, rfl⟩
 have HC : Hid (∀ W, Oz w W → W.cell? ⟨G, q, none⟩ = some (.iface 35 (.agg #[.int .i64 n])) ∧ W.cell? ⟨G, q + 1, none⟩ = some (.iface 35 (.agg #[.int .i64 m]))) := fun W o => ⟨o.cell (by rw [hn]; exact hc) (fun g => g), o.cell (by rw [hm]; exact hc2) (fun g => g)⟩
 rw [← hn] at f1
 rw [← hm] at f2
 rw [← hn, ← hm]
 have HN1 : Hid (∀ W, Cz 51 #[.iface 35 (.agg #[.int .i64 n])] W fun e w' => e = .returned (.int .i64 n) ∧ w' = W) := g_number n
 have HN2 : Hid (∀ W, Cz 51 #[.iface 35 (.agg #[.int .i64 m])] W fun e w' => e = .returned (.int .i64 m) ∧ w' = W) := g_number m
 have HR : Hid (∀ W, Cz 50 #[.string ⟨nm.toArray⟩, .int .i64 n, .int .i64 m] W fun e w' => e = .returned (.tuple #[.int .i64 (K n m).1, .int .i64 (K n m).2]) ∧ w' = W) := fun W => hrk n m W f1 f2
 have hbb := hb n m f1 f2
 obtain ⟨r1, hr1⟩ : ∃ r, r = (K n m).1 := ⟨_, rfl⟩
 obtain ⟨r2, hr2⟩ : ∃ r, r = (K n m).2 := ⟨_, rfl⟩
 unfold nmR
 rw [← hr1, ← hr2] at HR ⊢
 rw [← hr1] at hbb
 have HP : Hid (∀ w', Oz w w' → MdP (if r2 = 0 then .ok (inT r1) else .error r2) (d + 2) w (.returned (.tuple #[.iface 35 (.agg #[.int .i64 r1]), .int .i64 r2])) w') := fun w' o => by
  by_cases h0 : r2 = 0
  ·rw [if_pos h0, h0]
   exact ⟨_, rfl, ⟨fun _ => False, in_ti w' _ (d + 1) r1, fun _ g => g.elim⟩, in_sm hbb, o⟩
  ·rw [if_neg h0]
   exact ⟨_, rfl, .inr ⟨_, _, rfl⟩, by simpa using h0, o⟩
 have O0 : Hid (Oz w w) := Only.refl _ _
 obtain ⟨c0, c1⟩ := HC.out w (Only.refl _ _)
 obtain ⟨Y, hY⟩ : ∃ Y : Except Int Vt, Y = if r2 = 0 then .ok (inT r1) else .error r2 := ⟨_, rfl⟩
 rw [← hY] at HP ⊢
 clear hrk hl hS hlen hsm hsd hf hT hk hg hc ht hk2 hg2 hc2 ht2 hsd' f1 f2 hb hbb hr1 hr2 hn hm hY
 have e21 : IntKind.i64.wrap ((2 : Int) - 1) = 1 := by decide
 have e22 : (0 : Int) ≤ 1 := by omega
 have e23 : (1 : Int) < 2 := by omega
 have e26 : IntKind.i64.wrap (1 : Int) = 1 := by decide
 have e27 : IntKind.i64.wrap (-1 + 2 : Int) = 1 := by decide
 have e28 : IntKind.i64.wrap (2 + -1 : Int) = 1 := by decide
 have e29 : IntKind.i64.wrap (0 : Int) = 0 := by decide
 simp only [List.mem_cons, List.not_mem_nil, or_false] at hx
 rcases hx with rfl|rfl|rfl|rfl|rfl|rfl|rfl
 all_goals
  go_enter Tryz.func33, Tryz.ntmps33
  go_wp2
  go_region_held3 (fun W => W.cell? ⟨G, q, none⟩ = some (.iface 35 (.agg #[.int .i64 n])) ∧ W.cell? ⟨G, q + 1, none⟩ = some (.iface 35 (.agg #[.int .i64 m])))
   (first | with_reducible exact HC.out _ O0.out | with_reducible exact HC.out _ O0.out.drew | with_reducible exact HC.out _ O0.out.drew.drew)
   (first
    | (go_at_call 50; refine (show Cz 50 _ _ _ from HR.out _).mono ?_; rintro ex w4 ⟨rfl, rfl⟩)
    | (go_at_call 51; refine (show Cz 51 _ _ _ from HN1.out _).mono ?_; rintro ex w4 ⟨rfl, rfl⟩)
    | (go_at_call 51; refine (show Cz 51 _ _ _ from HN2.out _).mono ?_; rintro ex w4 ⟨rfl, rfl⟩))
  all_goals
   go_wp2
   go_ret2
   refine HP.out _ ?_
   repeat (first | exact O0.out | refine Only.drew ?_)
theorem md_add : MdC ⟨#[43]⟩ [1, 1] (fun _ l => nmR (arK 43) (l.getD 0 zT).n (l.getD 1 zT).n) := md_two _ (by decide) _ (fun n m _ _ => ar_b 43 n m) rk_add
theorem md_sub : MdC ⟨#[45]⟩ [1, 1] (fun _ l => nmR (arK 45) (l.getD 0 zT).n (l.getD 1 zT).n) := md_two _ (by decide) _ (fun n m _ _ => ar_b 45 n m) rk_sub
theorem md_mul : MdC ⟨#[42]⟩ [1, 1] (fun _ l => nmR (arK 42) (l.getD 0 zT).n (l.getD 1 zT).n) := md_two _ (by decide) _ (fun n m _ _ => ar_b 42 n m) rk_mul
theorem md_div : MdC ⟨#[47]⟩ [1, 1] (fun _ l => nmR (arK 47) (l.getD 0 zT).n (l.getD 1 zT).n) := md_two _ (by decide) _ (fun n m _ _ => ar_b 47 n m) rk_div
theorem md_mod : MdC ⟨#[109, 111, 100]⟩ [1, 1] (fun _ l => nmR (arK 37) (l.getD 0 zT).n (l.getD 1 zT).n) := md_two _ (by decide) _ (fun n m _ _ => ar_b 37 n m) rk_mod
theorem md_min : MdC ⟨#[109, 105, 110]⟩ [1, 1] (fun _ l => nmR (miK) (l.getD 0 zT).n (l.getD 1 zT).n) := md_two _ (by decide) _ (fun n m h g => mi_b n m h g) rk_min
theorem md_max : MdC ⟨#[109, 97, 120]⟩ [1, 1] (fun _ l => nmR (maK) (l.getD 0 zT).n (l.getD 1 zT).n) := md_two _ (by decide) _ (fun n m h g => ma_b n m h g) rk_max
end Go.Proofs.YtenjollhlgjjdaaGreatDoor
