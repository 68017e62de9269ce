/-       -/
import Derived.Test.YtlcglapcmdpkfaaGreatGab
import Derived.Test.YtlcglapcmdpkfaaGreatGad
namespace Go.Proofs.YtlcglapcmdpkfaaGreat
open Go.RowKit
set_option linter.unusedSimpArgs false
set_option linter.unusedVariables false
set_option maxRecDepth 100000
set_option maxHeartbeats 16000000
theorem pack_large (id : Int) (a : Option Addr) (n c : Nat) (w : World) (h : 116 < n) :
  Calls Tryz.prog 108 #[.int .u32 id, .slice a n c] w fun e w' => e = .returned (.tuple #[.slice none 0 0, .int .i64 11]) ∧ w' = w := by
 have h1 : (116 : Int) < (n : Int) := by omega
 go_enter Tryz.func108, Tryz.ntmps108
 go_wp2
 go_ret2
 exact ⟨rfl, rfl⟩
theorem pack_ok (id : Nat) (v : Value) (D : List Nat) (w : World) (h : BytesAt w v D) (hD : D.length ≤ 116) (hid : id < 4294967296) :
  Calls Tryz.prog 108 #[.int .u32 id, v] w fun e w' => e = .returned (.tuple #[.slice (some ⟨w.heap.size, 0, none⟩) 128 128, .int .i64 0]) ∧ Blk w' w.heap.size (page id D) ∧ Only (fun _ => False) w w' := by
 have hmk : (Instr.makeSlice 37 (.int .i64 128) (.int .i64 128)).run Tryz.prog w = .ok (.slice (some ⟨w.heap.size, 0, none⟩) 128 128) (w.alloc (.cells (BL (List.replicate 128 0)).toArray 5)) := make_blk 128 (by omega) w
 have hbz := blk_zeros 128 (by omega) w
 obtain ⟨M, hM⟩ : ∃ M, M = BL (List.replicate 128 0) := ⟨_, rfl⟩
 have HM : Hid (M = BL (List.replicate 128 0)) := hM
 rw [← hM] at hmk hbz
 have HBZ : Hid (Blk (w.alloc (.cells M.toArray 5)) w.heap.size (List.replicate 128 0)) := hbz
 obtain ⟨a, c, rfl, hcap, hc⟩ := h.form
 have HBY : Hid (BytesAt w (.slice a D.length c) D) := h
 have HC : Hid _ := hc
 obtain ⟨n, hn⟩ : ∃ m, m = D.length := ⟨_, rfl⟩
 have HN : Hid (n = D.length) := hn
 have n1 : ¬ (116 : Int) < (n : Int) := by omega
 have hw32 : IntKind.u32.wrap (n : Int) = (n : Int) := by rw [IntKind.wrap_u32]; omega
 have n2 : n ≤ 116 := by omega
 have HML : Hid (M.length = 128) := (by rw [hM, BL_length]; simp : _ = _)
 rw [← hn] at HBY
 rw [← hn]
 obtain ⟨Y, hY⟩ : ∃ Y, Y = BL D := ⟨_, rfl⟩
 have HY : Hid (Y = BL D) := hY
 have HYL : Hid (Y.length = n) := (by rw [hY, BL_length, hn] : _ = _)
 have HOA : Hid (Only (fun _ => False) w (w.alloc (.cells M.toArray 5))) := (Only.refl _ w).alloc _
 have HSRC : Hid (0 < Y.length → ∃ ad, a = some ad ∧ ∀ j u, Y[j]? = some u → (w.alloc (.cells M.toArray 5)).cell? (ad.add j) = some u) := fun hp => by
  have hp2 : 0 < D.length := by have := HYL.out; omega
  obtain ⟨g, o, rfl, _⟩ := HC.out 0 hp2
  refine ⟨_, rfl, fun j u hu => ?_⟩
  rw [hY] at hu
  have hj : j < D.length := by have := (List.getElem?_eq_some_iff.1 hu).1; rwa [BL_length] at this
  obtain ⟨g', o', e', hcell⟩ := HC.out j hj
  simp only [Option.some.injEq, Addr.mk.injEq, and_true] at e'
  obtain ⟨rfl, rfl⟩ := e'
  rw [Addr.add_mid, HOA.out.cell hcell (fun e => e)]
  rw [BL_get _ _ hj] at hu
  rw [← hu]
  simp [List.getD, hj]
 have hsz : (w.alloc (.cells M.toArray 5)).heap.size = w.heap.size + 1 := by simp
 clear h hc hn hcap hM hbz hY hD
 go_enter Tryz.func108, Tryz.ntmps108
 go_wp2_with ((refine wpList_copy_splice rfl _ _ 37 37 rfl 5 Tryz.underlying37 size5 _ _ _ _ _ _ rfl rfl w.heap.size 12 M 5 (heap_alloc_new w _) Y (by have := HYL.out; show Y.length = min n 116; omega) (fun hp => ⟨rfl, HSRC.out hp⟩) (by have := HML.out; have := HYL.out; omega) (by rw [HY.out]; exact BL_one _) w.heap.size (w.alloc (.cells M.toArray 5)) (Below.refl _ _) (Nat.le_refl _) ?_); intro w1 HG1 hB1)
 have HB1 : Hid (Blk w1 w.heap.size (splice (List.replicate 128 0) 12 D)) := Blk.spliced HBZ.out HBY.out.2.2 (by have := HN.out; simp; omega) (by have := HG1.out; rwa [HM.out, HY.out] at this)
 have HO1 : Hid (Only (fun _ => False) w w1) := HOA.out.trans (Below.only hB1) (fun i hi e => by omega)
 clear HG1 hB1 HSRC hmk
 have hz1 : (splice (List.replicate 128 0) 12 D).length = 128 := by rw [length_splice _ _ _ (by have := HN.out; simp; omega)]; simp
 obtain ⟨Z1, hZ1⟩ : ∃ Z, Z = splice (List.replicate 128 0) 12 D := ⟨_, rfl⟩
 rw [← hZ1] at HB1 hz1
 have HZ1 : Hid (Z1 = splice (List.replicate 128 0) 12 D) := hZ1
 clear hZ1
 go_wp2_with fail
 refine (laynum_any w.heap.size 128 128 4 id Z1 w1 HB1.out (by omega) (by omega) (by omega) hid).mono ?_
 rintro e w2 ⟨rfl, hb2, ho2⟩
 have HB2 : Hid (Blk w2 w.heap.size (splice Z1 4 (lay4 id))) := hb2
 have HO2 : Hid (Only (fun _ => False) w w2) := HO1.out.trans ho2 (fun i hi e => by omega)
 clear hb2 ho2 HB1 HO1
 have hz2 : (splice Z1 4 (lay4 id)).length = 128 := by rw [length_splice _ _ _ (by rw [lay4_length]; omega)]; exact hz1
 obtain ⟨Z2, hZ2⟩ : ∃ Z, Z = splice Z1 4 (lay4 id) := ⟨_, rfl⟩
 rw [← hZ2] at HB2 hz2
 have HZ2 : Hid (Z2 = splice Z1 4 (lay4 id)) := hZ2
 clear hZ2
 go_wp2_with fail
 refine (laynum_any w.heap.size 128 128 8 n Z2 w2 HB2.out (by omega) (by omega) (by omega) (by omega)).mono ?_
 rintro e w3 ⟨rfl, hb3, ho3⟩
 have HO3 : Hid (Only (fun _ => False) w w3) := HO2.out.trans ho3 (fun i hi e => by omega)
 have hz3 : splice Z2 8 (lay4 n) = [0, 0, 0, 0] ++ rest id D := by
  rw [HZ2.out, HZ1.out, HN.out]
  exact lays id D (by have := HN.out; omega)
 rw [hz3] at hb3
 have hl3 : ([0, 0, 0, 0] ++ rest id D).length = 128 := by rw [List.length_append, rest_length id D (by have := HN.out; omega)]; rfl
 have HE : Hid (∀ x, x = sumN (([0, 0, 0, 0] ++ rest id D).drop 4) → splice ([0, 0, 0, 0] ++ rest id D) 0 (lay4 x) = page id D) := fun x hx => by rw [hx]; exact lays_end id D
 obtain ⟨Z3, hZ3⟩ : ∃ Z, Z = [0, 0, 0, 0] ++ rest id D := ⟨_, rfl⟩
 rw [← hZ3] at hb3 hl3 HE
 have HB3 : Hid (Blk w3 w.heap.size Z3) := hb3
 have hs : sumN (Z3.drop 4) < 4294967296 := sumN_lt _ (fun z h => hb3.2.2 z (List.mem_of_mem_drop h))
 have hbs : BytesAt w3 (.slice (some ⟨w.heap.size, 4, none⟩) 124 124) (Z3.drop 4) := by
  have := hb3.bytes 4 124 124 (by omega) (Nat.le_refl _)
  rwa [List.take_of_length_le (by rw [List.length_drop]; omega)] at this
 obtain ⟨x, hx⟩ : ∃ x, x = sumN (Z3.drop 4) := ⟨_, rfl⟩
 have HS : Hid (Calls Tryz.prog 126 #[.slice (some ⟨w.heap.size, 4, none⟩) 124 124] w3 fun e w' => e = .returned (.int .u32 (x : Nat)) ∧ w' = w3) := by rw [hx]; exact sum_any _ _ _ hbs
 rw [← hx] at hs
 have HX : Hid (splice Z3 0 (lay4 x) = page id D) := HE.out x hx
 clear hb3 ho3 HB2 HO2 hz3 hZ3 hbs hx HE
 go_wp2_with fail
 refine (show Calls Tryz.prog 126 _ _ _ from HS.out).mono ?_
 rintro e w4 ⟨rfl, rfl⟩
 clear HS
 go_wp2_with fail
 refine (laynum_any w.heap.size 128 128 0 x Z3 w4 HB3.out (by omega) (by omega) (by omega) hs).mono ?_
 rintro e w5 ⟨rfl, hb5, ho5⟩
 rw [HX.out] at hb5
 have HB5 : Hid (Blk w5 w.heap.size (page id D)) := hb5
 have HO5 : Hid (Only (fun _ => False) w w5) := HO3.out.trans ho5 (fun i hi e => by omega)
 clear hb5 ho5
 go_wp2
 go_ret2
 exact ⟨rfl, HB5.out, HO5.out⟩
def Byt (f : Nat → Int) : Prop := ∀ j, 0 ≤ f j ∧ f j < 256
structure ByteD (d : DS) : Prop where
 sec : ∀ i, Byt (d.sec i)
 bef : ∀ x ∈ d.pend, Byt x.bef
 aft : ∀ x ∈ d.pend, Byt x.aft
theorem byt_upd {s : Nat → Nat → Int} (h : ∀ i, Byt (s i)) (k : Nat) (f : Nat → Int) (hf : Byt f) : ∀ i, Byt (upd s k f i) := by
 intro i
 unfold upd
 split
 ·exact hf
 ·exact h i
theorem ByteD.new (n : Nat) : ByteD ⟨n, fun _ _ => 0, [], -1⟩ := ⟨fun _ _ => ⟨by simp, by simp⟩, by simp, by simp⟩
theorem ByteD.life {d : DS} (h : ByteD d) (l : Int) : ByteD { d with life := l } := ⟨h.sec, h.bef, h.aft⟩
theorem ByteD.barrier {d : DS} (h : ByteD d) (l : Int) : ByteD { d with pend := [], life := l } := ⟨h.sec, by simp, by simp⟩
theorem ByteD.put {d : DS} (h : ByteD d) (k : Nat) (f : Nat → Int) (l : Int) (hf : Byt f) : ByteD { d with sec := upd d.sec k f, pend := d.pend ++ [⟨k, d.sec k, f⟩], life := l } := by
 refine ⟨byt_upd h.sec k f hf, fun x hx => ?_, fun x hx => ?_⟩
 ·rcases List.mem_append.1 hx with hx | hx
  ·exact h.bef x hx
  ·simp at hx; subst hx; exact h.sec k
 ·rcases List.mem_append.1 hx with hx | hx
  ·exact h.aft x hx
  ·simp at hx; subst hx; exact hf
theorem ByteD.write {d : DS} (h : ByteD d) (k : Int) (f : Nat → Int) (m : Nat) (hf : Byt f) : ByteD (d.write k f m).2 := by
 simp only [DS.write]
 split
 ·exact h
 ·split
  ·exact h
  ·split
   ·exact h
   ·exact h.put _ f _ hf
theorem byt_mix (n : Nat) {f g : Nat → Int} (hf : Byt f) (hg : Byt g) : Byt (mix n f g) := by
 intro j
 unfold mix
 split
 ·exact hf j
 ·exact hg j
theorem byt_fold : ∀ (l : List Wr) (s : Nat → Nat → Int), (∀ i, Byt (s i)) → (∀ x ∈ l, Byt x.bef) → ∀ i, Byt (l.foldl (fun s x => upd s x.at_ x.bef) s i)
 | [], _, h, _ => h
 | x :: r, s, h, hb => byt_fold r _ (byt_upd h _ _ (hb x List.mem_cons_self)) (fun y hy => hb y (List.mem_cons_of_mem _ hy))
theorem byt_undo (ws : List Wr) (s : Nat → Nat → Int) (h : ∀ i, Byt (s i)) (hb : ∀ x ∈ ws, Byt x.bef) : ∀ i, Byt (undoW ws s i) :=
 byt_fold ws.reverse s h (fun x hx => hb x (List.mem_reverse.1 hx))
theorem byt_crash (kp : Nat → Bool) (torn : Int) (cut : Nat) (ws : List Wr) (s : Nat → Nat → Int) (h : ∀ i, Byt (s i)) (ha : ∀ x ∈ ws, Byt x.aft) : ∀ m i, Byt (crashTo kp torn cut ws s m i)
 | 0, i => h i
 | m + 1, i => by
   have ih := byt_crash kp torn cut ws s h ha m
   cases hk : kp m with
   | false => rw [crashTo_no _ _ _ _ _ _ hk]; exact ih i
   | true =>
     cases hx : ws[m]? with
     | none => simp only [crashTo, hx]; exact ih i
     | some x =>
       rw [crashTo_yes _ _ _ _ _ _ x hx hk]
       exact byt_upd ih _ _ (byt_mix _ (ha x (List.mem_of_getElem? hx)) (ih _)) i
theorem ByteD.crash {d : DS} (h : ByteD d) (kp : Nat → Bool) (torn : Int) (cut : Nat) (m : Nat) : ByteD ⟨d.n, crashTo kp torn cut d.pend (undoW d.pend d.sec) m, [], -1⟩ :=
 ⟨byt_crash kp torn cut _ _ (byt_undo _ _ h.sec h.bef) h.aft m, by simp, by simp⟩
def secN (f : Nat → Int) : List Nat := (List.range 32).map fun j => (f j).toNat
theorem secN_length (f : Nat → Int) : (secN f).length = 32 := by simp [secN]
theorem secN_lt {f : Nat → Int} (h : Byt f) : ∀ z ∈ secN f, z < 256 := by
 intro z hz
 simp only [secN, List.mem_map] at hz
 obtain ⟨j, _, rfl⟩ := hz
 have := h j
 omega
theorem secN_getD (f : Nat → Int) (j : Nat) (hj : j < 32) : (secN f).getD j 0 = (f j).toNat := by simp [secN, List.getD, hj]
def pgN (d : DS) (P : Nat) : Nat → List Nat
 | 0 => []
 | k + 1 => pgN d P k ++ secN (d.sec (4 * P + k))
theorem pgN_length (d : DS) (P : Nat) : ∀ k, (pgN d P k).length = 32 * k
 | 0 => rfl
 | k + 1 => by simp only [pgN, List.length_append, pgN_length d P k, secN_length]; omega
def secF (Z : List Nat) (k : Nat) : Nat → Int := fun j => (((Z.drop (32 * k)).take 32).getD j 0 : Nat)
theorem secF_byt {Z : List Nat} (h : ∀ z ∈ Z, z < 256) (k : Nat) : Byt (secF Z k) := by
 intro j
 have := getD_byte (zs := (Z.drop (32 * k)).take 32) (fun z hz => h z (List.mem_of_mem_drop (List.mem_of_mem_take hz))) j
 unfold secF
 omega
def DS.wr4 (d : DS) (P : Nat) (Z : List Nat) : Nat → Int × DS
 | 0 => (0, d)
 | k + 1 => if (d.wr4 P Z k).1 = 0 then (d.wr4 P Z k).2.write ((4 * P + k : Nat) : Int) (secF Z k) 32 else d.wr4 P Z k
def DS.wpage (d : DS) (P : Int) (id : Nat) (D : List Nat) : Int × DS :=
 if P < 0 ∨ ((d.n / 4 : Nat) : Int) ≤ P then (4, d) else if 116 < D.length then (11, d) else d.wr4 P.toNat (page id D) 4
theorem wr4_facts (d : DS) (P : Nat) (Z : List Nat) (hz : ∀ z ∈ Z, z < 256) (hb : ByteD d) (hg : Good d) : ∀ k, ByteD (d.wr4 P Z k).2 ∧ Good (d.wr4 P Z k).2 ∧ (d.wr4 P Z k).2.n = d.n ∧ (d.wr4 P Z k).2.pend.length ≤ d.pend.length + k
 | 0 => ⟨hb, hg, rfl, Nat.le_refl _⟩
 | k + 1 => by
   obtain ⟨h1, h2, h3, h4⟩ := wr4_facts d P Z hz hb hg k
   simp only [DS.wr4]
   split
   ·refine ⟨h1.write _ _ _ (secF_byt hz k), h2.write _ _ _, (write_n _ _ _ _).trans h3, ?_⟩
    have := write_len2 (d.wr4 P Z k).2 ((4 * P + k : Nat) : Int) (secF Z k) 32
    omega
   ·exact ⟨h1, h2, h3, by omega⟩
theorem wpage_facts {d : DS} (P : Int) (id : Nat) (D : List Nat) (hz : ∀ z ∈ D, z < 256) (hb : ByteD d) (hg : Good d) : ByteD (d.wpage P id D).2 ∧ Good (d.wpage P id D).2 ∧ (d.wpage P id D).2.n = d.n ∧ (d.wpage P id D).2.pend.length ≤ d.pend.length + 4 := by
 simp only [DS.wpage]
 split
 ·exact ⟨hb, hg, rfl, Nat.le_add_right _ _⟩
 ·split
  ·exact ⟨hb, hg, rfl, Nat.le_add_right _ _⟩
  ·exact wr4_facts d P.toNat (page id D) (page_lt id D hz) hb hg 4
theorem count_any (p S n c : Nat) (w : World) (hn : n ≤ 8192) (h0 : w.cell? ⟨p, 0, none⟩ = some (.slice (some ⟨S, 0, none⟩) n c)) :
  Calls Tryz.prog 28 #[.pointer (some ⟨p, 0, none⟩)] w fun e w' => e = .returned (.int .i64 ((n / 4 : Nat) : Int)) ∧ w' = w := by
 have HL := len_any p S n c w h0
 clear h0
 go_enter Tryz.func28, Tryz.ntmps28
 go_wp2_with fail
 refine HL.mono ?_
 rintro e w1 ⟨rfl, rfl⟩
 go_wp2
 go_ret
 exact ⟨by simp, rfl⟩
theorem rcount_any (r n : Nat) (w : World) (hn : n ≤ 8192) (h0 : w.cell? ⟨r, 0, none⟩ = some (.int .i64 n)) :
  Calls Tryz.prog 71 #[.pointer (some ⟨r, 0, none⟩)] w fun e w' => e = .returned (.int .i64 ((n / 4 : Nat) : Int)) ∧ w' = w := by
 go_enter Tryz.func71, Tryz.ntmps71
 go_wp2
 go_ret
 exact ⟨by simp, rfl⟩
theorem preach_out (p S n c : Nat) (P : Int) (w : World) (hn : n ≤ 8192) (h0 : w.cell? ⟨p, 0, none⟩ = some (.slice (some ⟨S, 0, none⟩) n c)) (hP : P < 0 ∨ ((n / 4 : Nat) : Int) ≤ P) :
  Calls Tryz.prog 107 #[.pointer (some ⟨p, 0, none⟩), .int .i64 P] w fun e w' => e = .returned (.int .i64 4) ∧ w' = w := by
 by_cases h : P < 0
 ·clear h0
  go_enter Tryz.func107, Tryz.ntmps107
  go_wp2
  go_ret
  exact ⟨rfl, rfl⟩
 ·have h2 : ((n / 4 : Nat) : Int) ≤ P := by omega
  have HC := count_any p S n c w hn h0
  obtain ⟨q, hq⟩ : ∃ q, q = n / 4 := ⟨_, rfl⟩
  rw [← hq] at h2 HC
  clear h0 hP hq
  go_enter Tryz.func107, Tryz.ntmps107
  go_wp2_with fail
  refine HC.mono ?_
  rintro e w1 ⟨rfl, rfl⟩
  go_wp2
  go_ret
  exact ⟨rfl, rfl⟩
theorem preach_in (p S n c : Nat) (P : Nat) (w : World) (hn : n ≤ 8192) (h0 : w.cell? ⟨p, 0, none⟩ = some (.slice (some ⟨S, 0, none⟩) n c)) (hP : P < n / 4) :
  Calls Tryz.prog 107 #[.pointer (some ⟨p, 0, none⟩), .int .i64 P] w fun e w' => e = .returned (.int .i64 0) ∧ w' = w := by
 have h : ¬ (P : Int) < 0 := by omega
 have h2 : ¬ ((n / 4 : Nat) : Int) ≤ (P : Int) := by omega
 have HC := count_any p S n c w hn h0
 obtain ⟨q, hq⟩ : ∃ q, q = n / 4 := ⟨_, rfl⟩
 rw [← hq] at h2 HC
 clear h0 hP hq
 go_enter Tryz.func107, Tryz.ntmps107
 go_wp2_with fail
 refine HC.mono ?_
 rintro e w1 ⟨rfl, rfl⟩
 go_wp2
 go_ret
 exact ⟨rfl, rfl⟩
def WrIs (w : World) (B p S : Nat) (pv : Value) (r : Int × DS) (e : Ending) (w' : World) : Prop :=
 e = .returned (.int .i64 r.1) ∧ ∃ pv', DiskAt w' B p S pv' r.2 ∧ Only (diskB p S pv) w w' ∧ (∀ b, pv'.ownBlock = some b → pv.ownBlock = some b ∨ w.heap.size ≤ b)
theorem row_of_bytes {w : World} {v : Value} {zs : List Nat} (h : BytesAt w v zs) (f : Nat → Int) (hf : ∀ j, j < zs.length → f j = (zs.getD j 0 : Nat)) : RowAt w v zs.length 1 (fun j => .int .u8 (f j)) := by
 rcases h.1 with ⟨rfl, h0⟩ | ⟨ad, c, rfl, hkc, hc⟩
 ·exact .inl ⟨rfl, h0⟩
 ·refine .inr ⟨ad, c, rfl, hkc, fun j hj => ?_⟩
  rw [hc j hj]
  show some _ = some (Value.int IntKind.u8 (f j))
  rw [hf j (by omega)]
theorem pwrite_in (p S B id : Nat) (P : Nat) (pv v : Value) (d : DS) (D : List Nat) (w : World) (h : DiskAt w B p S pv d) (hB : B ≤ w.heap.size) (hv : BytesAt w v D) (hid : id < 4294967296) (hD : D.length ≤ 116) (hP : P < d.n / 4) (hp : d.pend.length ≤ 100000000000) (hb : ByteD d) (hg : Good d) :
  Calls Tryz.prog 82 #[.pointer (some ⟨p, 0, none⟩), .int .i64 P, .int .u32 id, v] w fun e w' => WrIs w B p S pv (d.wr4 P (page id D) 4) e w' := by
 obtain ⟨c0, hc0⟩ := h.c0
 have HR := preach_in p S d.n c0 P w h.n2 hc0 hP
 have HPK := pack_ok id v D w hv hD hid
 have hpl := page_length id D hD
 have hfacts := wr4_facts d P (page id D) (page_lt id D hv.2.2) hb hg
 have HFA : Hid _ := hfacts
 have n2 := h.n2
 have hlt := h.lt
 obtain ⟨Z, hZ⟩ : ∃ Z, Z = page id D := ⟨_, rfl⟩
 have HLT : Hid _ := hlt
 rw [← hZ] at HPK hpl HFA
 rw [← hZ]
 have HD : Hid (DiskAt w B p S pv d) := h
 have HPL : Hid (Z.length = 128) := hpl
 have hP2 : P < 2048 := by omega
 have HPN : Hid (P < d.n / 4) := hP
 have HPE : Hid (d.pend.length ≤ 100000000000) := hp
 clear h hc0 hv hfacts hZ hb hg hlt hP hp
 go_enter Tryz.func82, Tryz.ntmps82
 go_wp2_with fail
 refine HR.mono ?_
 rintro e w1 ⟨rfl, rfl⟩
 clear HR
 go_wp2_with fail
 refine HPK.mono ?_
 rintro e w2 ⟨rfl, hbk, ho2⟩
 clear HPK
 obtain ⟨g, hgg⟩ : ∃ g, g = w1.heap.size := ⟨_, rfl⟩
 have HGG : Hid (g = w1.heap.size) := hgg
 rw [← hgg] at hbk
 rw [← hgg]
 have HBK : Hid (Blk w2 g Z) := hbk
 have HO2 : Hid (Only (fun _ => False) w1 w2) := ho2
 have HD2 : Hid (DiskAt w2 B p S pv d) := HD.out.frame ho2 (fun _ _ e => e)
 clear hbk ho2 hgg
 go_wp2_with fail
 go_loopw [29] (fun t wr => ∃ k : Nat, k ≤ 4 ∧ t = .int .i64 k ∧ (d.wr4 P Z k).1 = 0 ∧ (∃ pv', DiskAt wr B p S pv' (d.wr4 P Z k).2 ∧ (∀ b, pv'.ownBlock = some b → pv.ownBlock = some b ∨ g < b)) ∧ Blk wr g Z ∧ Only (diskB p S pv) w1 wr) (fun t _ => 4 - (intOf t).toNat)
 case atStart => exact ⟨0, by omega, rfl, rfl, ⟨pv, HD2.out, fun b hb => .inl hb⟩, HBK.out, HO2.out.mono (fun _ _ e => e.elim)⟩
 case round =>
  obtain ⟨k, hk, rfl, h0, ⟨pv', hd, hown⟩, hbl, ho⟩ := hrel
  obtain ⟨w3, rfl⟩ : ∃ w3, w3 = wr := ⟨_, rfl⟩
  have HO3 : Hid (Only (diskB p S pv) w1 w3) := ho
  by_cases hlt : k < 4
  ·have k1 : (k : Int) < 4 := by omega
   have m1 : IntKind.i64.wrap ((P : Int) * 4) = (P : Int) * 4 := by rw [IntKind.wrap_i64]; omega
   have m2 : IntKind.i64.wrap ((P : Int) * 4 + (k : Int)) = (P : Int) * 4 + (k : Int) := by rw [IntKind.wrap_i64]; omega
   have m3 : IntKind.i64.wrap ((k : Int) * 32) = (k : Int) * 32 := by rw [IntKind.wrap_i64]; omega
   obtain ⟨o, ho'⟩ : ∃ o, o = k * 32 := ⟨_, rfl⟩
   have m4 : (k : Int) * 32 = (o : Int) := by omega
   rw [m4] at m3
   have HPC := piece_pos g 0 128 128 o 32 w3 (by omega) (by omega) (by omega)
   rw [Nat.zero_add] at HPC
   obtain ⟨q, hq⟩ : ∃ q, q = 4 * P + k := ⟨_, rfl⟩
   have m5 : (P : Int) * 4 + (k : Int) = (q : Int) := by omega
   rw [m5] at m2
   have hbs := hbl.bytes o 32 32 (by have := HPL.out; omega) (by omega)
   have e32 : ((Z.drop o).take 32).length = 32 := by rw [List.length_take, List.length_drop, HPL.out]; omega
   have hrow := row_of_bytes hbs (secF Z k) (fun j hj => by rw [show o = 32 * k by omega]; rfl)
   rw [e32] at hrow
   obtain ⟨f1, f2, f3, f4⟩ := HFA.out k
   have HW : Hid (Calls Tryz.prog 40 #[.pointer (some ⟨p, 0, none⟩), .int .i64 q, .slice (some ⟨g, o, none⟩) 32 32] w3 fun e w' => WrIs w3 B p S pv' ((d.wr4 P Z k).2.write q (secF Z k) 32) e w') :=
    write_all p S 32 32 B _ pv' (d.wr4 P Z k).2 q (secF Z k) w3 hd hrow (by have := ho.size; omega) (by have := HPE.out; omega) (by omega)
   have HNE : Hid (d.wr4 P Z (k + 1) = (d.wr4 P Z k).2.write q (secF Z k) 32) := by
    show _ = _
    simp only [DS.wr4]
    rw [if_pos h0, hq]
   have hdl := hd.lt
   have HEND : Hid (∀ e w', WrIs w3 B p S pv' ((d.wr4 P Z k).2.write q (secF Z k) 32) e w' → (∃ pv2, DiskAt w' B p S pv2 (d.wr4 P Z (k + 1)).2 ∧ (∀ b, pv2.ownBlock = some b → pv.ownBlock = some b ∨ g < b)) ∧ Blk w' g Z ∧ Only (diskB p S pv) w1 w') := by
    rintro e w' ⟨he, pv2, d2, o2, hb2⟩
    have hgn : ¬ diskB p S pv' g := by
     rintro (e | e | e)
     ·have := (HLT.out p (.inl rfl)).2; have := HGG.out; omega
     ·have := (HLT.out S (.inr (.inl rfl))).2; have := HGG.out; omega
     ·rcases hown g e with h1 | h1
      ·have := (HLT.out g (.inr (.inr h1))).2; have := HGG.out; omega
      ·omega
    refine ⟨⟨pv2, by rw [HNE.out]; exact d2, fun b hb => ?_⟩, hbl.frame o2 hgn, ho.trans o2 (fun i hi e => ?_)⟩
    ·rcases hb2 b hb with h1 | h1
     ·exact hown b h1
     ·have := hbl.lt; exact .inr (by omega)
    ·rcases e with e | e | e
     ·exact .inl e
     ·exact .inr (.inl e)
     ·rcases hown i e with h1 | h1
      ·exact .inr (.inr h1)
      ·have := HGG.out; omega
   have HR0 : Hid (((d.wr4 P Z k).2.write q (secF Z k) 32).1 = 0 ∨ (((d.wr4 P Z k).2.write q (secF Z k) 32).1 ≠ 0 ∧ d.wr4 P Z 4 = (d.wr4 P Z k).2.write q (secF Z k) 32)) := by
    by_cases e : ((d.wr4 P Z k).2.write q (secF Z k) 32).1 = 0
    ·exact .inl e
    ·refine .inr ⟨e, ?_⟩
     have stop : ∀ j, d.wr4 P Z (k + 1 + j) = d.wr4 P Z (k + 1) := by
      intro j
      induction j with
      | zero => rfl
      | succ j ih =>
        show (if (d.wr4 P Z (k + 1 + j)).1 = 0 then _ else d.wr4 P Z (k + 1 + j)) = _
        rw [ih, if_neg (by rw [HNE.out]; exact e)]
     have := stop (4 - (k + 1))
     rw [show k + 1 + (4 - (k + 1)) = 4 by omega, HNE.out] at this
     exact this
   obtain ⟨x, hx⟩ : ∃ x, x = ((d.wr4 P Z k).2.write q (secF Z k) 32).1 := ⟨_, rfl⟩
   have HX : Hid (x = ((d.wr4 P Z k).2.write q (secF Z k) 32).1) := hx
   clear h0 hd hown hbl ho hbs e32 hrow f1 f2 f3 f4 hdl ho' hq hx
   go_wp2_with fail
   refine HPC.mono ?_
   rintro e w4 ⟨rfl, rfl⟩
   clear HPC
   go_wp2_with fail
   refine (show Calls Tryz.prog 40 _ _ _ from HW.out).mono ?_
   intro e w5 hWI
   have HE5 : Hid _ := HEND.out e w5 hWI
   have HWI : Hid (WrIs w4 B p S pv' ((d.wr4 P Z k).2.write q (secF Z k) 32) e w5) := hWI
   obtain ⟨rfl, _⟩ := hWI
   rw [← HX.out]
   clear HW HEND
   by_cases hx0 : x = 0
   ·have he : (x != 0) = false := by simp [hx0]
    have HX0 : Hid (x = 0) := hx0
    clear hx0
    go_wp2
    go_roundw
    case rel => exact ⟨k + 1, by omega, by go_num, by rw [HNE.out, ← HX.out]; exact HX0.out, HE5.out.1, HE5.out.2.1, HE5.out.2.2⟩
    case measure => simp [intOf]; omega
   ·have he : (x != 0) = true := by simp [hx0]
    have HFI : Hid (d.wr4 P Z 4 = (d.wr4 P Z k).2.write q (secF Z k) 32) := by
     rcases HR0.out with h1 | h1
     ·exact absurd (HX.out.trans h1) hx0
     ·exact h1.2
    clear hx0
    go_wp2
    go_ret
    show WrIs w1 B p S pv (d.wr4 P Z 4) _ _
    refine ⟨by rw [HFI.out, ← HX.out]; rfl, ?_⟩
    obtain ⟨pv2, q1, q2⟩ := HE5.out.1
    rw [HNE.out, ← HFI.out] at q1
    exact ⟨pv2, q1, HE5.out.2.2, fun b hb => (q2 b hb).imp (fun h => h) (fun h => by have := HGG.out; omega)⟩
  ·obtain rfl : k = 4 := by omega
   have HH : Hid (WrIs w1 B p S pv (d.wr4 P Z 4) (.returned (.int .i64 0)) w3) := by
    refine ⟨by rw [h0], pv', hd, ho, fun b hb => (hown b hb).imp (fun h => h) (fun h => by have := HGG.out; omega)⟩
   clear h0 hd hown hbl ho
   go_wp2
   go_ret
   exact HH.out
theorem pwrite_out (p S n c : Nat) (P i : Int) (v : Value) (w : World) (hn : n ≤ 8192) (h0 : w.cell? ⟨p, 0, none⟩ = some (.slice (some ⟨S, 0, none⟩) n c)) (hP : P < 0 ∨ ((n / 4 : Nat) : Int) ≤ P) :
  Calls Tryz.prog 82 #[.pointer (some ⟨p, 0, none⟩), .int .i64 P, .int .u32 i, v] w fun e w' => e = .returned (.int .i64 4) ∧ w' = w := by
 have HR := preach_out p S n c P w hn h0 hP
 clear h0 hP
 go_enter Tryz.func82, Tryz.ntmps82
 go_wp2_with fail
 refine HR.mono ?_
 rintro e w1 ⟨rfl, rfl⟩
 go_wp2
 go_ret
 exact ⟨rfl, rfl⟩
theorem pwrite_large (p S n c m cc : Nat) (a : Option Addr) (P : Nat) (i : Int) (w : World) (hn : n ≤ 8192) (h0 : w.cell? ⟨p, 0, none⟩ = some (.slice (some ⟨S, 0, none⟩) n c)) (hP : P < n / 4) (hm : 116 < m) :
  Calls Tryz.prog 82 #[.pointer (some ⟨p, 0, none⟩), .int .i64 P, .int .u32 i, .slice a m cc] w fun e w' => e = .returned (.int .i64 11) ∧ w' = w := by
 have HR := preach_in p S n c P w hn h0 hP
 have HP := pack_large i a m cc w hm
 clear h0 hP
 go_enter Tryz.func82, Tryz.ntmps82
 go_wp2_with fail
 refine HR.mono ?_
 rintro e w1 ⟨rfl, rfl⟩
 go_wp2_with fail
 refine HP.mono ?_
 rintro e w2 ⟨rfl, rfl⟩
 go_wp2
 go_ret
 exact ⟨rfl, rfl⟩
theorem pwrite_all (p S B : Nat) (P : Int) (id : Nat) (pv v : Value) (d : DS) (D : List Nat) (w : World) (h : DiskAt w B p S pv d) (hB : B ≤ w.heap.size) (hv : BytesAt w v D) (hid : id < 4294967296) (hp : d.pend.length ≤ 100000000000) (hb : ByteD d) (hg : Good d) :
  Calls Tryz.prog 82 #[.pointer (some ⟨p, 0, none⟩), .int .i64 P, .int .u32 id, v] w fun e w' => WrIs w B p S pv (d.wpage P id D) e w' := by
 obtain ⟨c0, hc0⟩ := h.c0
 by_cases h1 : P < 0 ∨ ((d.n / 4 : Nat) : Int) ≤ P
 ·have e : d.wpage P id D = (4, d) := by unfold DS.wpage; rw [if_pos h1]
  rw [e]
  refine (pwrite_out p S d.n c0 P id v w h.n2 hc0 h1).mono ?_
  rintro e w' ⟨rfl, rfl⟩
  exact ⟨rfl, pv, h, Only.refl _ _, fun b hb => .inl hb⟩
 ·obtain ⟨Q, rfl⟩ : ∃ Q : Nat, P = Q := ⟨P.toNat, by omega⟩
  by_cases h2 : 116 < D.length
  ·have e : d.wpage Q id D = (11, d) := by unfold DS.wpage; rw [if_neg h1, if_pos h2]
   rw [e]
   obtain ⟨a, c, rfl, _, _⟩ := hv.form
   refine (pwrite_large p S d.n c0 D.length c a Q id w h.n2 hc0 (by omega) h2).mono ?_
   rintro e w' ⟨rfl, rfl⟩
   exact ⟨rfl, pv, h, Only.refl _ _, fun b hb => .inl hb⟩
  ·have e : d.wpage Q id D = d.wr4 Q (page id D) 4 := by unfold DS.wpage; rw [if_neg h1, if_neg h2]; rfl
   rw [e]
   exact pwrite_in p S B id Q pv v d D w h hB hv hid (by omega) (by omega) hp hb hg
theorem piece_any (g o n c p s : Nat) (w : World) (h : p + s ≤ c) (hc : p + s ≤ 140737488355328) :
  Calls Tryz.prog 109 #[.slice (some ⟨g, o, none⟩) n c, .int .i64 p, .int .i64 s] w fun e w' => ∃ a, e = .returned (.slice a s s) ∧ (0 < s → a = some ⟨g, o + p, none⟩) ∧ w' = w := by
 by_cases hs : 0 < s
 ·refine (piece_pos g o n c p s w h hs hc).mono ?_
  rintro e w' ⟨rfl, rfl⟩
  exact ⟨_, rfl, fun _ => rfl, rfl⟩
 ·obtain rfl : s = 0 := by omega
  refine (piece_zero _ n c p w (by omega) (by omega)).mono ?_
  rintro e w' ⟨rfl, rfl⟩
  exact ⟨_, rfl, fun h => by omega, rfl⟩
def UnpIs (r : Option (Nat × List Nat)) (w : World) (e : Ending) (w' : World) : Prop :=
 match r with
 | none => e = .returned (.tuple #[.int .u32 0, .slice none 0 0, .int .i64 5]) ∧ Only (fun _ => False) w w'
 | some (i, D) => ∃ u, e = .returned (.tuple #[.int .u32 (i : Nat), u, .int .i64 0]) ∧ Fresh w' w.heap.size u D ∧ Only (fun _ => False) w w'
theorem BytesAt.cut {w : World} {g o n c : Nat} {zs : List Nat} (h : BytesAt w (.slice (some ⟨g, o, none⟩) n c) zs) (p m c' : Nat) (hm : p + m ≤ zs.length) (hc : m ≤ c') : BytesAt w (.slice (some ⟨g, o + p, none⟩) m c') ((zs.drop p).take m) := by
 have e : ((zs.drop p).take m).length = m := by rw [List.length_take, List.length_drop]; omega
 obtain ⟨a, c2, hv, _, hcell⟩ := h.form
 simp only [Value.slice.injEq] at hv
 obtain ⟨rfl, _, rfl⟩ := hv
 refine ⟨.inr ⟨⟨g, o + p, none⟩, c', by rw [e], by omega, fun j hj => ?_⟩, by have := h.2.1; omega, fun z hz => h.2.2 z (List.mem_of_mem_drop (List.mem_of_mem_take hz))⟩
 rw [e] at hj
 obtain ⟨g', o', hv, hx⟩ := hcell (p + j) (by omega)
 simp only [Option.some.injEq, Addr.mk.injEq, and_true] at hv
 obtain ⟨rfl, rfl⟩ := hv
 rw [Addr.add_mid, Nat.add_assoc, hx]
 have : ((zs.drop p).take m).getD j 0 = zs.getD (p + j) 0 := by
  simp only [List.getD]
  rw [List.getElem?_take_of_lt (by omega), List.getElem?_drop]
 simp only [this]
theorem BytesAt.none {w : World} (a : Option Addr) (c : Nat) (h : a = Option.none → c = 0) : BytesAt w (.slice a 0 c) [] := by
 cases a with
 | none => rw [h rfl]; exact ⟨.inl ⟨rfl, rfl⟩, by simp, by simp⟩
 | some ad => exact ⟨.inr ⟨ad, c, rfl, by simp, fun j hj => by simp at hj⟩, by simp, by simp⟩
theorem splice_all {Z Y : List Nat} (h : Z.length = Y.length) : splice Z 0 Y = Y := by
 unfold splice
 rw [List.take_zero, List.nil_append, Nat.zero_add, ← h, List.drop_length, List.append_nil]
theorem copy_blk {W : World} {g : Nat} {zs : List Nat} (h : Blk W g zs) (o : Nat) (dp : Option Addr) (n c : Nat) (sp : Option Addr) (m c2 : Nat) (ys : List Nat) (hl : ys.length = min m n) (hy : ∀ z ∈ ys, z < 256) (ho : o + ys.length ≤ zs.length)
  (hd : 0 < ys.length → dp = some ⟨g, o, none⟩) (hs : 0 < ys.length → BytesAt W (.slice sp ys.length ys.length) ys) :
  ∃ w', (∀ ty, (Builtin.copy_ #[37, 37] ty #[.slice dp n c, .slice sp m c2]).run Tryz.prog W = .ok (.int .i64 (ys.length : Nat)) w') ∧ Blk w' g (splice zs o ys) ∧ Only (fun i => i = g) W w' := by
 by_cases h0 : ys.length = 0
 ·obtain rfl : ys = [] := List.eq_nil_of_length_eq_zero h0
  refine ⟨W, fun ty => ?_, by simpa [splice] using h, Only.refl _ _⟩
  have := run_copy_none (P := Tryz.prog) W 37 37 ty 5 dp sp n c m c2 Tryz.underlying37 size5 (by simpa using hl.symm)
  rw [this]; rfl
 ·obtain rfl := hd (by omega)
  obtain ⟨a', c', hv, _, hcell⟩ := (hs (by omega)).form
  simp only [Value.slice.injEq] at hv
  obtain ⟨rfl, _, rfl⟩ := hv
  obtain ⟨g', o', rfl, _⟩ := hcell 0 (by omega)
  have hrun := fun ty => run_copy_row (P := Tryz.prog) W 37 37 ty 5 g o n c ⟨g', o', none⟩ m c2 (BL zs).toArray 5 (BL ys) Tryz.underlying37 size5 h.1 (by rw [BL_length]; exact hl) (fun j u hu => by
   have hj : j < ys.length := by have := (List.getElem?_eq_some_iff.1 hu).1; rwa [BL_length] at this
   obtain ⟨g2, o2, e2, hx⟩ := hcell j hj
   simp only [Option.some.injEq, Addr.mk.injEq, and_true] at e2
   obtain ⟨rfl, rfl⟩ := e2
   rw [Addr.add_mid, hx]
   rw [BL_get _ _ hj] at hu
   rw [← hu]
   simp [List.getD, hj]) (by simp [BL_length]; exact ho) (BL_one ys)
  refine ⟨W.setRow g ((BL zs).toArray.toList.take o ++ (BL ys ++ (BL zs).toArray.toList.drop (o + (BL ys).length))).toArray, fun ty => (hrun ty).trans (by rw [BL_length]; simp [goInt]), ?_, ⟨rfl, rfl, rfl, by simp [World.setRow], fun k hk hn => setRow_other W g k _ (fun e => hn e)⟩⟩
  refine Blk.spliced h hy ho ?_
  exact setRow_heap W g _ _ 5 _ h.1
theorem unpack_any (v : Value) (b : List Nat) (w : World) (h : BytesAt w v b) (hb : b.length = 128) :
  Calls Tryz.prog 136 #[v] w fun e w' => UnpIs (unp b) w e w' := by
 obtain ⟨a, c, rfl, hcap, hc⟩ := h.form
 obtain ⟨g, o, rfl, _⟩ := hc 0 (by omega)
 rw [hb] at h hcap
 rw [hb]
 have HBY : Hid (BytesAt w (.slice (some ⟨g, o, none⟩) 128 c) b) := h
 have hd : BytesAt w.drew (.slice (some ⟨g, o, none⟩) 128 c) b := h.frame (Only.refl _ w).drew
 obtain ⟨x0, hx0⟩ : ∃ x, x = val4 b 0 := ⟨_, rfl⟩
 obtain ⟨x4, hx4⟩ : ∃ x, x = val4 b 4 := ⟨_, rfl⟩
 obtain ⟨s, hs⟩ : ∃ x, x = val4 b 8 := ⟨_, rfl⟩
 obtain ⟨y, hy⟩ : ∃ x, x = sumN (b.drop 4) := ⟨_, rfl⟩
 have HN0 : Hid (Calls Tryz.prog 148 #[.slice (some ⟨g, o, none⟩) 128 c, .int .i64 0] w.drew fun e w' => e = .returned (.int .u32 (x0 : Nat)) ∧ w' = w.drew) := by
  rw [hx0]; exact numat_any _ b 0 w.drew hd (by omega)
 have HS0 : Hid (Calls Tryz.prog 126 #[.slice (some ⟨g, o + 4, none⟩) 124 (c - 4)] w.drew fun e w' => e = .returned (.int .u32 (y : Nat)) ∧ w' = w.drew) := by
  rw [hy]
  have := hd.cut 4 124 (c - 4) (by omega) (by omega)
  rw [List.take_of_length_le (by rw [List.length_drop]; omega)] at this
  exact sum_any _ _ w.drew this
 have HU : Hid (unp b = if x0 = y then if 116 < s then none else if (b.drop (12 + s)).all (· == 0) then some (x4, (b.drop 12).take s) else none else none) := by rw [hx0, hy, hs, hx4]; rfl
 have HS8 : Hid (∀ w', Only (fun _ => False) w w' → Calls Tryz.prog 148 #[.slice (some ⟨g, o, none⟩) 128 c, .int .i64 8] w' fun e w2 => e = .returned (.int .u32 (s : Nat)) ∧ w2 = w') := fun w' ho => by
  rw [hs]; exact numat_any _ b 8 w' (HBY.out.frame ho) (by omega)
 have HS4 : Hid (∀ w', Only (fun _ => False) w w' → Calls Tryz.prog 148 #[.slice (some ⟨g, o, none⟩) 128 c, .int .i64 4] w' fun e w2 => e = .returned (.int .u32 (x4 : Nat)) ∧ w2 = w') := fun w' ho => by
  rw [hx4]; exact numat_any _ b 4 w' (HBY.out.frame ho) (by omega)
 have hs32 : s < 4294967296 := by rw [hs]; exact val4_lt h.2.2 8
 have HBL : Hid (b.length = 128) := hb
 have OD : Hid (Only (fun _ => False) w w.drew) := (Only.refl _ w).drew
 clear hc h hd hx0 hx4 hs hy hb
 have c1 : (4 : Int) ≤ (c : Int) := by omega
 go_enter Tryz.func136, Tryz.ntmps136
 go_wp2_with fail
 go_region_held3 (fun _ => True) (trivial) (first
  | (go_at_call 126; refine (show Calls Tryz.prog 126 _ _ _ from HS0.out).mono ?_; rintro e w' ⟨rfl, rfl⟩)
  | (go_at_call 148; refine (show Calls Tryz.prog 148 _ _ _ from HN0.out).mono ?_; rintro e w' ⟨rfl, rfl⟩))
 clear HN0 HS0
 by_cases hxy : x0 = y
 ·have he : ((x0 : Int) != (y : Int)) = false := by simp [hxy]
  have HXY : Hid (x0 = y) := hxy
  clear hxy
  go_wp2_with fail
  refine (show Calls Tryz.prog 148 _ _ _ from HS8.out w.drew OD.out).mono ?_
  rintro e w1 ⟨rfl, rfl⟩
  clear HS8 he
  by_cases hlg : 116 < s
  ·have s1 : (116 : Int) < (s : Int) := by omega
   go_wp2
   go_ret3
   show UnpIs (unp b) w _ _
   rw [HU.out, if_pos HXY.out, if_pos hlg]
   exact ⟨rfl, OD.out⟩
  ·have s1 : ¬ (116 : Int) < (s : Int) := by omega
   have s2 : IntKind.i64.wrap (12 + (s : Int)) = 12 + (s : Int) := by rw [IntKind.wrap_i64]; omega
   have s3 : (12 : Int) + (s : Int) ≤ 128 := by omega
   have s4 : (0 : Int) ≤ 12 + (s : Int) := by omega
   have s5 : ((12 : Int) + (s : Int)).toNat = 12 + s := by omega
   have HU2 : Hid (unp b = if (b.drop (12 + s)).all (· == 0) then some (x4, (b.drop 12).take s) else none) := (by rw [HU.out, if_pos HXY.out, if_neg hlg] : _ = _)
   have hsd : BytesAt w.drew (.slice (some ⟨g, o, none⟩) 128 c) b := HBY.out.frame OD.out
   have hlen : (b.drop (12 + s)).length = 128 - (12 + s) := by rw [List.length_drop, HBL.out]
   have HAZ1 : Hid (Calls Tryz.prog 149 #[.slice (some ⟨g, o + (12 + s), none⟩) (128 - (12 + s)) (c - (12 + s))] w.drew fun e w' => e = .returned (.bool ((b.drop (12 + s)).all (· == 0))) ∧ w' = w.drew) := by
    have := hsd.cut (12 + s) (128 - (12 + s)) (c - (12 + s)) (by have := HBL.out; omega) (by omega)
    rw [List.take_of_length_le (by omega)] at this
    exact allzero_any _ _ _ this
   have HAZ2 : Hid (c = 12 + s → Calls Tryz.prog 149 #[.slice (some ⟨g, o, none⟩) (128 - (12 + s)) 0] w.drew fun e w' => e = .returned (.bool ((b.drop (12 + s)).all (· == 0))) ∧ w' = w.drew) := fun hcs => by
    have e0 : 128 - (12 + s) = 0 := by omega
    rw [e0] at hlen
    rw [e0, List.eq_nil_of_length_eq_zero hlen]
    exact allzero_any _ _ _ (BytesAt.none _ _ (fun h => by cases h))
   have HP : Hid (∀ w', Calls Tryz.prog 109 #[.slice (some ⟨g, o, none⟩) 128 c, .int .i64 12, .int .i64 s] w' fun e w2 => ∃ a, e = .returned (.slice a s s) ∧ (0 < s → a = some ⟨g, o + 12, none⟩) ∧ w2 = w') := fun w' => piece_any g o 128 c 12 s w' (by omega) (by omega)
   obtain ⟨M, hM⟩ : ∃ M, M = BL (List.replicate s 0) := ⟨_, rfl⟩
   have hmk := make_blk s (by omega) w.drew
   rw [← hM] at hmk
   have HM : Hid (M = BL (List.replicate s 0)) := hM
   have HML : Hid (M.length = s) := (by rw [hM, BL_length]; simp : _ = _)
   have hdl : ((b.drop 12).take s).length = s := by rw [List.length_take, List.length_drop, HBL.out]; omega
   have HDL : Hid (((b.drop 12).take s).length = s) := hdl
   have HOA : Hid (Only (fun _ => False) w (w.alloc (.cells M.toArray 5)).drew) := (OD.out.alloc _ : Only (fun _ => False) w (w.drew.alloc (.cells M.toArray 5)))
   have HBZ : Hid (Blk (w.alloc (.cells M.toArray 5)).drew w.heap.size (List.replicate s 0)) := by rw [hM]; exact (blk_zeros s (by omega) w.drew : Blk (w.drew.alloc _) w.heap.size _)
   have HBB : Hid (∀ z ∈ (b.drop 12).take s, z < 256) := fun z hz => HBY.out.2.2 z (List.mem_of_mem_drop (List.mem_of_mem_take hz))
   obtain ⟨q, hq⟩ : ∃ q, q = (b.drop (12 + s)).all (· == 0) := ⟨_, rfl⟩
   rw [← hq] at HAZ1 HAZ2 HU2
   have HUT : Hid (q = true → unp b = some (x4, (b.drop 12).take s)) := fun h => by rw [HU2.out, h]; rfl
   have HUF : Hid (q = false → unp b = none) := fun h => by rw [HU2.out, h]; rfl
   clear HU2
   clear hsd hlen hM hdl hq HU HXY hlg
   go_wp2_with fail
   case inl =>
    obtain rfl : c = 12 + s := by omega
    refine (show Calls Tryz.prog 149 _ _ _ from HAZ2.out rfl).mono ?_
    rintro e w1 ⟨rfl, rfl⟩
    clear HAZ1 HAZ2
    cases q with
    | false =>
      go_wp2
      go_ret3
      show UnpIs (unp b) w _ _
      rw [HUF.out (by first | rfl | trivial)]
      exact ⟨rfl, OD.out⟩
    | true =>
      go_wp2_with fail
      refine (show Calls Tryz.prog 109 _ _ _ from HP.out _).mono ?_
      rintro e w1 ⟨a, rfl, ha, rfl⟩
      have HA : Hid (0 < s → a = some ⟨g, o + 12, none⟩) := ha
      clear ha hmk
      obtain ⟨w3, hr3, hb3, ho3⟩ := copy_blk HBZ.out 0 (some ⟨w.heap.size, 0, none⟩) s s a s s ((b.drop 12).take s) (by have := HDL.out; omega) HBB.out (by have := HDL.out; simp; omega) (fun _ => rfl) (fun hp => by
       rw [HA.out (by have := HDL.out; omega), HDL.out]
       exact (HBY.out.frame HOA.out).cut 12 s s (by have := HBL.out; omega) (Nat.le_refl _))
      rw [HDL.out] at hr3
      have hcp := hr3 3
      have HE : Hid (Fresh w3 w.heap.size (.slice (some ⟨w.heap.size, 0, none⟩) s s) ((b.drop 12).take s) ∧ Only (fun _ => False) w w3) := by
       refine ⟨?_, HOA.out.trans ho3 (fun i hi e => by omega)⟩
       have e : splice (List.replicate s 0) 0 ((b.drop 12).take s) = (b.drop 12).take s := splice_all (by rw [HDL.out]; simp)
       rw [e] at hb3
       exact hb3.fresh s HDL.out.symm (Nat.le_refl _)
      clear hr3 hb3 ho3
      go_wp2_with fail
      refine (show Calls Tryz.prog 148 _ _ _ from HS4.out _ HE.out.2).mono ?_
      rintro e w4 ⟨rfl, rfl⟩
      go_wp2
      go_ret3
      show UnpIs (unp b) w _ _
      rw [HUT.out (by first | rfl | trivial)]
      exact ⟨_, rfl, HE.out⟩
   case inr =>
    refine (show Calls Tryz.prog 149 _ _ _ from HAZ1.out).mono ?_
    rintro e w1 ⟨rfl, rfl⟩
    clear HAZ1 HAZ2
    cases q with
    | false =>
      go_wp2
      go_ret3
      show UnpIs (unp b) w _ _
      rw [HUF.out (by first | rfl | trivial)]
      exact ⟨rfl, OD.out⟩
    | true =>
      go_wp2_with fail
      refine (show Calls Tryz.prog 109 _ _ _ from HP.out _).mono ?_
      rintro e w1 ⟨a, rfl, ha, rfl⟩
      have HA : Hid (0 < s → a = some ⟨g, o + 12, none⟩) := ha
      clear ha hmk
      obtain ⟨w3, hr3, hb3, ho3⟩ := copy_blk HBZ.out 0 (some ⟨w.heap.size, 0, none⟩) s s a s s ((b.drop 12).take s) (by have := HDL.out; omega) HBB.out (by have := HDL.out; simp; omega) (fun _ => rfl) (fun hp => by
       rw [HA.out (by have := HDL.out; omega), HDL.out]
       exact (HBY.out.frame HOA.out).cut 12 s s (by have := HBL.out; omega) (Nat.le_refl _))
      rw [HDL.out] at hr3
      have hcp := hr3 3
      have HE : Hid (Fresh w3 w.heap.size (.slice (some ⟨w.heap.size, 0, none⟩) s s) ((b.drop 12).take s) ∧ Only (fun _ => False) w w3) := by
       refine ⟨?_, HOA.out.trans ho3 (fun i hi e => by omega)⟩
       have e : splice (List.replicate s 0) 0 ((b.drop 12).take s) = (b.drop 12).take s := splice_all (by rw [HDL.out]; simp)
       rw [e] at hb3
       exact hb3.fresh s HDL.out.symm (Nat.le_refl _)
      clear hr3 hb3 ho3
      go_wp2_with fail
      refine (show Calls Tryz.prog 148 _ _ _ from HS4.out _ HE.out.2).mono ?_
      rintro e w4 ⟨rfl, rfl⟩
      go_wp2
      go_ret3
      show UnpIs (unp b) w _ _
      rw [HUT.out (by first | rfl | trivial)]
      exact ⟨_, rfl, HE.out⟩
 ·have he : ((x0 : Int) != (y : Int)) = true := by simp; omega
  go_wp2
  go_ret3
  show UnpIs (unp b) w _ _
  rw [HU.out, if_neg hxy]
  exact ⟨rfl, OD.out⟩
theorem splice_mid (A Y : List Nat) (k m : Nat) (hk : A.length = k) (hY : Y.length ≤ m) : splice (A ++ List.replicate m 0) k Y = (A ++ Y) ++ List.replicate (m - Y.length) 0 := by
 unfold splice
 subst hk
 rw [List.take_left', List.drop_append, List.drop_replicate]
 ·rw [List.drop_eq_nil_of_le (by omega), List.nil_append, List.append_assoc, show m - (A.length + Y.length - A.length) = m - Y.length by omega]
 ·rfl
theorem sec_bytes {w : World} {g c : Nat} {f : Nat → Int} (h : w.rangeAt g 0 (secL f)) (hc : 32 ≤ c) (hf : Byt f) : BytesAt w (.slice (some ⟨g, 0, none⟩) 32 c) (secN f) := by
 refine ⟨.inr ⟨⟨g, 0, none⟩, c, by rw [secN_length], by rw [secN_length]; exact hc, fun j hj => ?_⟩, by rw [secN_length]; omega, secN_lt hf⟩
 rw [secN_length, Nat.mul_one] at hj
 rw [Addr.add_mid]
 have := h j _ (secL_get f j hj)
 rw [this]
 show some _ = some (Value.int IntKind.u8 (((secN f).getD j 0 : Nat) : Int))
 rw [secN_getD f j hj]
 have := hf j
 simp only [Option.some.injEq, Value.int.injEq, true_and]
 omega
theorem pread_in (p S B : Nat) (P : Nat) (pv : Value) (d : DS) (w : World) (h : DiskAt w B p S pv d) (hP : P < d.n / 4) (hl : d.life ≠ 0) (hb : ByteD d) :
  Calls Tryz.prog 129 #[.pointer (some ⟨p, 0, none⟩), .int .i64 P] w fun e w' => UnpIs (unp (pgN d P 4)) w e w' := by
 obtain ⟨c0, hc0⟩ := h.c0
 have HR := preach_in p S d.n c0 P w h.n2 hc0 hP
 have n2 := h.n2
 have HD : Hid (DiskAt w B p S pv d) := h
 have HB : Hid (ByteD d) := hb
 have HL : Hid (d.life ≠ 0) := hl
 have HP : Hid (P < d.n / 4) := hP
 have hP2 : P < 2048 := by omega
 have hmk : (Instr.makeSlice 37 (.int .i64 128) (.int .i64 128)).run Tryz.prog w = .ok (.slice (some ⟨w.heap.size, 0, none⟩) 128 128) (w.alloc (.cells (BL (List.replicate 128 0)).toArray 5)) := make_blk 128 (by omega) w
 have hbz := blk_zeros 128 (by omega) w
 obtain ⟨M, hM⟩ : ∃ M, M = BL (List.replicate 128 0) := ⟨_, rfl⟩
 rw [← hM] at hmk hbz
 have HBZ : Hid (Blk (w.alloc (.cells M.toArray 5)) w.heap.size (List.replicate 128 0)) := hbz
 have HOA : Hid (Only (fun _ => False) w (w.alloc (.cells M.toArray 5))) := (Only.refl _ w).alloc _
 clear h hc0 hb hl hP hbz hM
 go_enter Tryz.func129, Tryz.ntmps129
 go_wp2_with fail
 refine HR.mono ?_
 rintro e w1 ⟨rfl, rfl⟩
 clear HR
 go_wp2_with fail
 clear hmk
 obtain ⟨g, hg⟩ : ∃ g, g = w1.heap.size := ⟨_, rfl⟩
 have HG : Hid (g = w1.heap.size) := hg
 rw [← hg] at HBZ
 rw [← hg]
 obtain ⟨w2, hw2⟩ : ∃ w2, w2 = w1.alloc (.cells M.toArray 5) := ⟨_, rfl⟩
 rw [← hw2] at HBZ HOA
 rw [← hw2]
 clear hg hw2
 go_loopw [19] (fun t wr => ∃ k : Nat, k ≤ 4 ∧ t = .int .i64 k ∧ Blk wr g (pgN d P k ++ List.replicate (128 - 32 * k) 0) ∧ Only (fun _ => False) w1 wr) (fun t _ => 4 - (intOf t).toNat)
 case atStart => exact ⟨0, by omega, rfl, HBZ.out, HOA.out⟩
 case round =>
  obtain ⟨k, hk, rfl, hbl, ho⟩ := hrel
  obtain ⟨w3, rfl⟩ : ∃ w3, w3 = wr := ⟨_, rfl⟩
  have HBL : Hid (Blk w3 g (pgN d P k ++ List.replicate (128 - 32 * k) 0)) := hbl
  have HO : Hid (Only (fun _ => False) w1 w3) := ho
  by_cases hlt : k < 4
  ·have k1 : (k : Int) < 4 := by omega
   have m1 : IntKind.i64.wrap ((P : Int) * 4) = (P : Int) * 4 := by rw [IntKind.wrap_i64]; omega
   have m2 : IntKind.i64.wrap ((P : Int) * 4 + (k : Int)) = (P : Int) * 4 + (k : Int) := by rw [IntKind.wrap_i64]; omega
   have m3 : IntKind.i64.wrap ((k : Int) * 32) = (k : Int) * 32 := by rw [IntKind.wrap_i64]; omega
   obtain ⟨o, ho'⟩ : ∃ o, o = k * 32 := ⟨_, rfl⟩
   have m4 : (k : Int) * 32 = (o : Int) := by omega
   rw [m4] at m3
   obtain ⟨q, hq⟩ : ∃ q, q = 4 * P + k := ⟨_, rfl⟩
   have m5 : (P : Int) * 4 + (k : Int) = (q : Int) := by omega
   rw [m5] at m2
   have hd3 := HD.out.frame ho (fun _ _ e => e)
   have HRD : Hid (Calls Tryz.prog 8 #[.pointer (some ⟨p, 0, none⟩), .int .i64 q] w3 fun e w' => e = .returned (.tuple #[.slice (some ⟨w3.heap.size, 0, none⟩) 32 32, .int .i64 0]) ∧ w' = w3.alloc (.cells (secL (d.sec q)).toArray 67)) := read_any p S q B pv d w3 hd3 HL.out (by have := HP.out; omega)
   obtain ⟨C, hC⟩ : ∃ C, C = (secL (d.sec q)).toArray := ⟨_, rfl⟩
   rw [← hC] at HRD
   have ho4 : Only (fun _ => False) w3 (w3.alloc (.cells C 67)) := (Only.refl _ _).alloc _
   have hb4 : Blk (w3.alloc (.cells C 67)) g (pgN d P k ++ List.replicate (128 - 32 * k) 0) := hbl.frame ho4 (fun e => e)
   have hs4 : BytesAt (w3.alloc (.cells C 67)) (.slice (some ⟨w3.heap.size, 0, none⟩) 32 32) (secN (d.sec q)) := sec_bytes (by
    intro j v hv
    rw [hC, Nat.zero_add, cell_of_row _ _ _ _ _ _ (heap_alloc_new w3 _)]
    simpa using hv) (by omega) (HB.out.sec q)
   have HPC : Hid (∀ w', Calls Tryz.prog 109 #[.slice (some ⟨g, 0, none⟩) 128 128, .int .i64 o, .int .i64 32] w' fun e w'' => e = .returned (.slice (some ⟨g, o, none⟩) 32 32) ∧ w'' = w') := fun w' => by
    have := piece_pos g 0 128 128 o 32 w' (by omega) (by omega) (by omega)
    rwa [Nat.zero_add] at this
   have hsn := secN_length (d.sec q)
   obtain ⟨w5, hr5, hb5, ho5⟩ := copy_blk hb4 o (some ⟨g, o, none⟩) 32 32 (some ⟨w3.heap.size, 0, none⟩) 32 32 (secN (d.sec q)) (by rw [hsn]; rfl) (secN_lt (HB.out.sec q)) (by rw [hsn, List.length_append, pgN_length, List.length_replicate]; omega) (fun _ => rfl) (fun _ => by rw [hsn]; exact hs4)
   rw [hsn] at hr5
   have hcp : (Builtin.copy_ #[37, 37] 3 #[.slice (some ⟨g, o, none⟩) 32 32, .slice (some ⟨w3.heap.size, 0, none⟩) 32 32]).run Tryz.prog (w3.alloc (.cells C 67)) = .ok (.int .i64 32) w5 := hr5 3
   have HB5 : Hid (Blk w5 g (pgN d P (k + 1) ++ List.replicate (128 - 32 * (k + 1)) 0)) := by
    rw [splice_mid _ _ o _ (by rw [pgN_length]; omega) (by rw [hsn]; omega), hsn, hq] at hb5
    rw [show 128 - 32 * (k + 1) = 128 - 32 * k - 32 by omega]
    exact hb5
   have HO5 : Hid (Only (fun _ => False) w1 w5) := (ho.trans ho4 (fun _ _ e => e)).trans ho5 (fun i hi e => by have := HG.out; omega)
   clear hbl ho hd3 ho4 hb4 hs4 hsn hr5 hb5 ho5 hC ho' hq
   go_wp2_with fail
   refine (show Calls Tryz.prog 8 _ _ _ from HRD.out).mono ?_
   rintro e w4 ⟨rfl, rfl⟩
   clear HRD
   go_wp2_with fail
   refine (show Calls Tryz.prog 109 _ _ _ from HPC.out _).mono ?_
   rintro e w4 ⟨rfl, rfl⟩
   clear HPC
   go_wp2
   go_roundw
   case rel => exact ⟨k + 1, by omega, by go_num, HB5.out, HO5.out⟩
   case measure => simp [intOf]; omega
  ·obtain rfl : k = 4 := by omega
   have hbl2 : Blk w3 g (pgN d P 4) := by simpa using hbl
   have hall := hbl2.all 128 (pgN_length d P 4).symm
   have HU : Hid (Calls Tryz.prog 136 #[.slice (some ⟨g, 0, none⟩) 128 128] w3 fun e w' => UnpIs (unp (pgN d P 4)) w3 e w') := unpack_any _ _ w3 hall (pgN_length d P 4)
   clear hbl ho hbl2 hall HBL
   go_wp2_with fail
   refine (show Calls Tryz.prog 136 _ _ _ from HU.out).mono ?_
   intro e w4 hU
   clear HU
   cases hr : unp (pgN d P 4) with
   | none =>
     have HRR : Hid (unp (pgN d P 4) = none) := hr
     rw [hr] at hU
     obtain ⟨rfl, ho4⟩ := hU
     have HE : Hid (Only (fun _ => False) w1 w4) := HO.out.trans ho4 (fun _ _ e => e)
     clear ho4 hr
     go_wp2
     go_ret3
     show UnpIs (unp (pgN d P 4)) w1 _ _
     rw [HRR.out]
     exact ⟨rfl, HE.out⟩
   | some x =>
     obtain ⟨i, D⟩ := x
     have HRR : Hid (unp (pgN d P 4) = some (i, D)) := hr
     rw [hr] at hU
     obtain ⟨u, rfl, hf4, ho4⟩ := hU
     have HE : Hid (Fresh w4 w1.heap.size u D ∧ Only (fun _ => False) w1 w4) := by
      refine ⟨⟨⟨hf4.1.1, ?_⟩, hf4.2⟩, HO.out.trans ho4 (fun _ _ e => e)⟩
      rcases hf4.1.2 with h2 | ⟨g', cap', cur', hv', hb', hr'⟩
      ·exact .inl h2
      ·exact .inr ⟨g', cap', cur', hv', by have := HO.out.size; omega, hr'⟩
     clear hf4 ho4 hr
     go_wp2
     go_ret3
     show UnpIs (unp (pgN d P 4)) w1 _ _
     rw [HRR.out]
     exact ⟨u, rfl, HE.out⟩
end Go.Proofs.YtlcglapcmdpkfaaGreat
