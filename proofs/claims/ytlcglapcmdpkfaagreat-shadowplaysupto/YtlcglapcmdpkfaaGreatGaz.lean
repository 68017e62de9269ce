/-  -/
import Derived.Test.YtlcglapcmdpkfaaGreatGaa
import Derived.Test.YtlcglapcmdpkfaaGreatGay
import Derived.Test.YtlcglapcmdpkfaaGreatGax
import Derived.Deep.CutRange
namespace Go.Proofs.YtlcglapcmdpkfaaGreat
open Go.RowKit Go.Maps
set_option linter.unusedSimpArgs false
set_option linter.unusedVariables false
set_option maxRecDepth 100000
set_option maxHeartbeats 16000000
theorem cnt_none : ∀ n, cnt (fun _ => false) n = n
 | 0 => rfl
 | n + 1 => by simp [cnt, cnt_none n]
theorem rload_good {w : World} {B q K : Nat} {rv : Value} {rs : List RW} {d : DS} (h : RefAt w B q K rv d rs) (hg : Good d) (hby : ByteD d) (hl : d.life ≠ 0) (hlen : d.pend.length ≤ 10000000000) (r : Nat) (hr : r = 0 ∨ r = 1) (hn3 : 3 ≤ d.n / 4) (hok : rtOk (secN (d.sec (4 * r))) = true) :
  Calls Tryz.prog 75 #[.pointer (some ⟨q, 0, none⟩), .int .i64 (r : Nat)] w fun e w' => Hid (RlIs w q (loadD d (4 * r)) e w') := by
 have hn : 4 * r < d.n := by omega
 have HY := fun X => @ld_cases d (4 * r) hok X
 have HYY : Hid _ := HY
 have HWfx : Hid (∀ x, loadD d (4 * r) = some x → x.Wf) := fun x hx => load_wf hn3 h.n2 hby (by omega) ((load_doc d _).trans hx)
 obtain ⟨Y, hY⟩ : ∃ Y, Y = loadD d (4 * r) := ⟨_, rfl⟩
 rw [← hY]
 have HRd : Hid (Calls Tryz.prog 9 #[.pointer (some ⟨q, 0, none⟩), .int .i64 ((4 * r : Nat) : Int)] w fun e w' => RdIsC w w' e (d.sec (4 * r))) := rread_cap h hg hl (by omega) (4 * r) hn
 have HB : Hid (Byt (d.sec (4 * r))) := hby.sec _
 have e4 : IntKind.i64.wrap (4 * (r : Int)) = ((4 * r : Nat) : Int) := by rw [IntKind.wrap_i64]; omega
 obtain ⟨f, hf⟩ : ∃ f, f = d.sec (4 * r) := ⟨_, rfl⟩
 obtain ⟨R4, hR4⟩ : ∃ f, f = 4 * r := ⟨_, rfl⟩
 have HC : Hid (∀ w1, Only (fun _ => False) w w1 → Calls Tryz.prog 71 #[.pointer (some ⟨q, 0, none⟩)] w1 fun e w' => e = .returned (.int .i64 ((d.n / 4 : Nat) : Int)) ∧ w' = w1) := fun w1 ho => rcount_any q d.n w1 h.n2 (ho.cell h.c0 (fun e => e))
 have hn2 := h.n2
 have HR : Hid (RefAt w B q K rv d rs ∧ Good d ∧ ByteD d ∧ d.life ≠ 0 ∧ d.pend.length ≤ 10000000000) := ⟨h, hg, hby, hl, hlen⟩
 obtain ⟨N, hN⟩ : ∃ N, N = d.n / 4 := ⟨_, rfl⟩
 have HN : Hid (N = d.n / 4) := hN
 have hN9 : N ≤ 2048 := by omega
 rw [← hN] at HC
 rw [← hY] at HYY HWfx
 rw [← hf] at HRd HB hok HYY
 rw [← hR4] at HRd e4
 clear h hg hby hl hlen hn hf hR4 hN hn2 HY hn3 hY
 go_enter Tryz.func75, Tryz.ntmps75
 go_wp2_with fail
 refine (show Calls Tryz.prog 9 _ _ _ from HRd.out).mono ?_
 rintro e w1 ⟨g, cap, rfl, hrg, ho, hcap⟩
 clear HRd e4
 have HO : Hid (Only (fun _ => False) w w1) := ho
 have HL : Hid (∀ wx k m c, Only (fun _ => False) w1 wx → k + m ≤ 32 → m ≤ c → m ≤ 8 → Calls Tryz.prog 98 #[.slice (some ⟨g, k, none⟩) m c] wx fun e w' => e = .returned (.int .u64 (part (secN f) k m : Nat)) ∧ w' = wx) := fun wx k m c hx h1 h2 h3 => laid_sec (hx.range hrg (fun e => e)) HB.out h1 h2 h3
 have s0 := cut_0 g cap hcap
 have s24 := cut_24 g cap hcap
 have s16 : ∀ w, (Instr.slice 37 (.slice (some ⟨g, 0, none⟩) 32 cap) (some (.int .i64 16)) (some (.int .i64 24)) none).run Tryz.prog w = .ok (.slice (some ⟨g, 16, none⟩) 8 (cap - 16)) w := fun w => cut_m g cap 16 24 hcap (by omega) (by omega) (by omega) w
 have s8 : ∀ w, (Instr.slice 37 (.slice (some ⟨g, 0, none⟩) 32 cap) (some (.int .i64 8)) (some (.int .i64 12)) none).run Tryz.prog w = .ok (.slice (some ⟨g, 8, none⟩) 4 (cap - 8)) w := fun w => cut_m g cap 8 12 hcap (by omega) (by omega) (by omega) w
 have s12 : ∀ w, (Instr.slice 37 (.slice (some ⟨g, 0, none⟩) 32 cap) (some (.int .i64 12)) (some (.int .i64 16)) none).run Tryz.prog w = .ok (.slice (some ⟨g, 12, none⟩) 4 (cap - 12)) w := fun w => cut_m g cap 12 16 hcap (by omega) (by omega) (by omega) w
 clear hrg ho
 unfold rtOk at hok
 obtain ⟨x0, h0⟩ : ∃ x, x = part (secN f) 0 8 := ⟨_, rfl⟩
 obtain ⟨x24, h24⟩ : ∃ x, x = part (secN f) 24 8 := ⟨_, rfl⟩
 obtain ⟨x16, h16⟩ : ∃ x, x = part (secN f) 16 8 := ⟨_, rfl⟩
 obtain ⟨x8, h8⟩ : ∃ x, x = part (secN f) 8 4 := ⟨_, rfl⟩
 obtain ⟨x12, h12⟩ : ∃ x, x = part (secN f) 12 4 := ⟨_, rfl⟩
 rw [← h0, ← h24, ← h16] at hok
 have HX : Hid (x0 = rtE (secN f) ∧ x8 = rtF (secN f) ∧ x12 = rtC (secN f)) := ⟨h0, h8, h12⟩
 have HL0 : Hid (∀ wx c, Only (fun _ => False) w1 wx → 8 ≤ c → Calls Tryz.prog 98 #[.slice (some ⟨g, 0, none⟩) 8 c] wx fun e w' => e = .returned (.int .u64 (x0 : Nat)) ∧ w' = wx) := fun wx c hx hc => by rw [h0]; exact HL.out wx 0 8 c hx (by omega) hc (by omega)
 have HL24 : Hid (∀ wx c, Only (fun _ => False) w1 wx → 8 ≤ c → Calls Tryz.prog 98 #[.slice (some ⟨g, 24, none⟩) 8 c] wx fun e w' => e = .returned (.int .u64 (x24 : Nat)) ∧ w' = wx) := fun wx c hx hc => by rw [h24]; exact HL.out wx 24 8 c hx (by omega) hc (by omega)
 have HL16 : Hid (∀ wx c, Only (fun _ => False) w1 wx → 8 ≤ c → Calls Tryz.prog 98 #[.slice (some ⟨g, 16, none⟩) 8 c] wx fun e w' => e = .returned (.int .u64 (x16 : Nat)) ∧ w' = wx) := fun wx c hx hc => by rw [h16]; exact HL.out wx 16 8 c hx (by omega) hc (by omega)
 have HL8 : Hid (∀ wx c, Only (fun _ => False) w1 wx → 4 ≤ c → Calls Tryz.prog 98 #[.slice (some ⟨g, 8, none⟩) 4 c] wx fun e w' => e = .returned (.int .u64 (x8 : Nat)) ∧ w' = wx) := fun wx c hx hc => by rw [h8]; exact HL.out wx 8 4 c hx (by omega) hc (by omega)
 have HL12 : Hid (∀ wx c, Only (fun _ => False) w1 wx → 4 ≤ c → Calls Tryz.prog 98 #[.slice (some ⟨g, 12, none⟩) 4 c] wx fun e w' => e = .returned (.int .u64 (x12 : Nat)) ∧ w' = wx) := fun wx c hx hc => by rw [h12]; exact HL.out wx 12 4 c hx (by omega) hc (by omega)
 have HX4 : Hid (x8 < 4294967296 ∧ x12 < 4294967296) := ⟨by rw [h8]; exact part_lt (secN_lt HB.out) 8 4, by rw [h12]; exact part_lt (secN_lt HB.out) 12 4⟩
 clear HL h0 h24 h16 h8 h12 HB
 simp only [Bool.and_eq_true, bne_iff_ne, ne_eq, beq_iff_eq] at hok
 obtain ⟨⟨c2, rfl⟩, rfl⟩ := hok
 have c2' : ¬ (x24 : Int) = 0 := by omega
 go_wp2_with fail
 refine wp_region_held_drew (S := fun w2 => Only (fun _ => False) w1 w2) (by kernel_rfl) ((Only.refl _ w1).drew) (fun hHeld => ?_)
 refine t8 (i := 0) (v := .int .i64 0) rfl hHeld ?_
 simp only [Act.put, z9]
 refine t8 (i := 1) (v := .bool false) rfl hHeld ?_
 simp only [Act.put, z9]
 refine t8 (i := 2) (v := .bool false) rfl hHeld ?_
 simp only [Act.put, z9]
 refine t8 (i := 3) (v := .slice (some ⟨g, 0, none⟩) 32 cap) rfl hHeld ?_
 simp only [Act.put, z9]
 refine t8 (i := 4) (v := .slice (some ⟨g, 0, none⟩) 8 cap) rfl hHeld ?_
 simp only [Act.put, z9]
 refine t8 (i := 6) (v := .slice (some ⟨g, 0, none⟩) 32 cap) rfl hHeld ?_
 simp only [Act.put, z9]
 refine t8 (i := 7) (v := .slice (some ⟨g, 24, none⟩) 8 (cap - 24)) rfl hHeld ?_
 simp only [Act.put, z9]
 refine wpAnyH_ready (rs := [5]) (by kernel_rfl) (by simp) ?_
 refine AllReadyH.cons rfl (fun K hK => ?_) AllReadyH.nil
 rw [if_pos (by rfl)]
 refine wp_call_func #[.tmp 34] #[37] rfl #[.slice (some ⟨g, 0, none⟩) 8 cap] (by simp [Act.eval]) (enters_of Tryz.func98 (by kernel_rfl) rfl) (HL0.out _ cap hHeld (by omega)) (fun e W4 he4 => ?_)
 obtain ⟨rfl, rfl⟩ := he4
 refine ⟨_, rfl, hK _ _ hHeld (fun hHeld => ?_)⟩
 clear hK K
 simp only [Act.put, z9]
 refine wpAnyH_ready (rs := [8]) (by kernel_rfl) (by simp) ?_
 refine AllReadyH.cons rfl (fun K hK => ?_) AllReadyH.nil
 rw [if_pos (by rfl)]
 refine wp_call_func #[.tmp 37] #[37] rfl #[.slice (some ⟨g, 24, none⟩) 8 (cap - 24)] (by simp [Act.eval]) (enters_of Tryz.func98 (by kernel_rfl) rfl) (HL24.out _ (cap - 24) hHeld (by omega)) (fun e W4 he4 => ?_)
 obtain ⟨rfl, rfl⟩ := he4
 refine ⟨_, rfl, hK _ _ hHeld (fun hHeld => ?_)⟩
 clear hK K
 simp only [Act.put, z9]
 refine t8 (i := 9) (v := .bool false) rfl hHeld ?_
 simp only [Act.put, z9]
 refine t8 (i := 10) (v := .bool false) rfl hHeld ?_
 simp only [Act.put, z9]
 refine t8 (i := 11) (v := .bool false) rfl hHeld ?_
 simp only [Act.put, z9]
 refine t8 (i := 12) (v := .slice (some ⟨g, 0, none⟩) 32 cap) rfl hHeld ?_
 simp only [Act.put, z9]
 refine t8 (i := 13) (v := .slice (some ⟨g, 0, none⟩) 8 cap) rfl hHeld ?_
 simp only [Act.put, z9]
 refine wpAnyH_ready (rs := [14]) (by kernel_rfl) (by simp) ?_
 refine AllReadyH.cons rfl (fun K hK => ?_) AllReadyH.nil
 rw [if_pos (by rfl)]
 refine wp_call_func #[.tmp 43] #[37] rfl #[.slice (some ⟨g, 0, none⟩) 8 cap] (by simp [Act.eval]) (enters_of Tryz.func98 (by kernel_rfl) rfl) (HL0.out _ cap hHeld (by omega)) (fun e W4 he4 => ?_)
 obtain ⟨rfl, rfl⟩ := he4
 refine ⟨_, rfl, hK _ _ hHeld (fun hHeld => ?_)⟩
 clear hK K
 simp only [Act.put, z9]
 refine t8 (i := 15) (v := .bool false) rfl hHeld ?_
 simp only [Act.put, z9]
 refine t8 (i := 16) (v := .bool false) rfl hHeld ?_
 simp only [Act.put, z9]
 refine t8 (i := 17) (v := .bool false) rfl hHeld ?_
 simp only [Act.put, z9]
 refine t8 (i := 18) (v := .slice (some ⟨g, 0, none⟩) 32 cap) rfl hHeld ?_
 simp only [Act.put, z9]
 refine t8 (i := 19) (v := .slice (some ⟨g, 16, none⟩) 8 (cap - 16)) rfl hHeld ?_
 simp only [Act.put, z9]
 refine wpAnyH_ready (rs := [20]) (by kernel_rfl) (by simp) ?_
 refine AllReadyH.cons rfl (fun K hK => ?_) AllReadyH.nil
 rw [if_pos (by rfl)]
 refine wp_call_func #[.tmp 49] #[37] rfl #[.slice (some ⟨g, 16, none⟩) 8 (cap - 16)] (by simp [Act.eval]) (enters_of Tryz.func98 (by kernel_rfl) rfl) (HL16.out _ (cap - 16) hHeld (by omega)) (fun e W4 he4 => ?_)
 obtain ⟨rfl, rfl⟩ := he4
 refine ⟨_, rfl, hK _ _ hHeld (fun hHeld => ?_)⟩
 clear hK K
 simp only [Act.put, z9]
 refine t8 (i := 21) (v := .bool false) rfl hHeld ?_
 simp only [Act.put, z9]
 refine t8 (i := 22) (v := .bool false) rfl hHeld ?_
 simp only [Act.put, z9]
 refine wpAnyH_done (by kernel_rfl) ?_ _
 have O2 : Hid (Only (fun _ => False) w w1.drew) := HO.out.drew
 have O1 : Hid (Only (fun _ => False) w1 w1.drew) := (Only.refl _ w1).drew
 obtain ⟨R, hR⟩ : ∃ R, R = w1.heap.size := ⟨_, rfl⟩
 have HRR : Hid (R = w1.heap.size) := hR
 obtain ⟨wB, hwB⟩ : ∃ z, z = w1.alloc (.cells #[.pointer (some ⟨q, 0, none⟩), .int .i64 (r : Nat), .int .u64 (x24 : Nat), .slice none 0 0, .slice none 0 0, .slice none 0 0, .bool false] 97) := ⟨_, rfl⟩
 have HWB : Hid (wB = w1.alloc (.cells #[.pointer (some ⟨q, 0, none⟩), .int .i64 (r : Nat), .int .u64 (x24 : Nat), .slice none 0 0, .slice none 0 0, .slice none 0 0, .bool false] 97)) := hwB
 have oB : Only (fun _ => False) w1 wB := by rw [hwB]; exact (Only.refl _ w1).alloc _
 have bB : wB.heap[R]? = some (.cells #[.pointer (some ⟨q, 0, none⟩), .int .i64 (r : Nat), .int .u64 (x24 : Nat), .slice none 0 0, .slice none 0 0, .slice none 0 0, .bool false] 97 (0, 0)) := by rw [hwB, hR]; exact heap_alloc_new w1 _
 have sB : wB.heap.size = R + 1 := by rw [hwB, hR]; simp
 obtain ⟨Z, hZ⟩ : ∃ Z, Z = ((flF N (fun _ => false)).map Value.bool).toArray := ⟨_, rfl⟩
 have hmk : ∀ W, (Instr.makeSlice 38 (.int .i64 N) (.int .i64 N)).run Tryz.prog W = .ok (.slice (some ⟨W.heap.size, 0, none⟩) N N) (W.alloc (.cells Z 4)) := fun W => by rw [hZ]; exact make_fl N (by omega) W
 obtain ⟨wF, hwF⟩ : ∃ z, z = wB.alloc (.cells Z 4) := ⟨_, rfl⟩
 have HWF : Hid (wF = wB.alloc (.cells Z 4)) := hwF
 have oF : Only (fun _ => False) wB wF := by rw [hwF]; exact (Only.refl _ wB).alloc _
 have fF : FBlk wF (R + 1) N (fun _ => false) := by rw [hwF, hZ, ← sB]; exact heap_alloc_new wB _
 have bF : wF.heap[R]? = some (.cells #[.pointer (some ⟨q, 0, none⟩), .int .i64 (r : Nat), .int .u64 (x24 : Nat), .slice none 0 0, .slice none 0 0, .slice none 0 0, .bool false] 97 (0, 0)) := by rw [oF.block _ (by omega) (fun e => e)]; exact bB
 have HOB : Hid (Only (fun _ => False) w wB) := HO.out.trans oB (fun _ _ e => e)
 have O1F : Hid (Only (fun _ => False) w1 wF) := oB.trans oF (fun _ _ e => e)
 have HOF : Hid (Only (fun _ => False) w wF) := HOB.out.trans oF (fun _ _ e => e)
 have HF : Hid (FBlk wF (R + 1) N (fun _ => false) ∧ wF.heap[R]? = some (.cells #[.pointer (some ⟨q, 0, none⟩), .int .i64 (r : Nat), .int .u64 (x24 : Nat), .slice none 0 0, .slice none 0 0, .slice none 0 0, .bool false] 97 (0, 0)) ∧ wF.heap.size = R + 2) := ⟨fF, bF, by rw [hwF]; simp [sB]⟩
 have HSB : Hid (wB.heap.size = R + 1) := sB
 clear hHeld s24 s16 HL24 HL16 hwB oB bB hZ hwF oF fF bF hR sB
 go_wp2_with fail
 refine (HL0.out _ _ O1.out (by omega)).mono ?_
 rintro e wz ⟨rfl, rfl⟩
 clear HL0 s0
 go_wp2_with fail
 rw [← HWB.out, ← HRR.out]
 refine (HC.out _ HOB.out.drew).mono ?_
 rintro e wz ⟨rfl, rfl⟩
 clear HC
 go_wp2_with fail
 rw [← HWF.out, HSB.out]
 refine (HL8.out _ _ (O1F.out.drew) (by omega)).mono ?_
 rintro e wz ⟨rfl, rfl⟩
 clear HL8
 go_wp2_with fail
 refine (HL12.out _ _ (O1F.out.drew) (by omega)).mono ?_
 rintro e wz ⟨rfl, rfl⟩
 clear HL12 hmk s8 s12
 obtain ⟨X, hX⟩ : ∃ X, X = dtR d x12 (fun _ => false) x8 [] [] := ⟨_, rfl⟩
 have HXX : Hid (X = dtR d x12 (fun _ => false) x8 [] []) := hX
 have HYX : Hid ((X = none → Y = none) ∧ (∀ g n a t, X = some (g, n, a, t) → n ≠ 0 → Y = none) ∧ ∀ g a t, X = some (g, 0, a, t) → Y = (dpR d t (t.length + 1) g 0 []).map fun m => ⟨d.n / 4, x24, 4 * r, a, m, m⟩) := by
  have := HYY.out X (by rw [hX, HX.out.2.1, HX.out.2.2])
  rw [← HX.out.1] at this
  exact this
 have HST : Hid (LtM w wF.drew q R N r x24 (fun _ => false) [] [] (.slice none 0 0) (.slice none 0 0)) := by
  obtain ⟨f1, f2, f3⟩ := HF.out
  have od : Only (fun _ => False) wF wF.drew := (Only.refl _ wF).drew
  have := HO.out.size
  have := HRR.out
  refine LtM.still { on := HOF.out, wR := by omega, sz := by omega, bx := fun j v hv => ?_, bt := fun j hj => ?_, fl := f1, tb := ⟨World.ownsRow_nil _ _ _ _, by simp⟩, ta := ⟨World.ownsRow_nil _ _ _ _, by simp, fun z hz => by cases hz⟩, ne := fun b e => by simp [Value.ownBlock] at e } od
  ·rw [cell_of_row _ _ _ _ _ _ f2, Nat.zero_add]
   simpa [ldL] using hv
  ·refine ⟨?_, frozen_of_row _ _ _ _ _ f2⟩
   rw [cell_of_row _ _ _ _ _ _ f2, Nat.zero_add]
   have : j = 0 ∨ j = 1 ∨ j = 2 ∨ j = 3 ∨ j = 4 ∨ j = 5 ∨ j = 6 := by omega
   rcases this with rfl | rfl | rfl | rfl | rfl | rfl | rfl <;> rfl
 clear hX HYY HX
 go_wp2_with fail
 go_loopw [9, 10, 11] (fun a b c wr => ∃ (left nx : Nat) (f : Nat → Bool) (at_ tab : List Nat) (tva taa : Option Addr) (tvn tvc tan tac : Nat), a = .int .u64 (nx : Nat) ∧ b = .slice taa tan tac ∧ c = .int .u64 (left : Nat) ∧ Hid (LtM w wr q R N r x24 f at_ tab (.slice tva tvn tvc) (.slice taa tan tac) ∧ X = dtR d left f nx at_ tab ∧ at_.length + cnt f N = N ∧ nx < 4294967296 ∧ left < 4294967296 ∧ tab.length ≤ 112 * at_.length)) (fun _ _ c _ => (intOf c).toNat)
 case atStart => exact ⟨x12, x8, _, [], [], _, _, _, _, _, _, rfl, rfl, rfl, HST.out, HXX.out, by rw [cnt_none]; simp, HX4.out.1, HX4.out.2, by simp⟩
 case round =>
  obtain ⟨left, nx, f2, at_, tab, tva, taa, tvn, tvc, tan, tac, rfl, rfl, rfl, HI⟩ := hrel
  obtain ⟨W, rfl⟩ : ∃ w9, w9 = wr := ⟨_, rfl⟩
  have hnx := HI.out.2.2.2.1
  have hleft := HI.out.2.2.2.2.1
  by_cases h0 : 0 < left
  ·obtain ⟨l1, hl1⟩ : ∃ l1, left = l1 + 1 := ⟨left - 1, by omega⟩
   have HL1 : Hid (left = l1 + 1) := hl1
   have k1 : (0 : Int) < (left : Int) := by omega
   have HTk : Hid (Calls Tryz.prog 99 #[.pointer (some ⟨q, 0, none⟩), .slice (some ⟨R + 1, 0, none⟩) N N, .int .u64 (nx : Nat)] W fun e w' => e = .returned (.bool (tkOk N f2 nx)) ∧ Hid ((tkOk N f2 nx = false → w' = W) ∧ (tkOk N f2 nx = true → FBlk w' (R + 1) N (fun j => f2 j || j == nx) ∧ Only (fun b => b = R + 1) W w'))) := take4_any q d.n (R + 1) N nx f2 W (HI.out.1.on.cell HR.out.1.c0 (fun e => e)) HR.out.1.n2 HN.out.symm HI.out.1.fl (by omega)
   cases htk : tkOk N f2 nx with
   | false =>
     rw [htk] at HTk
     go_wp2_with fail
     refine (show Calls Tryz.prog 99 _ _ _ from HTk.out).mono ?_
     rintro e w2 ⟨rfl, hw2⟩
     have hw3 := hw2.out.1 (by first | rfl | trivial)
     subst hw3
     have HQ : Hid (RlIs w q Y (.returned (.pointer none)) w2) := RlIs.no (HYX.out.1 (HI.out.2.1.trans (by rw [hl1]; exact dtR_take (by rw [← HN.out]; exact htk)))) HI.out.1.on
     clear HTk hw2 htk
     go_wp2
     go_ret
     exact HQ
   | true =>
     rw [htk] at HTk
     go_wp2_with fail
     refine (show Calls Tryz.prog 99 _ _ _ from HTk.out).mono ?_
     rintro e w2 ⟨rfl, hw2⟩
     have hl2 := HI.out.1.took (hw2.out.2 (by first | rfl | trivial)).2 (hw2.out.2 (by first | rfl | trivial)).1
     have ht9 : 2 ≤ nx ∧ nx < N := by
      have := htk
      simp only [tkOk, Bool.and_eq_true, decide_eq_true_eq] at this
      exact this.1
     have HRp : Hid (Calls Tryz.prog 100 #[.pointer (some ⟨q, 0, none⟩), .int .i64 (nx : Nat)] w2 fun e w' => UnpIs (unp (pgN d nx 4)) w2 e w') := by
      obtain ⟨g1, g2, g3, g4, g5⟩ := HR.out
      exact rpread_in q K B nx rv rs d w2 (g1.frame hl2.on (fun _ _ e => e)) (by have := HN.out; omega) g4 g3 g2 g5
     have HL2 : Hid (LtM w w2 q R N r x24 (fun j => f2 j || j == nx) at_ tab (.slice tva tvn tvc) (.slice taa tan tac)) := hl2
     clear HTk hw2 hl2
     cases hu : unp (pgN d nx 4) with
     | none =>
       rw [hu] at HRp
       go_wp2_with fail
       refine (show Calls Tryz.prog 100 _ _ _ from HRp.out).mono ?_
       rintro e w3 ⟨rfl, ho3⟩
       have HQ : Hid (RlIs w q Y (.returned (.pointer none)) w3) := RlIs.no (HYX.out.1 (HI.out.2.1.trans (by rw [hl1]; exact dtR_none (by simp only [ldD, hu])))) (HL2.out.on.trans ho3 (fun _ _ e => e))
       clear HRp ho3 hu htk
       go_wp2
       go_ret
       exact HQ
     | some y =>
       obtain ⟨i, D⟩ := y
       rw [hu] at HRp
       go_wp2_with fail
       refine (show Calls Tryz.prog 100 _ _ _ from HRp.out).mono ?_
       rintro e w3 ⟨u, rfl, hfr, ho3⟩
       have HL3 : Hid (LtM w w3 q R N r x24 (fun j => f2 j || j == nx) at_ tab (.slice tva tvn tvc) (.slice taa tan tac)) := HL2.out.still ho3
       obtain ⟨au, cu, rfl⟩ := hfr.form
       have HU : Hid (Fresh w3 w2.heap.size (.slice au D.length cu) D) := hfr
       obtain ⟨n3, hn3⟩ : ∃ n, n = D.length := ⟨_, rfl⟩
       have HN3 : Hid (n3 = D.length) := hn3
       rw [← hn3]
       clear HRp ho3 hfr hn3
       by_cases hi2 : i = 2
       ·subst hi2
        by_cases h4 : n3 < 4
        ·have h4' : (n3 : Int) < 4 := by omega
         have HQ : Hid (RlIs w q Y (.returned (.pointer none)) w3) := RlIs.no (HYX.out.1 (HI.out.2.1.trans (by rw [hl1]; exact dtR_short (D := D) (by simp only [ldD, hu, if_true]) (by have := HN3.out; omega)))) HL3.out.on
         clear hu htk hl1
         go_wp2
         go_ret
         exact HQ
        ·have h4' : ¬ (n3 : Int) < 4 := by omega
         have hcn := HI.out.2.2.1
         have hal : at_.length + 1 ≤ 1048576 := by omega
         obtain ⟨a5, cap5, w5, hr5, hc5, ho5, hL5⟩ := HL3.out.table nx hal
         have c3 : w3.cell? ⟨R, 3, none⟩ = some (.slice tva tvn tvc) := by have := HL3.out.bx 3 _ rfl; simpa using this
         have HR5 : Hid _ := hr5
         obtain ⟨n5, hn5⟩ : ∃ n, n = at_.length + 1 := ⟨_, rfl⟩
         have HN5 : Hid (n5 = at_.length + 1) := hn5
         rw [← hn5] at HR5 hL5 ho5
         have HO5 : Hid _ := ho5
         have HL5 : Hid (LtM w (w5.setCell ⟨R, 3, none⟩ (.slice a5 n5 cap5)) q R N r x24 (fun j => f2 j || j == nx) (at_ ++ [nx]) tab (.slice a5 n5 cap5) (.slice taa tan tac)) := hL5
         obtain ⟨c53, f53⟩ := hc5 3 _ (by omega) rfl
         have e9 : IntKind.i64.wrap (nx : Int) = (nx : Int) := by rw [IntKind.wrap_i64]; omega
         clear hr5 hc5 hL5 hn5 ho5
         obtain ⟨a9, c9, e9', hcap9, hcc9⟩ := HU.out.bytes.form
         simp only [Value.slice.injEq] at e9'
         obtain ⟨rfl, -, rfl⟩ := e9'
         have hn3' := HN3.out
         obtain ⟨g9, o9, rfl, -⟩ := hcc9 0 (by omega)
         have lU := fun b e => own_lt HU.out b e
         have hs2 := HL2.out.sz
         have hD9 := unp_len hu
         have hu5 : BytesAt (w5.setCell ⟨R, 3, none⟩ (.slice a5 n5 cap5)) (.slice (some ⟨g9, o9, none⟩) n3 cu) D := by
          rw [hn3']
          refine HU.out.bytes.keep HO5.out (fun b hb e => ?_)
          have := (lU b hb).1
          rcases e with e | e
          ·have := (HL2.out.tb.1.lt b e).2; omega
          ·omega
         obtain ⟨a6, c6, hr6, hb6, -⟩ := slice_four g9 o9 n3 cu hu5 hn3'.symm (by omega) (by omega)
         have htb := HI.out.2.2.2.2.2
         obtain ⟨a7, c7, w7, hr7, ho7, hL7⟩ := HL5.out.more hb6 (by rw [List.length_drop]; omega)
         have hu7 : BytesAt w7 (.slice (some ⟨g9, o9, none⟩) n3 cu) D := hu5.keep ho7 (fun b hb e => by
          have := (lU b (by rw [← hn3']; exact hb)).1
          have := (HL2.out.ta.1.lt b e).2
          omega)
         have HLd : Hid (Calls Tryz.prog 98 #[.slice (some ⟨g9, o9, none⟩) 4 cu] w7 fun e w' => e = .returned (.int .u64 (part D 0 4 : Nat)) ∧ w' = w7) := laidk_any _ _ w7 (hu7.take (by omega)) (by rw [List.length_take]; omega)
         have hp := part_lt HU.out.2.2 0 4
         have c4 : (4 : Int) ≤ (cu : Int) := by omega
         have e10 : IntKind.u64.wrap ((left : Int) - 1) = ((left - 1 : Nat) : Int) := by rw [IntKind.wrap_u64]; omega
         obtain ⟨n7, hn7⟩ : ∃ n, n = tab.length + (D.drop 4).length := ⟨_, rfl⟩
         rw [← hn7] at hr7 hL7
         obtain ⟨n6, hn6⟩ : ∃ n, n = n3 - 4 := ⟨_, rfl⟩
         rw [← hn6] at hr6 hr7
         have HR7 : Hid _ := hr7
         have hct : cnt (fun j => f2 j || j == nx) N + 1 = cnt f2 N := by
          have := htk
          simp only [tkOk, Bool.and_eq_true, decide_eq_true_eq, Bool.not_eq_true'] at this
          exact cnt_set f2 nx this.2 _ ht9.2
         have HNW : Hid (LtM w w7 q R N r x24 (fun j => f2 j || j == nx) (at_ ++ [nx]) (tab ++ D.drop 4) (.slice a5 n5 cap5) (.slice a7 n7 c7) ∧ X = dtR d (left - 1) (fun j => f2 j || j == nx) (part D 0 4) (at_ ++ [nx]) (tab ++ D.drop 4) ∧ (at_ ++ [nx]).length + cnt (fun j => f2 j || j == nx) N = N ∧ part D 0 4 < 4294967296 ∧ left - 1 < 4294967296 ∧ (tab ++ D.drop 4).length ≤ 112 * (at_ ++ [nx]).length) := by
          refine ⟨hL7, HI.out.2.1.trans ?_, ?_, by omega, by omega, ?_⟩
          ·rw [hl1]
           exact dtR_go (by rw [← HN.out]; exact htk) (by simp only [ldD, hu, if_true]) (by omega)
          ·simp only [List.length_append, List.length_cons, List.length_nil]; omega
          ·simp only [List.length_append, List.length_cons, List.length_nil, List.length_drop]; omega
         clear hu htk hl1 hr7 hL7 ho7 hu7 hu5 hb6 hct hn7 hn6 hp hcc9 lU hD9 htb hn3' hs2 hcn hal
         obtain ⟨P, hP⟩ : ∃ P, P = part D 0 4 := ⟨_, rfl⟩
         rw [← hP] at HLd HNW
         clear hP
         go_wp2_with (first
          | (at_builtin; refine wpList_append_run rfl _ _ 76 rfl _ _ (.slice a5 n5 cap5) rfl rfl HR5.out ?_)
          | (at_builtin; refine wpList_append_run rfl _ _ 37 rfl _ _ (.slice a7 n7 c7) rfl rfl HR7.out ?_)
          | (go_at_call 98; refine (show Calls Tryz.prog 98 _ _ _ from HLd.out).mono ?_; rintro e wz ⟨rfl, rfl⟩))
         go_roundw
         case rel => exact ⟨left - 1, P, _, _, _, _, _, _, _, _, _, rfl, rfl, congrArg (Value.int .u64) (by have := HL1.out; rw [IntKind.wrap_u64]; omega), HNW.out⟩
         case measure =>
          have := HL1.out
          simp only [intOf]
          rw [IntKind.wrap_u64]
          omega
       ·have hi2' : ¬ (i : Int) = 2 := by omega
        have HQ : Hid (RlIs w q Y (.returned (.pointer none)) w3) := RlIs.no (HYX.out.1 (HI.out.2.1.trans (by rw [hl1]; exact dtR_none (by simp only [ldD, hu]; exact if_neg hi2)))) HL3.out.on
        clear hu htk hl1 hi2
        go_wp2
        go_ret
        exact HQ
  ·have hl0 : left = 0 := by omega
   subst hl0
   have k1 : ¬ (0 : Int) < ((0 : Nat) : Int) := by omega
   have hXE : X = some (f2, nx, at_, tab) := HI.out.2.1
   by_cases hz : nx = 0
   ·subst hz
    have hYE := HYX.out.2.2 _ _ _ hXE
    obtain ⟨F, hF⟩ : ∃ F : Pgs → SS, F = fun m => ⟨d.n / 4, x24, 4 * r, at_, m, m⟩ := ⟨_, rfl⟩
    rw [← hF] at hYE
    have HFF : Hid (F = fun m => ⟨d.n / 4, x24, 4 * r, at_, m, m⟩) := hF
    obtain ⟨Z, hZ⟩ : ∃ Z, Z = dpR d tab (tab.length + 1) f2 0 [] := ⟨_, rfl⟩
    rw [← hZ] at hYE
    have HZZ : Hid (Z = dpR d tab (tab.length + 1) f2 0 []) := hZ
    have HYE : Hid (Y = Z.map F) := hYE
    have HZR : Hid (∀ M, Z = some M → Rise M) := fun M hM => dp_rise _ _ _ [] M (by simp [Rise]) (fun p hp => by cases hp) (hZ.symm.trans hM)
    obtain ⟨a9, c9, e9'⟩ := HI.out.1.ta.form
    simp only [Value.slice.injEq] at e9'
    obtain ⟨rfl, rfl, rfl⟩ := e9'
    have HLP : Hid (LpM w W q R N r x24 f2 at_ tab (.slice tva tvn tvc) (.slice taa tab.length tac) (.slice none 0 0) []) := HI.out.1.lp
    obtain ⟨nt, hnt⟩ : ∃ n, n = tab.length := ⟨_, rfl⟩
    have hnt2 : nt ≤ 140737488355328 := by rw [hnt]; exact HI.out.1.ta.2.1
    have HNT : Hid (nt = tab.length) := hnt
    rw [← hnt] at HLP
    rw [← hnt]
    have n0 : (((0 : Nat) : Int) != 0) = false := rfl
    clear hXE hYE hF hZ hnt HI HYX
    go_wp2_with fail
    rename_i Ka9 ha9 Kb9 hb9
    clear ha9
    go_loopw [15] (fun p wr => ∃ (pos : Nat), p = .int .i64 (pos : Nat) ∧ Hid (∃ (f : Nat → Bool) (kva : Option Addr) (kvn kvc : Nat) (lk : List RPg) (k : Nat), LpM w wr q R N r x24 f at_ tab (.slice tva tvn tvc) (.slice taa nt tac) (.slice kva kvn kvc) lk ∧ Z = dpR d tab k f pos (lk.map RPg.p) ∧ tab.length < pos + k ∧ pos ≤ tab.length ∧ (lk.length : Int) ≤ lastI (lk.map RPg.p) + 1 ∧ lastI (lk.map RPg.p) ≤ 727)) (fun p _ => nt - (intOf p).toNat)
    case atStart => exact ⟨0, rfl, f2, none, 0, 0, [], tab.length + 1, HLP.out, HZZ.out, by omega, by omega, by simp [lastI], by simp [lastI]⟩
    case round =>
     obtain ⟨pos, rfl, HI0⟩ := hrel
     obtain ⟨f, kva, kvn, kvc, lk, k, hI0⟩ := HI0.out
     have HI : Hid (LpM w wr q R N r x24 f at_ tab (.slice tva tvn tvc) (.slice taa nt tac) (.slice kva kvn kvc) lk ∧ Z = dpR d tab k f pos (lk.map RPg.p) ∧ tab.length < pos + k ∧ pos ≤ tab.length ∧ (lk.length : Int) ≤ lastI (lk.map RPg.p) + 1 ∧ lastI (lk.map RPg.p) ≤ 727) := hI0
     clear hI0 HI0 HLP HZZ
     obtain ⟨V, rfl⟩ : ∃ w9, w9 = wr := ⟨_, rfl⟩
     by_cases hp : pos < nt
     ·have p1 : (pos : Int) < (nt : Int) := by omega
      have hnt := HNT.out
      obtain ⟨k1', hk1⟩ : ∃ k1, k = k1 + 1 := ⟨k - 1, by have := HI.out.2.2.1; omega⟩
      have hpl : ¬ tab.length ≤ pos := by omega
      have HR1 : Hid (Calls Tryz.prog 101 #[.slice taa nt tac, .int .i64 (pos : Nat)] V fun e w' => e = .returned (rdV (rd tab pos 0 0)) ∧ w' = V) := rnread_any _ pos tab V HI.out.1.ta.bytes HI.out.2.2.2.1
      clear hnt
      cases h1 : rd tab pos 0 0 with
      | none =>
        rw [h1] at HR1
        have HQ : Hid (RlIs w q Y (.returned (.pointer none)) V) := RlIs.no (by rw [HYE.out, HI.out.2.1, hk1, dpR_none1 hpl h1]; rfl) HI.out.1.on
        clear h1 hk1 hpl
        go_wp2_with fail
        refine (show Calls Tryz.prog 101 _ _ _ from HR1.out).mono ?_
        rintro e w2 ⟨rfl, rfl⟩
        clear HR1
        simp only [rdV]
        go_wp2
        go_ret
        exact HQ
      | some x1 =>
        obtain ⟨i, mid⟩ := x1
        rw [h1] at HR1
        obtain ⟨b1, b2, b3⟩ := rd_ok h1
        have HR2 : Hid (Calls Tryz.prog 101 #[.slice taa nt tac, .int .i64 (mid : Nat)] V fun e w' => e = .returned (rdV (rd tab mid 0 0)) ∧ w' = V) := rnread_any _ mid tab V HI.out.1.ta.bytes b3
        go_wp2_with fail
        refine (show Calls Tryz.prog 101 _ _ _ from HR1.out).mono ?_
        rintro e w2 ⟨rfl, rfl⟩
        clear HR1
        simp only [rdV]
        cases h2 : rd tab mid 0 0 with
        | none =>
          rw [h2] at HR2
          have HQ : Hid (RlIs w q Y (.returned (.pointer none)) w2) := RlIs.no (by rw [HYE.out, HI.out.2.1, hk1, dpR_none2 hpl h1 h2]; rfl) HI.out.1.on
          have HQ2 : Hid (RlIs w q Y (.returned (.pointer none)) w2.drew) := RlIs.no (by rw [HYE.out, HI.out.2.1, hk1, dpR_none2 hpl h1 h2]; rfl) HI.out.1.on.drew
          clear h1 h2 hk1 hpl HQ
          go_wp2_with fail
          refine (show Calls Tryz.prog 101 _ _ _ from HR2.out).mono ?_
          rintro e w3 ⟨rfl, rfl⟩
          clear HR2
          simp only [rdV]
          go_wp2_with fail
          refine wp_region_held_drew (S := fun w2 => Only (fun b => b = R + 1) w3 w2) (by kernel_rfl) ((Only.refl _ w3).drew) (fun hHeld => ?_)
          refine t8 (i := 0) (v := .int .i64 9) rfl hHeld ?_
          simp only [Act.put, z9]
          refine t8 (i := 1) (v := .bool true) rfl hHeld ?_
          simp only [Act.put, z9]
          refine t8 (i := 2) (v := .bool true) rfl hHeld ?_
          simp only [Act.put, z9]
          refine t9 (i := 3) rfl hHeld ?_
          simp only [Act.put, z9]
          refine t9 (i := 4) rfl hHeld ?_
          simp only [Act.put, z9]
          refine t8 (i := 5) (v := .bool true) rfl hHeld ?_
          simp only [Act.put, z9]
          refine t8 (i := 6) (v := .bool true) rfl hHeld ?_
          simp only [Act.put, z9]
          refine t9 (i := 7) rfl hHeld ?_
          simp only [Act.put, z9]
          refine t9 (i := 8) rfl hHeld ?_
          simp only [Act.put, z9]
          refine t9 (i := 9) rfl hHeld ?_
          simp only [Act.put, z9]
          refine t9 (i := 10) rfl hHeld ?_
          simp only [Act.put, z9]
          refine t9 (i := 11) rfl hHeld ?_
          simp only [Act.put, z9]
          refine t9 (i := 12) rfl hHeld ?_
          simp only [Act.put, z9]
          refine t9 (i := 13) rfl hHeld ?_
          simp only [Act.put, z9]
          refine t9 (i := 14) rfl hHeld ?_
          simp only [Act.put, z9]
          refine t9 (i := 15) rfl hHeld ?_
          simp only [Act.put, z9]
          refine t9 (i := 16) rfl hHeld ?_
          simp only [Act.put, z9]
          refine t9 (i := 17) rfl hHeld ?_
          simp only [Act.put, z9]
          refine t9 (i := 18) rfl hHeld ?_
          simp only [Act.put, z9]
          refine t9 (i := 19) rfl hHeld ?_
          simp only [Act.put, z9]
          refine t9 (i := 20) rfl hHeld ?_
          simp only [Act.put, z9]
          refine t9 (i := 21) rfl hHeld ?_
          simp only [Act.put, z9]
          refine t9 (i := 22) rfl hHeld ?_
          simp only [Act.put, z9]
          refine t9 (i := 23) rfl hHeld ?_
          simp only [Act.put, z9]
          refine t9 (i := 24) rfl hHeld ?_
          simp only [Act.put, z9]
          refine t9 (i := 25) rfl hHeld ?_
          simp only [Act.put, z9]
          refine t9 (i := 26) rfl hHeld ?_
          simp only [Act.put, z9]
          refine t9 (i := 27) rfl hHeld ?_
          simp only [Act.put, z9]
          refine t9 (i := 28) rfl hHeld ?_
          simp only [Act.put, z9]
          refine t9 (i := 29) rfl hHeld ?_
          simp only [Act.put, z9]
          refine t9 (i := 30) rfl hHeld ?_
          simp only [Act.put, z9]
          refine t8 (i := 31) (v := .bool true) rfl hHeld ?_
          simp only [Act.put, z9]
          refine t8 (i := 32) (v := .bool true) rfl hHeld ?_
          simp only [Act.put, z9]
          refine t9 (i := 33) rfl hHeld ?_
          simp only [Act.put, z9]
          refine t9 (i := 34) rfl hHeld ?_
          simp only [Act.put, z9]
          refine t9 (i := 35) rfl hHeld ?_
          simp only [Act.put, z9]
          refine t9 (i := 36) rfl hHeld ?_
          simp only [Act.put, z9]
          refine t9 (i := 37) rfl hHeld ?_
          simp only [Act.put, z9]
          refine t8 (i := 38) (v := .bool true) rfl hHeld ?_
          simp only [Act.put, z9]
          refine wpAnyH_done (by kernel_rfl) ?_ _
          go_wp2
          go_ret
          exact HQ2
        | some x2 =>
          obtain ⟨P, z⟩ := x2
          rw [h2] at HR2
          obtain ⟨b4, b5, b6⟩ := rd_ok h2
          go_wp2_with fail
          refine (show Calls Tryz.prog 101 _ _ _ from HR2.out).mono ?_
          rintro e w3 ⟨rfl, rfl⟩
          clear HR2
          simp only [rdV]
          obtain ⟨a9, c9, e9', hkc⟩ := HI.out.1.ks.form
          simp only [Value.slice.injEq] at e9'
          obtain ⟨rfl, rfl, rfl⟩ := e9'
          obtain ⟨n5, hn5⟩ : ∃ n, n = lk.length := ⟨_, rfl⟩
          rw [← hn5] at HI hkc
          have HN5 : Hid (n5 = lk.length) := hn5
          have hn6 : n5 ≤ 728 := by
           have := HI.out.2.2.2.2
           omega
          have HC4 : Hid (∀ wx, Only (fun b => b = R + 1) w3 wx → wx.cell? ⟨R, 4, none⟩ = some (.slice kva n5 kvc)) := fun wx hx => by
           have := hx.range HI.out.1.bx (fun e => by omega)
           have := this 4 _ rfl
           simpa using this
          have HBD : Hid ((728 ≤ i ∨ (i : Int) ≤ lastI (lk.map RPg.p) ∨ tkOk N f P = false) → Y = none) := fun hb => by
           rw [HYE.out, HI.out.2.1, hk1, dpR_bad hpl h1 h2 (by rw [← HN.out]; exact hb)]; rfl
          have HDP : Hid (i < 728 → ¬ (i : Int) ≤ lastI (lk.map RPg.p) → tkOk N f P = true → ∀ D, ldD d P (3 + 256 * i) = some D → Z = dpR d tab k1' (fun j => f j || j == P) z (lk.map RPg.p ++ [((i : Int), P, D)])) := fun g1 g2 g3 D hD => by
           rw [HI.out.2.1, hk1]
           exact dpR_go hpl h1 h2 (by rintro (e | e | e) <;> first | omega | (rw [← HN.out, g3] at e; cases e)) hD
          have HDN : Hid (ldD d P (3 + 256 * i) = none → Y = none) := fun hD => by rw [HYE.out, HI.out.2.1, hk1, dpR_not hpl h1 h2 hD]; rfl
          have HKB : Hid (tab.length < z + k1' ∧ z ≤ tab.length ∧ pos < z) := ⟨by have := HI.out.2.2.1; omega, b6, by omega⟩
          have HTk : Hid (Calls Tryz.prog 99 #[.pointer (some ⟨q, 0, none⟩), .slice (some ⟨R + 1, 0, none⟩) N N, .int .u64 (P : Nat)] w3.drew fun e w' => e = .returned (.bool (tkOk N f P)) ∧ Hid ((tkOk N f P = false → w' = w3.drew) ∧ (tkOk N f P = true → FBlk w' (R + 1) N (fun j => f j || j == P) ∧ Only (fun b => b = R + 1) w3.drew w'))) := by
           have hd : Only (fun _ => False) w3 w3.drew := (Only.refl _ w3).drew
           exact take4_any q d.n (R + 1) N P f w3.drew ((HI.out.1.on.trans hd (fun _ _ e => e)).cell HR.out.1.c0 (fun e => e)) HR.out.1.n2 HN.out.symm (HI.out.1.fl.frame hd (fun e => e)) (by omega)
          have HNO : Hid (Y = none → RlIs w q Y (.returned (.pointer none)) w3.drew) := fun hy => RlIs.no hy HI.out.1.on.drew
          clear h1 h2 hk1 hpl hn5 b1 b2 b3 b5 b6
          go_upto_region 27 with fail
          go_cut [175] from 117 to 209 (fun c wx => (c = .bool true ∧ Hid (RlIs w q Y (.returned (.pointer none)) wx)) ∨ (c = .bool false ∧ Hid ((i < 728 ∧ ¬ (i : Int) ≤ lastI (lk.map RPg.p) ∧ tkOk N f P = true) ∧ LpM w wx q R N r x24 (fun j => f j || j == P) at_ tab (.slice tva tvn tvc) (.slice taa nt tac) (.slice kva n5 kvc) lk)))
          case first =>
           refine wp_region_held_drew (S := fun w2 => Only (fun b => b = R + 1) w3 w2) (by kernel_rfl) ((Only.refl _ w3).drew) (fun hHeld => ?_)
           refine t8 (i := 0) (v := .int .i64 0) rfl hHeld ?_
           simp only [Act.put, z9]
           refine t8 (i := 1) (v := .bool false) rfl hHeld ?_
           simp only [Act.put, z9]
           refine t8 (i := 2) (v := .bool false) rfl hHeld ?_
           simp only [Act.put, z9]
           refine t8 (i := 3) (v := .int .u64 (i : Nat)) rfl hHeld ?_
           simp only [Act.put, z9]
           by_cases hi : 728 ≤ i
           ·have hi' : (728 : Int) ≤ (i : Int) := by omega
            refine t8 (i := 4) (v := .bool true) rfl hHeld ?_
            simp only [Act.put, z9]
            refine t8 (i := 5) (v := .bool true) rfl hHeld ?_
            simp only [Act.put, z9]
            refine t8 (i := 6) (v := .bool true) rfl hHeld ?_
            simp only [Act.put, z9]
            refine t9 (i := 7) rfl hHeld ?_
            simp only [Act.put, z9]
            refine t9 (i := 8) rfl hHeld ?_
            simp only [Act.put, z9]
            refine t9 (i := 9) rfl hHeld ?_
            simp only [Act.put, z9]
            refine t9 (i := 10) rfl hHeld ?_
            simp only [Act.put, z9]
            refine t9 (i := 11) rfl hHeld ?_
            simp only [Act.put, z9]
            refine t9 (i := 12) rfl hHeld ?_
            simp only [Act.put, z9]
            refine t9 (i := 13) rfl hHeld ?_
            simp only [Act.put, z9]
            refine t9 (i := 14) rfl hHeld ?_
            simp only [Act.put, z9]
            refine t9 (i := 15) rfl hHeld ?_
            simp only [Act.put, z9]
            refine t9 (i := 16) rfl hHeld ?_
            simp only [Act.put, z9]
            refine t9 (i := 17) rfl hHeld ?_
            simp only [Act.put, z9]
            refine t9 (i := 18) rfl hHeld ?_
            simp only [Act.put, z9]
            refine t9 (i := 19) rfl hHeld ?_
            simp only [Act.put, z9]
            refine t9 (i := 20) rfl hHeld ?_
            simp only [Act.put, z9]
            refine t9 (i := 21) rfl hHeld ?_
            simp only [Act.put, z9]
            refine t9 (i := 22) rfl hHeld ?_
            simp only [Act.put, z9]
            refine t9 (i := 23) rfl hHeld ?_
            simp only [Act.put, z9]
            refine t9 (i := 24) rfl hHeld ?_
            simp only [Act.put, z9]
            refine t9 (i := 25) rfl hHeld ?_
            simp only [Act.put, z9]
            refine t9 (i := 26) rfl hHeld ?_
            simp only [Act.put, z9]
            refine t9 (i := 27) rfl hHeld ?_
            simp only [Act.put, z9]
            refine t9 (i := 28) rfl hHeld ?_
            simp only [Act.put, z9]
            refine t9 (i := 29) rfl hHeld ?_
            simp only [Act.put, z9]
            refine t9 (i := 30) rfl hHeld ?_
            simp only [Act.put, z9]
            refine t8 (i := 31) (v := .bool true) rfl hHeld ?_
            simp only [Act.put, z9]
            refine t8 (i := 32) (v := .bool true) rfl hHeld ?_
            simp only [Act.put, z9]
            refine t9 (i := 33) rfl hHeld ?_
            simp only [Act.put, z9]
            refine t9 (i := 34) rfl hHeld ?_
            simp only [Act.put, z9]
            refine t9 (i := 35) rfl hHeld ?_
            simp only [Act.put, z9]
            refine t9 (i := 36) rfl hHeld ?_
            simp only [Act.put, z9]
            refine t9 (i := 37) rfl hHeld ?_
            simp only [Act.put, z9]
            refine t8 (i := 38) (v := .bool true) rfl hHeld ?_
            simp only [Act.put, z9]
            refine wpAnyH_done (by kernel_rfl) ?_ _
            first | go_meet | (go_wp2; go_meet)
            exact .inl ⟨rfl, HNO.out (HBD.out (.inl hi))⟩
           ·have hi' : ¬ (728 : Int) ≤ (i : Int) := by omega
            refine t8 (i := 4) (v := .bool false) rfl hHeld ?_
            simp only [Act.put, z9]
            refine t8 (i := 5) (v := .bool false) rfl hHeld ?_
            simp only [Act.put, z9]
            refine t8 (i := 6) (v := .bool false) rfl hHeld ?_
            simp only [Act.put, z9]
            refine t8 (i := 7) (v := .pointer (some ⟨R, 0, none⟩)) rfl hHeld ?_
            simp only [Act.put, z9]
            refine t8 (i := 8) (v := .pointer (some ⟨R, 0, none⟩)) rfl hHeld ?_
            simp only [Act.put, z9]
            refine t8 (i := 9) (v := .pointer (some ⟨R, 4, none⟩)) rfl hHeld ?_
            simp only [Act.put, z9]
            refine t8 (i := 10) (v := .slice kva n5 kvc) rfl hHeld ?_ (Or.inl ⟨by rfl, fun wx hSw => by have hc := HC4.out wx hSw; go_simp⟩)
            simp only [Act.put, z9]
            refine t8 (i := 11) (v := .int .i64 (n5 : Nat)) rfl hHeld ?_
            simp only [Act.put, z9]
            by_cases hz5 : n5 = 0
            ·have hz5' : ¬ (0 : Int) < (n5 : Int) := by omega
             have hle : ¬ (i : Int) ≤ lastI (lk.map RPg.p) := by
              have : lk = [] := List.eq_nil_of_length_eq_zero (by have := HN5.out; omega)
              rw [this]
              simp [lastI]
              omega
             refine t8 (i := 12) (v := .bool false) rfl hHeld ?_
             simp only [Act.put, z9]
             refine t8 (i := 13) (v := .bool false) rfl hHeld ?_
             simp only [Act.put, z9]
             refine t9 (i := 14) rfl hHeld ?_
             simp only [Act.put, z9]
             refine t9 (i := 15) rfl hHeld ?_
             simp only [Act.put, z9]
             refine t9 (i := 16) rfl hHeld ?_
             simp only [Act.put, z9]
             refine t9 (i := 17) rfl hHeld ?_
             simp only [Act.put, z9]
             refine t9 (i := 18) rfl hHeld ?_
             simp only [Act.put, z9]
             refine t9 (i := 19) rfl hHeld ?_
             simp only [Act.put, z9]
             refine t9 (i := 20) rfl hHeld ?_
             simp only [Act.put, z9]
             refine t9 (i := 21) rfl hHeld ?_
             simp only [Act.put, z9]
             refine t9 (i := 22) rfl hHeld ?_
             simp only [Act.put, z9]
             refine t9 (i := 23) rfl hHeld ?_
             simp only [Act.put, z9]
             refine t9 (i := 24) rfl hHeld ?_
             simp only [Act.put, z9]
             refine t9 (i := 25) rfl hHeld ?_
             simp only [Act.put, z9]
             refine t9 (i := 26) rfl hHeld ?_
             simp only [Act.put, z9]
             refine t9 (i := 27) rfl hHeld ?_
             simp only [Act.put, z9]
             refine t9 (i := 28) rfl hHeld ?_
             simp only [Act.put, z9]
             refine t9 (i := 29) rfl hHeld ?_
             simp only [Act.put, z9]
             refine t8 (i := 30) (v := .bool false) rfl hHeld ?_
             simp only [Act.put, z9]
             refine t8 (i := 31) (v := .bool false) rfl hHeld ?_
             simp only [Act.put, z9]
             refine t8 (i := 32) (v := .bool false) rfl hHeld ?_
             simp only [Act.put, z9]
             refine t8 (i := 33) (v := .pointer (some ⟨q, 0, none⟩)) rfl hHeld ?_
             simp only [Act.put, z9]
             refine t8 (i := 34) (v := .slice (some ⟨R + 1, 0, none⟩) N N) rfl hHeld ?_
             simp only [Act.put, z9]
             refine t8 (i := 35) (v := .int .u64 (P : Nat)) rfl hHeld ?_
             simp only [Act.put, z9]
             cases htk : tkOk N f P with
             | false =>
               rw [htk] at HTk
               refine wpAnyH_ready (rs := [36]) (by kernel_rfl) (by simp) ?_
               refine AllReadyH.cons rfl (fun K hK => ?_) AllReadyH.nil
               rw [if_pos (by rfl)]
               refine wp_call_func #[.tmp 170, .tmp 171, .tmp 172] #[28, 38, 49] rfl #[.pointer (some ⟨q, 0, none⟩), .slice (some ⟨R + 1, 0, none⟩) N N, .int .u64 (P : Nat)] (by simp [Act.eval]) (enters_of Tryz.func99 (by kernel_rfl) rfl) (show Calls Tryz.prog 99 _ _ _ from HTk.out) (fun e w2 he4 => ?_)
               obtain ⟨rfl, hw2⟩ := he4
               have hw3 := hw2.out.1 (by first | rfl | trivial)
               subst hw3
               have hS2 : Only (fun b => b = R + 1) w3 w3.drew := (Only.refl _ w3).drew
               refine ⟨_, rfl, hK _ _ hS2 (fun hHeld => ?_)⟩
               clear hK K
               simp only [Act.put, z9]
               refine t8 (i := 37) (v := .bool true) rfl hHeld ?_
               simp only [Act.put, z9]
               refine t8 (i := 38) (v := .bool true) rfl hHeld ?_
               simp only [Act.put, z9]
               refine wpAnyH_done (by kernel_rfl) ?_ _
               first | go_meet | (go_wp2; go_meet)
               exact .inl ⟨rfl, HNO.out (HBD.out (.inr (.inr htk)))⟩
             | true =>
               rw [htk] at HTk
               refine wpAnyH_ready (rs := [36]) (by kernel_rfl) (by simp) ?_
               refine AllReadyH.cons rfl (fun K hK => ?_) AllReadyH.nil
               rw [if_pos (by rfl)]
               refine wp_call_func #[.tmp 170, .tmp 171, .tmp 172] #[28, 38, 49] rfl #[.pointer (some ⟨q, 0, none⟩), .slice (some ⟨R + 1, 0, none⟩) N N, .int .u64 (P : Nat)] (by simp [Act.eval]) (enters_of Tryz.func99 (by kernel_rfl) rfl) (show Calls Tryz.prog 99 _ _ _ from HTk.out) (fun e w2 he4 => ?_)
               obtain ⟨rfl, hw2⟩ := he4
               have hS2 : Only (fun b => b = R + 1) w3 w2 := ((Only.refl _ w3).drew).trans (hw2.out.2 (by first | rfl | trivial)).2 (fun _ _ e => e)
               refine ⟨_, rfl, hK _ _ hS2 (fun hHeld => ?_)⟩
               clear hK K
               simp only [Act.put, z9]
               refine t8 (i := 37) (v := .bool false) rfl hHeld ?_
               simp only [Act.put, z9]
               refine t8 (i := 38) (v := .bool false) rfl hHeld ?_
               simp only [Act.put, z9]
               refine wpAnyH_done (by kernel_rfl) ?_ _
               first | go_meet | (go_wp2; go_meet)
               exact .inr ⟨rfl, ⟨by omega, hle, htk⟩, (HI.out.1.still ((Only.refl _ w3).drew)).took (hw2.out.2 (by first | rfl | trivial)).2 (hw2.out.2 (by first | rfl | trivial)).1⟩
            ·skip
             have hn5 := HN5.out
             have hn0 : 0 < n5 := by
              have hl0 : n5 = 0 → lastI (lk.map RPg.p) = -1 := fun e => by
               have : lk = [] := List.eq_nil_of_length_eq_zero (by omega)
               rw [this]
               rfl
              omega
             obtain ⟨g5, rfl, z0, z1, z2⟩ := HI.out.1.ks.at (n5 - 1) (by omega)
             obtain ⟨L5, hL5⟩ : ∃ L, L = lastI (lk.map RPg.p) := ⟨_, rfl⟩
             have hLv : (lk[n5 - 1]'(by omega)).i = L5 := by
              rw [hL5, lastI_map lk (by omega)]
              congr 1
              simp only [hn5]
             rw [hLv] at z0
             have HC5 : Hid (∀ wx, Only (fun b => b = R + 1) w3 wx → wx.cell? ⟨g5, (n5 - 1) * 3, none⟩ = some (.int .i64 L5)) := fun wx hx => hx.cell z0 (fun e => by
              have e2 : g5 = R + 1 := e
              have := HI.out.1.ks.lt g5 (by simp [Value.ownBlock])
              omega)
             have hn0' : (0 : Int) < (n5 : Int) := by omega
             have en1 : IntKind.i64.wrap ((n5 : Int) - 1) = ((n5 - 1 : Nat) : Int) := by rw [IntKind.wrap_i64]; omega
             have ei1 : IntKind.i64.wrap (i : Int) = (i : Int) := by rw [IntKind.wrap_i64]; omega
             have en2 : ((n5 - 1 : Nat) : Int) < (n5 : Int) := by omega
             have en3 : (0 : Int) ≤ ((n5 - 1 : Nat) : Int) := by omega
             clear z0 z1 z2 hLv hn5
             refine t8 (i := 12) (v := .bool true) rfl hHeld ?_
             simp only [Act.put, z9]
             refine t8 (i := 13) (v := .bool true) rfl hHeld ?_
             simp only [Act.put, z9]
             refine t8 (i := 14) (v := .int .u64 (i : Nat)) rfl hHeld ?_
             simp only [Act.put, z9]
             refine t8 (i := 15) (v := .int .i64 (i : Nat)) rfl hHeld ?_
             simp only [Act.put, z9]
             refine t8 (i := 16) (v := .pointer (some ⟨R, 0, none⟩)) rfl hHeld ?_
             simp only [Act.put, z9]
             refine t8 (i := 17) (v := .pointer (some ⟨R, 0, none⟩)) rfl hHeld ?_
             simp only [Act.put, z9]
             refine t8 (i := 18) (v := .pointer (some ⟨R, 4, none⟩)) rfl hHeld ?_
             simp only [Act.put, z9]
             refine t8 (i := 19) (v := .slice (some ⟨g5, 0, none⟩) n5 kvc) rfl hHeld ?_ (Or.inl ⟨by rfl, fun wx hSw => by have hc := HC4.out wx hSw; go_simp⟩)
             simp only [Act.put, z9]
             refine t8 (i := 20) (v := .pointer (some ⟨R, 0, none⟩)) rfl hHeld ?_
             simp only [Act.put, z9]
             refine t8 (i := 21) (v := .pointer (some ⟨R, 0, none⟩)) rfl hHeld ?_
             simp only [Act.put, z9]
             refine t8 (i := 22) (v := .pointer (some ⟨R, 4, none⟩)) rfl hHeld ?_
             simp only [Act.put, z9]
             refine t8 (i := 23) (v := .slice (some ⟨g5, 0, none⟩) n5 kvc) rfl hHeld ?_ (Or.inl ⟨by rfl, fun wx hSw => by have hc := HC4.out wx hSw; go_simp⟩)
             simp only [Act.put, z9]
             refine t8 (i := 24) (v := .int .i64 (n5 : Nat)) rfl hHeld ?_
             simp only [Act.put, z9]
             refine t8 (i := 25) (v := .int .i64 ((n5 - 1 : Nat) : Int)) rfl hHeld ?_
             simp only [Act.put, z9]
             refine t8 (i := 26) (v := .pointer (some ⟨g5, (n5 - 1) * 3, none⟩)) rfl hHeld ?_
             simp only [Act.put, z9]
             refine t8 (i := 27) (v := .pointer (some ⟨g5, (n5 - 1) * 3, none⟩)) rfl hHeld ?_
             simp only [Act.put, z9]
             refine t8 (i := 28) (v := .int .i64 L5) rfl hHeld ?_ (Or.inl ⟨by rfl, fun wx hSw => by have hc := HC5.out wx hSw; go_simp⟩)
             simp only [Act.put, z9]
             have HL5 : Hid (L5 = lastI (lk.map RPg.p)) := hL5
             clear hL5
             by_cases hle : (i : Int) ≤ lastI (lk.map RPg.p)
             ·have hle' : (i : Int) ≤ L5 := by rw [HL5.out]; exact hle
              refine t8 (i := 29) (v := .bool true) rfl hHeld ?_
              simp only [Act.put, z9]
              refine t8 (i := 30) (v := .bool true) rfl hHeld ?_
              simp only [Act.put, z9]
              refine t8 (i := 31) (v := .bool true) rfl hHeld ?_
              simp only [Act.put, z9]
              refine t8 (i := 32) (v := .bool true) rfl hHeld ?_
              simp only [Act.put, z9]
              refine t9 (i := 33) rfl hHeld ?_
              simp only [Act.put, z9]
              refine t9 (i := 34) rfl hHeld ?_
              simp only [Act.put, z9]
              refine t9 (i := 35) rfl hHeld ?_
              simp only [Act.put, z9]
              refine t9 (i := 36) rfl hHeld ?_
              simp only [Act.put, z9]
              refine t9 (i := 37) rfl hHeld ?_
              simp only [Act.put, z9]
              refine t8 (i := 38) (v := .bool true) rfl hHeld ?_
              simp only [Act.put, z9]
              refine wpAnyH_done (by kernel_rfl) ?_ _
              first | go_meet | (go_wp2; go_meet)
              exact .inl ⟨rfl, HNO.out (HBD.out (.inr (.inl hle)))⟩
             ·have hgt' : ¬ (i : Int) ≤ L5 := by rw [HL5.out]; exact hle
              refine t8 (i := 29) (v := .bool false) rfl hHeld ?_
              simp only [Act.put, z9]
              refine t8 (i := 30) (v := .bool false) rfl hHeld ?_
              simp only [Act.put, z9]
              refine t8 (i := 31) (v := .bool false) rfl hHeld ?_
              simp only [Act.put, z9]
              refine t8 (i := 32) (v := .bool false) rfl hHeld ?_
              simp only [Act.put, z9]
              refine t8 (i := 33) (v := .pointer (some ⟨q, 0, none⟩)) rfl hHeld ?_
              simp only [Act.put, z9]
              refine t8 (i := 34) (v := .slice (some ⟨R + 1, 0, none⟩) N N) rfl hHeld ?_
              simp only [Act.put, z9]
              refine t8 (i := 35) (v := .int .u64 (P : Nat)) rfl hHeld ?_
              simp only [Act.put, z9]
              cases htk : tkOk N f P with
              | false =>
                rw [htk] at HTk
                refine wpAnyH_ready (rs := [36]) (by kernel_rfl) (by simp) ?_
                refine AllReadyH.cons rfl (fun K hK => ?_) AllReadyH.nil
                rw [if_pos (by rfl)]
                refine wp_call_func #[.tmp 170, .tmp 171, .tmp 172] #[28, 38, 49] rfl #[.pointer (some ⟨q, 0, none⟩), .slice (some ⟨R + 1, 0, none⟩) N N, .int .u64 (P : Nat)] (by simp [Act.eval]) (enters_of Tryz.func99 (by kernel_rfl) rfl) (show Calls Tryz.prog 99 _ _ _ from HTk.out) (fun e w2 he4 => ?_)
                obtain ⟨rfl, hw2⟩ := he4
                have hw3 := hw2.out.1 (by first | rfl | trivial)
                subst hw3
                have hS2 : Only (fun b => b = R + 1) w3 w3.drew := (Only.refl _ w3).drew
                refine ⟨_, rfl, hK _ _ hS2 (fun hHeld => ?_)⟩
                clear hK K
                simp only [Act.put, z9]
                refine t8 (i := 37) (v := .bool true) rfl hHeld ?_
                simp only [Act.put, z9]
                refine t8 (i := 38) (v := .bool true) rfl hHeld ?_
                simp only [Act.put, z9]
                refine wpAnyH_done (by kernel_rfl) ?_ _
                first | go_meet | (go_wp2; go_meet)
                exact .inl ⟨rfl, HNO.out (HBD.out (.inr (.inr htk)))⟩
              | true =>
                rw [htk] at HTk
                refine wpAnyH_ready (rs := [36]) (by kernel_rfl) (by simp) ?_
                refine AllReadyH.cons rfl (fun K hK => ?_) AllReadyH.nil
                rw [if_pos (by rfl)]
                refine wp_call_func #[.tmp 170, .tmp 171, .tmp 172] #[28, 38, 49] rfl #[.pointer (some ⟨q, 0, none⟩), .slice (some ⟨R + 1, 0, none⟩) N N, .int .u64 (P : Nat)] (by simp [Act.eval]) (enters_of Tryz.func99 (by kernel_rfl) rfl) (show Calls Tryz.prog 99 _ _ _ from HTk.out) (fun e w2 he4 => ?_)
                obtain ⟨rfl, hw2⟩ := he4
                have hS2 : Only (fun b => b = R + 1) w3 w2 := ((Only.refl _ w3).drew).trans (hw2.out.2 (by first | rfl | trivial)).2 (fun _ _ e => e)
                refine ⟨_, rfl, hK _ _ hS2 (fun hHeld => ?_)⟩
                clear hK K
                simp only [Act.put, z9]
                refine t8 (i := 37) (v := .bool false) rfl hHeld ?_
                simp only [Act.put, z9]
                refine t8 (i := 38) (v := .bool false) rfl hHeld ?_
                simp only [Act.put, z9]
                refine wpAnyH_done (by kernel_rfl) ?_ _
                first | go_meet | (go_wp2; go_meet)
                exact .inr ⟨rfl, ⟨by omega, hle, htk⟩, (HI.out.1.still ((Only.refl _ w3).drew)).took (hw2.out.2 (by first | rfl | trivial)).2 (hw2.out.2 (by first | rfl | trivial)).1⟩
          case rest =>
           clear HTk HC4 HNO HBD
           rcases hcut with ⟨rfl, HQ⟩ | ⟨rfl, HT⟩
           ·go_wp2
            go_ret
            exact HQ
           ·have ht9 : 2 ≤ P ∧ P < N := by
             have := HT.out.1.2.2
             simp only [tkOk, Bool.and_eq_true, decide_eq_true_eq] at this
             exact this.1
            obtain ⟨hP2, hPN⟩ := ht9
            have hi7 := HT.out.1.1
            have HL4 : Hid (LpM w wc q R N r x24 (fun j => f j || j == P) at_ tab (.slice tva tvn tvc) (.slice taa nt tac) (.slice kva n5 kvc) lk) := HT.out.2
            have HRp : Hid (Calls Tryz.prog 100 #[.pointer (some ⟨q, 0, none⟩), .int .i64 (P : Nat)] wc fun e w' => UnpIs (unp (pgN d P 4)) wc e w') := by
             obtain ⟨g1, g2, g3, g4, g5'⟩ := HR.out
             exact rpread_in q K B P rv rs d wc (g1.frame HL4.out.on (fun _ _ e => e)) (by have := HN.out; omega) g4 g3 g2 g5'
            have eP : IntKind.i64.wrap (P : Int) = (P : Int) := by rw [IntKind.wrap_i64]; omega
            cases hu : unp (pgN d P 4) with
            | none =>
              rw [hu] at HRp
              have HYn : Hid (Y = none) := HDN.out (by simp only [ldD, hu])
              clear hu
              go_wp2_with fail
              refine (show Calls Tryz.prog 100 _ _ _ from HRp.out).mono ?_
              rintro e w4 ⟨rfl, ho4⟩
              have HQ : Hid (RlIs w q Y (.returned (.pointer none)) w4) := RlIs.no HYn.out (HL4.out.on.trans ho4 (fun _ _ e => e))
              clear HRp ho4
              go_wp2
              go_ret
              exact HQ
            | some y =>
              obtain ⟨id, D⟩ := y
              rw [hu] at HRp
              have e256 : IntKind.u64.wrap (256 * (i : Int)) = ((256 * i : Nat) : Int) := by rw [IntKind.wrap_u64]; omega
              have e3 : IntKind.u64.wrap (3 + ((256 * i : Nat) : Int)) = ((3 + 256 * i : Nat) : Int) := by rw [IntKind.wrap_u64]; omega
              have e32 : IntKind.u32.wrap ((3 + 256 * i : Nat) : Int) = ((3 + 256 * i : Nat) : Int) := by rw [IntKind.wrap_u32]; omega
              by_cases hid : id = 3 + 256 * i
              ·subst hid
               have hLD : ldD d P (3 + 256 * i) = some D := by simp only [ldD, hu, if_true]
               have HZN := HDP.out HT.out.1.1 HT.out.1.2.1 HT.out.1.2.2 D hLD
               have HZ2 : Hid _ := HZN
               clear hu hLD HZN
               go_wp2_with fail
               refine (show Calls Tryz.prog 100 _ _ _ from HRp.out).mono ?_
               rintro e w4 ⟨u, rfl, hfr, ho4⟩
               have HL5 : Hid (LpM w w4 q R N r x24 (fun j => f j || j == P) at_ tab (.slice tva tvn tvc) (.slice taa nt tac) (.slice kva n5 kvc) lk) := HL4.out.still ho4
               obtain ⟨au, cu, rfl⟩ := hfr.form
               have HPG := HL5.out.page i P hfr.bytes (fun b e => by
                have l1 := own_lt hfr b e
                refine ⟨l1.2, fun e' => ?_⟩
                have hs := HL4.out.sz
                rcases e' with (e' | e' | e') | e'
                ·omega
                ·have := (HL4.out.tb.1.lt b e').2; omega
                ·have := (HL4.out.ta.1.lt b e').2; omega
                ·have := (HL4.out.ks.lt b e').2; omega) (by have := HN5.out; omega)
               obtain ⟨a6, cap6, w6, hr6, hc6, hL6⟩ := HPG
               obtain ⟨n6, hn6'⟩ : ∃ n, n = lk.length + 1 := ⟨_, rfl⟩
               rw [← hn6'] at hr6 hL6
               obtain ⟨n3, hn3⟩ : ∃ n, n = D.length := ⟨_, rfl⟩
               rw [← hn3] at hr6 hL6
               rw [← hn3]
               have HR6 : Hid _ := hr6
               have c4 : w4.cell? ⟨R, 4, none⟩ = some (.slice kva n5 kvc) := by have := HL5.out.bx 4 _ rfl; simpa using this
               obtain ⟨c64, f64⟩ := hc6 4 _ (by omega) rfl
               have HNW : Hid (LpM w (w6.setCell ⟨R, 4, none⟩ (.slice a6 n6 cap6)) q R N r x24 (fun j => f j || j == P) at_ tab (.slice tva tvn tvc) (.slice taa nt tac) (.slice a6 n6 cap6) (lk ++ [(⟨(i : Int), P, D, .slice au n3 cu⟩ : RPg)]) ∧ Z = dpR d tab k1' (fun j => f j || j == P) z ((lk ++ [(⟨(i : Int), P, D, .slice au n3 cu⟩ : RPg)]).map RPg.p) ∧ tab.length < z + k1' ∧ z ≤ tab.length ∧ ((lk ++ [(⟨(i : Int), P, D, .slice au n3 cu⟩ : RPg)]).length : Int) ≤ lastI ((lk ++ [(⟨(i : Int), P, D, .slice au n3 cu⟩ : RPg)]).map RPg.p) + 1 ∧ lastI ((lk ++ [(⟨(i : Int), P, D, .slice au n3 cu⟩ : RPg)]).map RPg.p) ≤ 727) := by
                have hlast : lastI ((lk ++ [(⟨(i : Int), P, D, .slice au n3 cu⟩ : RPg)]).map RPg.p) = (i : Int) := by rw [List.map_append]; exact lastI_snoc _ _
                refine ⟨hL6, ?_, HKB.out.1, HKB.out.2.1, ?_, ?_⟩
                ·rw [List.map_append]; exact HZ2.out
                ·rw [hlast]
                 have := HI.out.2.2.2.2.1
                 have := HT.out.1.2.1
                 have := HN5.out
                 simp only [List.length_append, List.length_cons, List.length_nil]
                 omega
                ·rw [hlast]; omega
               have ei2 : IntKind.i64.wrap (i : Int) = (i : Int) := by rw [IntKind.wrap_i64]; omega
               clear HRp ho4 hfr hr6 hL6 hc6 hn6' hn3
               go_wp2_with (at_builtin; refine wpList_append_run rfl _ _ 95 rfl _ _ (.slice a6 n6 cap6) rfl rfl HR6.out ?_)
               go_roundw
               case rel => exact ⟨z, rfl, _, _, _, _, _, _, HNW.out⟩
               case measure => simp [intOf]; have := HKB.out; have := HNT.out; omega
              ·have HYn : Hid (Y = none) := HDN.out (by simp only [ldD, hu]; exact if_neg hid)
               have hid' : ¬ (id : Int) = ((3 + 256 * i : Nat) : Int) := by omega
               clear hu
               go_wp2_with fail
               refine (show Calls Tryz.prog 100 _ _ _ from HRp.out).mono ?_
               rintro e w4 ⟨u, rfl, hfr, ho4⟩
               have HQ : Hid (RlIs w q Y (.returned (.pointer none)) w4) := RlIs.no HYn.out (HL4.out.on.trans ho4 (fun _ _ e => e))
               clear HRp ho4 hfr hid
               go_wp2
               go_ret
               exact HQ
     ·have p1 : ¬ (pos : Int) < (nt : Int) := by omega
      obtain ⟨k1', hk1⟩ : ∃ k1, k = k1 + 1 := ⟨k - 1, by have := HI.out.2.2.1; have := HI.out.2.2.2.1; omega⟩
      have hZE : Z = some (lk.map RPg.p) := by rw [HI.out.2.1, hk1]; exact dpR_end (by have := HNT.out; omega)
      have hYs : Y = some (F (lk.map RPg.p)) := by rw [HYE.out, hZE]; rfl
      obtain ⟨a9, c9, e9', hkc⟩ := HI.out.1.ks.form
      simp only [Value.slice.injEq] at e9'
      obtain ⟨rfl, rfl, rfl⟩ := e9'
      have hn6 : lk.length ≤ 728 := by have := HI.out.2.2.2.2; omega
      have HCp : Hid (Calls Tryz.prog 62 _ _ _) := copied_any _ lk _ _ V HI.out.1.ks (by omega)
      have HFI : Hid (∀ (wz : World) (a : Option Addr) (n c : Nat) (ys : List RPg), PgsAt wz V.heap.size (fun k => k < V.heap.size ∨ (Value.slice a n c).ownBlock = some k) (.slice a n c) ys → ys.map RPg.p = lk.map RPg.p → Only (fun _ => False) V wz → RlIs w q Y (.returned (.pointer (some ⟨R, 0, none⟩))) (wz.setCell ⟨R, 5, none⟩ (.slice a n c))) := fun wz a n c ys h1 h2 h3 => by
       have := HI.out.1.done h1 h2 h3 (x := F (lk.map RPg.p)) (by rw [HFF.out]) (by rw [HFF.out]; exact HZR.out _ hZE) (HWfx.out _ hYs)
       rw [hYs]
       exact ⟨this.1, R, _, _, _, lk, ys, rfl, HI.out.1.wR, this.2⟩
      have c4 : V.cell? ⟨R, 4, none⟩ = some (.slice kva lk.length kvc) := by have := HI.out.1.bx 4 _ rfl; simpa using this
      have c5 : ∀ wz, Only (fun _ => False) V wz → wz.cell? ⟨R, 5, none⟩ = some (.slice none 0 0) ∧ wz.frozen? ⟨R, 5, none⟩ = false := fun wz ho => by
       have h1 := ho.range HI.out.1.bx (fun e => e)
       have h2 := ho.there HI.out.1.bt (fun e => e)
       have h3 := h1 5 _ rfl
       have h4 := (h2 5 (by omega)).2
       rw [Nat.zero_add] at h3 h4
       exact ⟨h3, h4⟩
      have C5 : Hid _ := c5
      obtain ⟨n5, hn5⟩ : ∃ n, n = lk.length := ⟨_, rfl⟩
      rw [← hn5] at HCp c4
      clear hZE hYs hk1 hkc hn5 c5 hn6
      go_wp2_with fail
      refine (show Calls Tryz.prog 62 _ _ _ from HCp.out).mono ?_
      rintro e w4 ⟨a4, cc4, ys, rfl, H4⟩
      obtain ⟨c54, f54⟩ := C5.out w4 H4.out.2.2
      have HQ : Hid (RlIs w q Y (.returned (.pointer (some ⟨R, 0, none⟩))) (w4.setCell ⟨R, 5, none⟩ (.slice a4 n5 cc4))) := HFI.out w4 a4 n5 cc4 ys H4.out.1 H4.out.2.1 H4.out.2.2
      clear HCp H4 HFI
      go_wp2
      go_ret
      exact HQ
   ·have hz' : ¬ (nx : Int) = 0 := by omega
    have HQ : Hid (RlIs w q Y (.returned (.pointer none)) W) := RlIs.no (HYX.out.2.1 _ _ _ _ hXE hz) HI.out.1.on
    clear hXE hz
    go_wp2
    go_ret
    exact HQ
end Go.Proofs.YtlcglapcmdpkfaaGreat
