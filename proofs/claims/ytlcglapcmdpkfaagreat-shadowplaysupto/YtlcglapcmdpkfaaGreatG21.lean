import Derived.Test.YtlcglapcmdpkfaaGreatTk
import Derived.Test.YtlcglapcmdpkfaaGreatO2
import Derived.Test.YtlcglapcmdpkfaaGreatD30
import Derived.Test.YtlcglapcmdpkfaaGreatW0
namespace Go.Proofs.YtlcglapcmdpkfaaGreat
open Go.RowKit Go.Maps
set_option linter.unusedSimpArgs false
set_option linter.unusedVariables false
theorem sec_part {w : World} {g p m c : Nat} {f : Nat → Int} (h : w.rangeAt g 0 (secL f)) (hb : Byt f) (hp : p + m ≤ 32) (hc : m ≤ c) : BytesAt w (.slice (some ⟨g, p, none⟩) m c) (((secN f).drop p).take m) := by
 have hl : (((secN f).drop p).take m).length = m := by rw [List.length_take, List.length_drop, secN_length]; omega
 refine ⟨?_, by rw [hl]; omega, fun z hz => secN_lt hb z (List.mem_of_mem_drop (List.mem_of_mem_take hz))⟩
 rw [hl]
 refine .inr ⟨⟨g, p, none⟩, c, rfl, hc, fun j hj => ?_⟩
 rw [Nat.mul_one] at hj
 rw [Addr.add_mid]
 have h1 := h (p + j) _ (secL_get f (p + j) (by omega))
 rw [Nat.zero_add] at h1
 rw [h1]
 have e : (((secN f).drop p).take m).getD j 0 = (f (p + j)).toNat := by
  rw [← secN_getD f (p + j) (by omega)]
  simp [List.getD, List.getElem?_take, hj]
 show some (Value.int IntKind.u8 (f (p + j))) = some (Value.int IntKind.u8 (((((secN f).drop p).take m).getD j 0 : Nat) : Int))
 rw [e]
 have := (hb (p + j)).1
 rw [Int.toNat_of_nonneg this]
theorem laid_sec {w : World} {g p m c : Nat} {f : Nat → Int} (h : w.rangeAt g 0 (secL f)) (hb : Byt f) (hp : p + m ≤ 32) (hc : m ≤ c) (hm : m ≤ 8) :
  Calls Tryz.prog 98 #[.slice (some ⟨g, p, none⟩) m c] w fun e w' => e = .returned (.int .u64 (part (secN f) p m : Nat)) ∧ w' = w :=
 laidk_any _ _ w (sec_part h hb hp hc) (by rw [List.length_take]; omega)
theorem cut_0 (g cap : Nat) (h : 32 ≤ cap) (w : World) : (Instr.slice 37 (.slice (some ⟨g, 0, none⟩) 32 cap) none (some (.int .i64 8)) none).run Tryz.prog w = .ok (.slice (some ⟨g, 0, none⟩) 8 cap) w := by
 have k2 : (8 : Int) ≤ (cap : Int) := by omega
 have k3 : ¬ cap = 0 := by omega
 go_simp
theorem cut_24 (g cap : Nat) (h : 32 ≤ cap) (w : World) : (Instr.slice 37 (.slice (some ⟨g, 0, none⟩) 32 cap) (some (.int .i64 24)) none none).run Tryz.prog w = .ok (.slice (some ⟨g, 24, none⟩) 8 (cap - 24)) w := by
 have k1 : (32 : Int) ≤ (cap : Int) := by omega
 have e2 : ((cap : Int) - 24).toNat = cap - 24 := by omega
 have ec : ¬ cap - 24 = 0 := by omega
 have ec2 : ¬ cap = 24 := by omega
 go_simp
theorem cut_m (g cap a b : Nat) (h : 32 ≤ cap) (hab : a ≤ b) (hb : b ≤ 32) (ha : a < 32) (w : World) : (Instr.slice 37 (.slice (some ⟨g, 0, none⟩) 32 cap) (some (.int .i64 (a : Nat))) (some (.int .i64 (b : Nat))) none).run Tryz.prog w = .ok (.slice (some ⟨g, a, none⟩) (b - a) (cap - a)) w := by
 have k0 : (0 : Int) ≤ (a : Int) := by omega
 have k1 : (a : Int) ≤ (b : Int) := by omega
 have k2 : (b : Int) ≤ (cap : Int) := by omega
 have e1 : ((b : Int) - (a : Int)).toNat = b - a := by omega
 have e2 : ((cap : Int) - (a : Int)).toNat = cap - a := by omega
 have ec : ¬ cap - a = 0 := by omega
 have ec2 : ¬ cap = a := by omega
 go_simp
set_option maxRecDepth 100000 in
set_option maxHeartbeats 4000000 in
theorem rload_bad {w : World} {B q K : Nat} {rv : Value} {rs : List RW} {d : DS} (h : RefAt w B q K rv d rs) (hg : Good d) (hby : ByteD d) (hl : d.life ≠ 0) (hlen : d.pend.length ≤ 140737488351232) (r : Nat) (hr : r = 0 ∨ r = 1) (hn : 4 * r < d.n) (hbad : rtOk (secN (d.sec (4 * r))) = false) :
  Calls Tryz.prog 75 #[.pointer (some ⟨q, 0, none⟩), .int .i64 (r : Nat)] w fun e w' => e = .returned (.pointer none) ∧ Only (fun _ => False) w w' := by
 have HRd : Hid (Calls Tryz.prog 9 #[.pointer (some ⟨q, 0, none⟩), .int .i64 ((4 * r : Nat) : Int)] w fun e w' => RdIsC w w' e (d.sec (4 * r))) := rread_cap h hg hl hlen (4 * r) hn
 have HB : Hid (Byt (d.sec (4 * r))) := hby.sec _
 have e4 : IntKind.i64.wrap (4 * (r : Int)) = ((4 * r : Nat) : Int) := by rw [IntKind.wrap_i64]; omega
 obtain ⟨f, hf⟩ : ∃ f, f = d.sec (4 * r) := ⟨_, rfl⟩
 obtain ⟨R4, hR4⟩ : ∃ f, f = 4 * r := ⟨_, rfl⟩
 rw [← hf] at HRd HB hbad
 rw [← hR4] at HRd e4
 clear h hg hby hl hlen hn hf hR4
 go_enter Tryz.func75, Tryz.ntmps75
 go_wp2_with fail
 refine (show Calls Tryz.prog 9 _ _ _ from HRd.out).mono ?_
 rintro e w1 ⟨g, cap, rfl, hrg, ho, hcap⟩
 clear HRd e4
 have HO : Hid (Only (fun _ => False) w w1) := ho
 have HL : Hid (∀ wx k m c, Only (fun _ => False) w1 wx → k + m ≤ 32 → m ≤ c → m ≤ 8 → Calls Tryz.prog 98 #[.slice (some ⟨g, k, none⟩) m c] wx fun e w' => e = .returned (.int .u64 (part (secN f) k m : Nat)) ∧ w' = wx) := fun wx k m c hx h1 h2 h3 => laid_sec (hx.range hrg (fun e => e)) HB.out h1 h2 h3
 have s0 := cut_0 g cap hcap
 have s24 := cut_24 g cap hcap
 have s16 : ∀ w, (Instr.slice 37 (.slice (some ⟨g, 0, none⟩) 32 cap) (some (.int .i64 16)) (some (.int .i64 24)) none).run Tryz.prog w = .ok (.slice (some ⟨g, 16, none⟩) 8 (cap - 16)) w := fun w => cut_m g cap 16 24 hcap (by omega) (by omega) (by omega) w
 clear hrg ho
 unfold rtOk at hbad
 obtain ⟨x0, h0⟩ : ∃ x, x = part (secN f) 0 8 := ⟨_, rfl⟩
 obtain ⟨x24, h24⟩ : ∃ x, x = part (secN f) 24 8 := ⟨_, rfl⟩
 obtain ⟨x16, h16⟩ : ∃ x, x = part (secN f) 16 8 := ⟨_, rfl⟩
 rw [← h0, ← h24, ← h16] at hbad
 have HL0 : Hid (∀ wx c, Only (fun _ => False) w1 wx → 8 ≤ c → Calls Tryz.prog 98 #[.slice (some ⟨g, 0, none⟩) 8 c] wx fun e w' => e = .returned (.int .u64 (x0 : Nat)) ∧ w' = wx) := fun wx c hx hc => by rw [h0]; exact HL.out wx 0 8 c hx (by omega) hc (by omega)
 have HL24 : Hid (∀ wx c, Only (fun _ => False) w1 wx → 8 ≤ c → Calls Tryz.prog 98 #[.slice (some ⟨g, 24, none⟩) 8 c] wx fun e w' => e = .returned (.int .u64 (x24 : Nat)) ∧ w' = wx) := fun wx c hx hc => by rw [h24]; exact HL.out wx 24 8 c hx (by omega) hc (by omega)
 have HL16 : Hid (∀ wx c, Only (fun _ => False) w1 wx → 8 ≤ c → Calls Tryz.prog 98 #[.slice (some ⟨g, 16, none⟩) 8 c] wx fun e w' => e = .returned (.int .u64 (x16 : Nat)) ∧ w' = wx) := fun wx c hx hc => by rw [h16]; exact HL.out wx 16 8 c hx (by omega) hc (by omega)
 clear HL h0 h24 h16 HB
 go_wp2_with fail
 by_cases c1 : x0 = x24
 ·subst c1
  by_cases c2 : x0 = 0
  ·subst c2
   refine wp_region_held_drew (S := fun w2 => Only (fun _ => False) w1 w2) (by kernel_rfl) ((Only.refl _ w1).drew) (fun hHeld => ?_)
   refine t8 (i := 0) (v := .int .i64 0) rfl hHeld ?_
   simp only [Act.put, z9]
   refine t8 (i := 1) (v := .bool false) rfl hHeld ?_
   simp only [Act.put, z9]
   refine t8 (i := 2) (v := .bool false) rfl hHeld ?_
   simp only [Act.put, z9]
   refine t8 (i := 3) (v := .slice (some ⟨g, 0, none⟩) 32 cap) rfl hHeld ?_
   simp only [Act.put, z9]
   refine t8 (i := 4) (v := .slice (some ⟨g, 0, none⟩) 8 cap) rfl hHeld ?_
   simp only [Act.put, z9]
   refine t8 (i := 6) (v := .slice (some ⟨g, 0, none⟩) 32 cap) rfl hHeld ?_
   simp only [Act.put, z9]
   refine t8 (i := 7) (v := .slice (some ⟨g, 24, none⟩) 8 (cap - 24)) rfl hHeld ?_
   simp only [Act.put, z9]
   refine wpAnyH_ready (rs := [5]) (by kernel_rfl) (by simp) ?_
   refine AllReadyH.cons rfl (fun K hK => ?_) AllReadyH.nil
   rw [if_pos (by rfl)]
   refine wp_call_func #[.tmp 34] #[37] rfl #[.slice (some ⟨g, 0, none⟩) 8 cap] (by simp [Act.eval]) (enters_of Tryz.func98 (by kernel_rfl) rfl) (HL0.out _ cap hHeld (by omega)) (fun e W4 he4 => ?_)
   obtain ⟨rfl, rfl⟩ := he4
   refine ⟨_, rfl, hK _ _ hHeld (fun hHeld => ?_)⟩
   clear hK K
   simp only [Act.put, z9]
   refine wpAnyH_ready (rs := [8]) (by kernel_rfl) (by simp) ?_
   refine AllReadyH.cons rfl (fun K hK => ?_) AllReadyH.nil
   rw [if_pos (by rfl)]
   refine wp_call_func #[.tmp 37] #[37] rfl #[.slice (some ⟨g, 24, none⟩) 8 (cap - 24)] (by simp [Act.eval]) (enters_of Tryz.func98 (by kernel_rfl) rfl) (HL24.out _ (cap - 24) hHeld (by omega)) (fun e W4 he4 => ?_)
   obtain ⟨rfl, rfl⟩ := he4
   refine ⟨_, rfl, hK _ _ hHeld (fun hHeld => ?_)⟩
   clear hK K
   simp only [Act.put, z9]
   refine t8 (i := 9) (v := .bool false) rfl hHeld ?_
   simp only [Act.put, z9]
   refine t8 (i := 10) (v := .bool false) rfl hHeld ?_
   simp only [Act.put, z9]
   refine t8 (i := 11) (v := .bool false) rfl hHeld ?_
   simp only [Act.put, z9]
   refine t8 (i := 12) (v := .slice (some ⟨g, 0, none⟩) 32 cap) rfl hHeld ?_
   simp only [Act.put, z9]
   refine t8 (i := 13) (v := .slice (some ⟨g, 0, none⟩) 8 cap) rfl hHeld ?_
   simp only [Act.put, z9]
   refine wpAnyH_ready (rs := [14]) (by kernel_rfl) (by simp) ?_
   refine AllReadyH.cons rfl (fun K hK => ?_) AllReadyH.nil
   rw [if_pos (by rfl)]
   refine wp_call_func #[.tmp 43] #[37] rfl #[.slice (some ⟨g, 0, none⟩) 8 cap] (by simp [Act.eval]) (enters_of Tryz.func98 (by kernel_rfl) rfl) (HL0.out _ cap hHeld (by omega)) (fun e W4 he4 => ?_)
   obtain ⟨rfl, rfl⟩ := he4
   refine ⟨_, rfl, hK _ _ hHeld (fun hHeld => ?_)⟩
   clear hK K
   simp only [Act.put, z9]
   refine t8 (i := 15) (v := .bool true) rfl hHeld ?_
   simp only [Act.put, z9]
   refine t8 (i := 16) (v := .bool true) rfl hHeld ?_
   simp only [Act.put, z9]
   refine t8 (i := 17) (v := .bool true) rfl hHeld ?_
   simp only [Act.put, z9]
   refine t9 (i := 18) rfl hHeld ?_
   simp only [Act.put, z9]
   refine t9 (i := 19) rfl hHeld ?_
   simp only [Act.put, z9]
   refine t9 (i := 20) rfl hHeld ?_
   simp only [Act.put, z9]
   refine t9 (i := 21) rfl hHeld ?_
   simp only [Act.put, z9]
   refine t8 (i := 22) (v := .bool true) rfl hHeld ?_
   simp only [Act.put, z9]
   refine wpAnyH_done (by kernel_rfl) ?_ _
   have HQ : Hid (Only (fun _ => False) w w1.drew) := HO.out.drew
   clear hHeld
   go_wp2
   go_ret
   exact ⟨rfl, HQ.out⟩
  ·have c2' : ¬ (x0 : Int) = 0 := by omega
   have c3 : ¬ x16 = 0 := fun e => by subst e; simp [c2] at hbad
   have c3' : ¬ (x16 : Int) = 0 := by omega
   refine wp_region_held_drew (S := fun w2 => Only (fun _ => False) w1 w2) (by kernel_rfl) ((Only.refl _ w1).drew) (fun hHeld => ?_)
   refine t8 (i := 0) (v := .int .i64 0) rfl hHeld ?_
   simp only [Act.put, z9]
   refine t8 (i := 1) (v := .bool false) rfl hHeld ?_
   simp only [Act.put, z9]
   refine t8 (i := 2) (v := .bool false) rfl hHeld ?_
   simp only [Act.put, z9]
   refine t8 (i := 3) (v := .slice (some ⟨g, 0, none⟩) 32 cap) rfl hHeld ?_
   simp only [Act.put, z9]
   refine t8 (i := 4) (v := .slice (some ⟨g, 0, none⟩) 8 cap) rfl hHeld ?_
   simp only [Act.put, z9]
   refine t8 (i := 6) (v := .slice (some ⟨g, 0, none⟩) 32 cap) rfl hHeld ?_
   simp only [Act.put, z9]
   refine t8 (i := 7) (v := .slice (some ⟨g, 24, none⟩) 8 (cap - 24)) rfl hHeld ?_
   simp only [Act.put, z9]
   refine wpAnyH_ready (rs := [5]) (by kernel_rfl) (by simp) ?_
   refine AllReadyH.cons rfl (fun K hK => ?_) AllReadyH.nil
   rw [if_pos (by rfl)]
   refine wp_call_func #[.tmp 34] #[37] rfl #[.slice (some ⟨g, 0, none⟩) 8 cap] (by simp [Act.eval]) (enters_of Tryz.func98 (by kernel_rfl) rfl) (HL0.out _ cap hHeld (by omega)) (fun e W4 he4 => ?_)
   obtain ⟨rfl, rfl⟩ := he4
   refine ⟨_, rfl, hK _ _ hHeld (fun hHeld => ?_)⟩
   clear hK K
   simp only [Act.put, z9]
   refine wpAnyH_ready (rs := [8]) (by kernel_rfl) (by simp) ?_
   refine AllReadyH.cons rfl (fun K hK => ?_) AllReadyH.nil
   rw [if_pos (by rfl)]
   refine wp_call_func #[.tmp 37] #[37] rfl #[.slice (some ⟨g, 24, none⟩) 8 (cap - 24)] (by simp [Act.eval]) (enters_of Tryz.func98 (by kernel_rfl) rfl) (HL24.out _ (cap - 24) hHeld (by omega)) (fun e W4 he4 => ?_)
   obtain ⟨rfl, rfl⟩ := he4
   refine ⟨_, rfl, hK _ _ hHeld (fun hHeld => ?_)⟩
   clear hK K
   simp only [Act.put, z9]
   refine t8 (i := 9) (v := .bool false) rfl hHeld ?_
   simp only [Act.put, z9]
   refine t8 (i := 10) (v := .bool false) rfl hHeld ?_
   simp only [Act.put, z9]
   refine t8 (i := 11) (v := .bool false) rfl hHeld ?_
   simp only [Act.put, z9]
   refine t8 (i := 12) (v := .slice (some ⟨g, 0, none⟩) 32 cap) rfl hHeld ?_
   simp only [Act.put, z9]
   refine t8 (i := 13) (v := .slice (some ⟨g, 0, none⟩) 8 cap) rfl hHeld ?_
   simp only [Act.put, z9]
   refine wpAnyH_ready (rs := [14]) (by kernel_rfl) (by simp) ?_
   refine AllReadyH.cons rfl (fun K hK => ?_) AllReadyH.nil
   rw [if_pos (by rfl)]
   refine wp_call_func #[.tmp 43] #[37] rfl #[.slice (some ⟨g, 0, none⟩) 8 cap] (by simp [Act.eval]) (enters_of Tryz.func98 (by kernel_rfl) rfl) (HL0.out _ cap hHeld (by omega)) (fun e W4 he4 => ?_)
   obtain ⟨rfl, rfl⟩ := he4
   refine ⟨_, rfl, hK _ _ hHeld (fun hHeld => ?_)⟩
   clear hK K
   simp only [Act.put, z9]
   refine t8 (i := 15) (v := .bool false) rfl hHeld ?_
   simp only [Act.put, z9]
   refine t8 (i := 16) (v := .bool false) rfl hHeld ?_
   simp only [Act.put, z9]
   refine t8 (i := 17) (v := .bool false) rfl hHeld ?_
   simp only [Act.put, z9]
   refine t8 (i := 18) (v := .slice (some ⟨g, 0, none⟩) 32 cap) rfl hHeld ?_
   simp only [Act.put, z9]
   refine t8 (i := 19) (v := .slice (some ⟨g, 16, none⟩) 8 (cap - 16)) rfl hHeld ?_
   simp only [Act.put, z9]
   refine wpAnyH_ready (rs := [20]) (by kernel_rfl) (by simp) ?_
   refine AllReadyH.cons rfl (fun K hK => ?_) AllReadyH.nil
   rw [if_pos (by rfl)]
   refine wp_call_func #[.tmp 49] #[37] rfl #[.slice (some ⟨g, 16, none⟩) 8 (cap - 16)] (by simp [Act.eval]) (enters_of Tryz.func98 (by kernel_rfl) rfl) (HL16.out _ (cap - 16) hHeld (by omega)) (fun e W4 he4 => ?_)
   obtain ⟨rfl, rfl⟩ := he4
   refine ⟨_, rfl, hK _ _ hHeld (fun hHeld => ?_)⟩
   clear hK K
   simp only [Act.put, z9]
   refine t8 (i := 21) (v := .bool true) rfl hHeld ?_
   simp only [Act.put, z9]
   refine t8 (i := 22) (v := .bool true) rfl hHeld ?_
   simp only [Act.put, z9]
   refine wpAnyH_done (by kernel_rfl) ?_ _
   have HQ : Hid (Only (fun _ => False) w w1.drew) := HO.out.drew
   clear hHeld
   go_wp2
   go_ret
   exact ⟨rfl, HQ.out⟩
 ·have c1' : ¬ (x0 : Int) = (x24 : Int) := by omega
  refine wp_region_held_drew (S := fun w2 => Only (fun _ => False) w1 w2) (by kernel_rfl) ((Only.refl _ w1).drew) (fun hHeld => ?_)
  refine t8 (i := 0) (v := .int .i64 0) rfl hHeld ?_
  simp only [Act.put, z9]
  refine t8 (i := 1) (v := .bool false) rfl hHeld ?_
  simp only [Act.put, z9]
  refine t8 (i := 2) (v := .bool false) rfl hHeld ?_
  simp only [Act.put, z9]
  refine t8 (i := 3) (v := .slice (some ⟨g, 0, none⟩) 32 cap) rfl hHeld ?_
  simp only [Act.put, z9]
  refine t8 (i := 4) (v := .slice (some ⟨g, 0, none⟩) 8 cap) rfl hHeld ?_
  simp only [Act.put, z9]
  refine t8 (i := 6) (v := .slice (some ⟨g, 0, none⟩) 32 cap) rfl hHeld ?_
  simp only [Act.put, z9]
  refine t8 (i := 7) (v := .slice (some ⟨g, 24, none⟩) 8 (cap - 24)) rfl hHeld ?_
  simp only [Act.put, z9]
  refine wpAnyH_ready (rs := [5]) (by kernel_rfl) (by simp) ?_
  refine AllReadyH.cons rfl (fun K hK => ?_) AllReadyH.nil
  rw [if_pos (by rfl)]
  refine wp_call_func #[.tmp 34] #[37] rfl #[.slice (some ⟨g, 0, none⟩) 8 cap] (by simp [Act.eval]) (enters_of Tryz.func98 (by kernel_rfl) rfl) (HL0.out _ cap hHeld (by omega)) (fun e W4 he4 => ?_)
  obtain ⟨rfl, rfl⟩ := he4
  refine ⟨_, rfl, hK _ _ hHeld (fun hHeld => ?_)⟩
  clear hK K
  simp only [Act.put, z9]
  refine wpAnyH_ready (rs := [8]) (by kernel_rfl) (by simp) ?_
  refine AllReadyH.cons rfl (fun K hK => ?_) AllReadyH.nil
  rw [if_pos (by rfl)]
  refine wp_call_func #[.tmp 37] #[37] rfl #[.slice (some ⟨g, 24, none⟩) 8 (cap - 24)] (by simp [Act.eval]) (enters_of Tryz.func98 (by kernel_rfl) rfl) (HL24.out _ (cap - 24) hHeld (by omega)) (fun e W4 he4 => ?_)
  obtain ⟨rfl, rfl⟩ := he4
  refine ⟨_, rfl, hK _ _ hHeld (fun hHeld => ?_)⟩
  clear hK K
  simp only [Act.put, z9]
  refine t8 (i := 9) (v := .bool true) rfl hHeld ?_
  simp only [Act.put, z9]
  refine t8 (i := 10) (v := .bool true) rfl hHeld ?_
  simp only [Act.put, z9]
  refine t8 (i := 11) (v := .bool true) rfl hHeld ?_
  simp only [Act.put, z9]
  refine t9 (i := 12) rfl hHeld ?_
  simp only [Act.put, z9]
  refine t9 (i := 13) rfl hHeld ?_
  simp only [Act.put, z9]
  refine t9 (i := 14) rfl hHeld ?_
  simp only [Act.put, z9]
  refine t9 (i := 15) rfl hHeld ?_
  simp only [Act.put, z9]
  refine t8 (i := 16) (v := .bool true) rfl hHeld ?_
  simp only [Act.put, z9]
  refine t8 (i := 17) (v := .bool true) rfl hHeld ?_
  simp only [Act.put, z9]
  refine t9 (i := 18) rfl hHeld ?_
  simp only [Act.put, z9]
  refine t9 (i := 19) rfl hHeld ?_
  simp only [Act.put, z9]
  refine t9 (i := 20) rfl hHeld ?_
  simp only [Act.put, z9]
  refine t9 (i := 21) rfl hHeld ?_
  simp only [Act.put, z9]
  refine t8 (i := 22) (v := .bool true) rfl hHeld ?_
  simp only [Act.put, z9]
  refine wpAnyH_done (by kernel_rfl) ?_ _
  have HQ : Hid (Only (fun _ => False) w w1.drew) := HO.out.drew
  clear hHeld
  go_wp2
  go_ret
  exact ⟨rfl, HQ.out⟩
end Go.Proofs.YtlcglapcmdpkfaaGreat
