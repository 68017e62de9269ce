import Derived.Test.YtenjollhlgjjdaaGreatDoorGak
import Derived.Test.YtenjollhlgjjdaaGreatDoorGah
import Derived.Test.YtenjollhlgjjdaaGreatDoorGaj
import Derived.Deep.RegionHeld3
import Derived.Test.YtenjollhlgjjdaaGreatDoorGae
import Derived.Test.YtenjollhlgjjdaaGreatDoorGaa
import Derived.Test.YtenjollhlgjjdaaGreatDoorGaf
/-          -/
set_option linter.unusedSimpArgs false
set_option linter.unusedVariables false
set_option maxRecDepth 100000
set_option maxHeartbeats 40000000
namespace Go.Proofs.YtenjollhlgjjdaaGreatDoor
open Go.RowKit Go.Lib
def zT : Vt := ⟨0, 0, ⟨#[]⟩, []⟩
def lsR (ps : List Int) (l : List Vt) : List Vt := ps.map fun k => (l[k.toNat]?).getD zT
theorem app_u {w : World} {B n : Nat} {v iv : Value} {us : List Value} (ho : w.ownsRow B 41 1 v n us) (h1 : iv.oneCell' = true) (hB : B ≤ w.heap.size) (hn : n ≤ 1048576) :
  ∃ v' w', (∀ ty, (Builtin.append_ #[25, 25] ty #[v, .slice (some ⟨w.heap.size, 0, none⟩) 1 1]).run Tryz.prog (w.alloc (.cells #[iv] 41)) = .ok v' w') ∧ w'.ownsRow B 41 1 v' (n + 1) (us ++ [iv]) ∧ Only (fun k => v.ownBlock = some k) w w' := by
 obtain ⟨i0, hi, hz0, hz1, hz2⟩ := vinfo_parts vinfoV
 obtain ⟨W, hW⟩ : ∃ W, W = w.alloc (.cells #[iv] 41) := ⟨_, rfl⟩
 have oo : Oz w W := by rw [hW]; exact (Only.refl _ w).alloc _
 have hblk : W.heap[w.heap.size]? = some (.cells #[iv] 41) := by rw [hW]; exact valloc_at _ _ _ rfl
 have ho2 : W.ownsRow B 41 1 v n us := oo.owns ho (fun _ _ g => g)
 have key := fun ty => run_append_own_at (P := Tryz.prog) W B 25 ty 41 i0 .nilIface 1 16 Tryz.underlying25 hi hz0 hz1 hz2 rfl (by omega) v n us ho2 ⟨w.heap.size, 0, none⟩ 1 1 [iv] rfl (by
   intro j u hj
   rw [addr_ad, vblk_cells hblk]
   simpa using hj) (by
   intro u hu
   simp only [List.mem_cons, List.not_mem_nil, or_false] at hu
   subst hu
   exact h1) (by unfold maxLen; omega) (by omega) (by have := oo.size; omega)
 obtain ⟨v', w', hr, own', hg, _, hat⟩ := key 0
 refine ⟨v', w', fun ty => ?_, own', (oo.mono (bs' := fun k => v.ownBlock = some k) (fun _ _ h => h.elim)).trans ((Only.refl (fun k => v.ownBlock = some k) W).grown hg (fun k e _ => e)) (fun k hk e => e)⟩
 rw [← hW, ← hr]
 rfl
def AtP (n d : Nat) (ls : List Vt) (w : World) (e : Ending) (w' : World) : Prop := ∃ a' c', e = .returned (.slice a' n c') ∧ Hid ((∃ S', PsAt w' S' d false ls a' ∧ ∀ b, S' b → b < w'.heap.size) ∧ Oz w w')
theorem at_any {d : Nat} {l : List Vt} {ps : List Int} {G q c : Nat} {ao : Option Addr} {w : World} {S : Nat → Prop} (hl : PsAt w S d false l (some ⟨G, q, none⟩)) (hS : ∀ b, S b → b < w.heap.size) (hps : ∀ (j : Nat) (k : Int), ps[j]? = some k → ∃ g q, ao = some ⟨g, q, none⟩ ∧ w.cell? ⟨g, q + j, none⟩ = some (.int .i64 k)) (hr : ∀ k ∈ ps, 0 ≤ k ∧ k < (l.length : Int)) (h3 : ps.length ≤ 3) (hl3 : l.length ≤ 3) :
  Cz 30 #[.slice (some ⟨G, q, none⟩) l.length l.length, .slice ao ps.length c] w fun e w' => AtP ps.length d (lsR ps l) w e w' := by
 obtain ⟨us, u1, u2, u3, u4⟩ := ps_row hl
 obtain ⟨N, hN⟩ : ∃ N, N = ps.length := ⟨_, rfl⟩
 obtain ⟨L, hL⟩ : ∃ L, L = l.length := ⟨_, rfl⟩
 have HN : Hid (N = ps.length ∧ L = l.length ∧ N ≤ 3 ∧ L ≤ 3 ∧ us.length = l.length) := ⟨hN, hL, by omega, by omega, u1⟩
 have HT : Hid ((∀ u ∈ us, u.oneCell' = true) ∧ (∀ (j : Nat) (u : Value), us[j]? = some u → w.cell? ⟨G, q + j, none⟩ = some u) ∧ (∀ (j : Nat) (k : Int), ps[j]? = some k → ∃ g q, ao = some ⟨g, q, none⟩ ∧ w.cell? ⟨g, q + j, none⟩ = some (.int .i64 k)) ∧ (∀ k ∈ ps, 0 ≤ k ∧ k < (l.length : Int)) ∧ ∀ u ∈ us, u = .nilIface ∨ ∃ T y, u = .iface T y) := by
  refine ⟨u2, fun j u hu => ?_, hps, hr, fun u hu => ?_⟩
  rotate_left
  ·obtain ⟨j, hj⟩ := List.getElem?_of_mem hu
   have hjl : j < l.length := by rw [← u1]; exact (List.getElem?_eq_some_iff.1 hj).1
   obtain ⟨y, q1, q2⟩ := u4 j _ (List.getElem?_eq_getElem hjl)
   rw [hj] at q1
   injection q1 with q1
   rw [q1]
   exact q2.shape2
  have := u3 _ rfl j u hu
  have e : (⟨G, q, none⟩ : Addr).add j = ⟨G, q + j, none⟩ := by unfold Addr.add; split <;> simp_all
  rw [e] at this
  exact this
 have HP : Hid (∀ a' c' w', w'.ownsRow w.heap.size 41 1 (.slice a' N c') N (ps.map fun k => (us[k.toNat]?).getD .nilIface) → Oz w w' → ∃ S', PsAt w' S' d false (lsR ps l) a' ∧ ∀ b, S' b → b < w'.heap.size) := fun a' c' w' ho o => by
  refine ⟨fun b => S b ∨ (Value.slice a' N c').ownBlock = some b, fun j x hx => ?_, fun b hb => ?_⟩
  ·have hj : j < ps.length := by have := (List.getElem?_eq_some_iff.1 hx).1; simpa [lsR] using this
   have hk := hr _ (List.getElem_mem hj)
   have hx2 : x = (l[(ps[j]).toNat]?).getD zT := by
    unfold lsR at hx
    rw [List.getElem?_map, List.getElem?_eq_getElem hj] at hx
    simpa using hx.symm
   have hkl : (ps[j]).toNat < l.length := by omega
   rw [List.getElem?_eq_getElem hkl, Option.getD_some] at hx2
   obtain ⟨u, p1, p2⟩ := u4 _ x (by rw [hx2]; exact List.getElem?_eq_getElem hkl)
   rcases ho.2 with ⟨h5, h4⟩ | ⟨g, cp, cur, hv, hB, hg, hn, hcm, hcs, htk⟩
   ·omega
   ·cases hv
    have hc := ho.cells (g := g) rfl j u (by rw [List.getElem?_map, List.getElem?_eq_getElem hj, Option.map_some, p1, Option.getD_some])
    rw [addr_ad] at hc
    exact ⟨g, 0, u, rfl, .inr rfl, by simpa using hc, (p2.only o (fun _ _ g => g)).step (fun _ g => .inl g) (fun _ _ _ g => g) (Nat.le_refl _)⟩
  ·rcases hb with h | h
   ·exact Nat.lt_of_lt_of_le (hS b h) o.size
   ·exact (ho.lt b h).2
 rw [← hN, ← hL]
 clear hl hS hps hr h3 hl3 u1 u2 u3 u4 hN hL
 go_enter Tryz.func30, Tryz.ntmps30
 go_wp2
 go_loopw [10, 5] (fun r x wr => ∃ (j : Nat) (a5 : Option Addr) (c5 : Nat), r = .int .i64 (j : Int) ∧ j ≤ N ∧ x = .slice a5 j c5 ∧ Hid (wr.ownsRow w.heap.size 41 1 (.slice a5 j c5) j ((ps.take j).map fun k => (us[k.toNat]?).getD .nilIface) ∧ Oz w wr)) (fun r _ _ => N - vuOf r)
 case atStart => exact ⟨0, none, 0, rfl, Nat.zero_le _, rfl, ⟨rfl, .inl ⟨rfl, rfl⟩⟩, Only.refl _ _⟩
 case round =>
  obtain ⟨j, a5, c5, rfl, hj, rfl, HI⟩ := hrel
  obtain ⟨w2, hw2⟩ : ∃ w2, w2 = wr := ⟨_, rfl⟩
  rw [← hw2] at HI ⊢
  clear hw2
  by_cases hjN : j < N
  ·have hjp : j < ps.length := by rw [← HN.out.1]; exact hjN
   obtain ⟨k, hk⟩ : ∃ k, ps[j]? = some k := ⟨ps[j], List.getElem?_eq_getElem hjp⟩
   obtain ⟨g, q2, ha, hcw⟩ := HT.out.2.2.1 j k hk
   have hkr := HT.out.2.2.2.1 k (List.mem_of_getElem? hk)
   obtain ⟨m, rfl⟩ : ∃ m : Nat, k = (m : Int) := ⟨k.toNat, by omega⟩
   have hml : m < L := by have := HN.out.2.1; omega
   obtain ⟨u, hu⟩ : ∃ u, us[m]? = some u := ⟨us[m]'(by have := HN.out; omega), List.getElem?_eq_getElem _⟩
   have hcell : w2.cell? ⟨g, q2 + j, none⟩ = some (.int .i64 (m : Int)) := HI.out.2.cell hcw (fun g => g)
   have hcu : w2.cell? ⟨G, q + m, none⟩ = some u := HI.out.2.cell (HT.out.2.1 m u hu) (fun g => g)
   have hone := HT.out.1 u (List.mem_of_getElem? hu)
   obtain ⟨v', w3, hr, hown, o3⟩ := app_u HI.out.1 hone HI.out.2.size (by have := HN.out; omega)
   have hsh : ∃ a' c', v' = .slice a' (j + 1) c' := by
    rcases hown.2 with ⟨h5, h4⟩ | ⟨g, cp, cur, hv, _⟩
    ·omega
    ·exact ⟨_, _, hv⟩
   obtain ⟨a', c', rfl⟩ := hsh
   have HF : Hid (w3.ownsRow w.heap.size 41 1 (.slice a' (j + 1) c') (j + 1) ((ps.take (j + 1)).map fun k => (us[k.toNat]?).getD .nilIface) ∧ Oz w w3) := by
    refine ⟨?_, HI.out.2.trans o3 (fun b hb e => ?_)⟩
    ·rw [List.take_add_one, hk]
     simpa [hu] using hown
    ·have := (HI.out.1.lt b e).1
     omega
   have HR : Hid _ := hr
   have HX : Hid (j < N) := hjN
   have hform : u = .nilIface ∨ ∃ T y, u = .iface T y := HT.out.2.2.2.2 u (List.mem_of_getElem? hu)
   have i1 : (j : Int) < (N : Int) := by omega
   have i0 : (0 : Int) ≤ (j : Int) := by omega
   have i2 : (m : Int) < (L : Int) := by omega
   have i3 : (0 : Int) ≤ (m : Int) := by omega
   have i4 : j ≤ 3 := by have := HN.out; omega
   have i5 : m ≤ 3 := by have := HN.out; omega
   subst ha
   clear hjp hk hcw hkr hml hu hone hr hown o3 hjN hj HI
   rcases hform with rfl | ⟨T1, y1, rfl⟩
   all_goals
    go_wp2_with (at_builtin; refine vwpList_append_run rfl _ _ 25 rfl _ _ _ rfl rfl HR.out ?_)
    go_roundw
    case rel => exact ⟨j + 1, a', c', by go_num, by have := HX.out; omega, rfl, HF⟩
    case measure => simp only [vuOf]; have := HX.out; omega
  ·obtain rfl : j = N := by omega
   have i1 : ¬ (j : Int) < (j : Int) := by omega
   have HE : Hid (∃ S', PsAt w2 S' d false (lsR ps l) a5 ∧ ∀ b, S' b → b < w2.heap.size) := by
    refine HP.out a5 c5 w2 ?_ HI.out.2
    have := HI.out.1
    rw [List.take_of_length_le (by rw [HN.out.1]; exact Nat.le_refl _)] at this
    exact this
   clear hjN hj
   go_wp2
   go_ret
   exact ⟨a5, c5, rfl, HE.out, HI.out.2⟩
theorem cy_mv {name : ByteArray} {ks ps : List Int} (hM : MvC name ps) (hr : ∀ k ∈ ps, 0 ≤ k ∧ k < (ks.length : Int)) (h3 : ps.length ≤ 3) (hk3 : ks.length ≤ 3) : CyC name ks (fun _ l => .ok (lsR ps l)) := by
 intro d l G q w S hl hS hlen hsm hsd hf hT
 have HM : Hid (MvC name ps) := hM
 have HAt : Hid (∀ w1 ao c, Oz w w1 → (∀ (j : Nat) (k : Int), ps[j]? = some k → ∃ g q, ao = some ⟨g, q, none⟩ ∧ w1.cell? ⟨g, q + j, none⟩ = some (.int .i64 k)) → Cz 30 #[.slice (some ⟨G, q, none⟩) l.length l.length, .slice ao ps.length c] w1 fun e w' => AtP ps.length d (lsR ps l) w1 e w') := fun w1 ao c o1 h1 => at_any (hl.only o1 (fun _ _ g => g)) (fun b hb => Nat.lt_of_lt_of_le (hS b hb) o1.size) h1 (by rw [hlen]; exact hr) h3 (by omega)
 have HP : Hid (∀ a' c' w', (∃ S', PsAt w' S' d false (lsR ps l) a' ∧ ∀ b, S' b → b < w'.heap.size) → Oz w w' → CyP (.ok (lsR ps l)) (d + 2) w (.returned (.tuple #[.slice a' ps.length c', .int .i64 0])) w') := fun a' c' w' ⟨S', h1, h2⟩ o => by
  have e : (lsR ps l).length = ps.length := by simp [lsR]
  refine ⟨a', c', by rw [e], ⟨S', fun j x hx => ?_, h2⟩, fun x hx => ?_, by omega, o⟩
  ·obtain ⟨g, k, u, p1, p2, p3, p4⟩ := h1 j x hx
   exact ⟨g, k, u, p1, p2, p3, p4.step (fun _ g => g) (fun _ _ _ g => g) (by omega)⟩
  ·unfold lsR at hx
   rw [List.mem_map] at hx
   obtain ⟨k, hk, rfl⟩ := hx
   have h9 := hr k hk
   have hkl : k.toNat < l.length := by omega
   rw [List.getElem?_eq_getElem hkl, Option.getD_some]
   exact hsm _ (List.getElem_mem hkl)
 obtain ⟨L, hL⟩ : ∃ L, L = l.length := ⟨_, rfl⟩
 obtain ⟨n, hn⟩ : ∃ n, n = ps.length := ⟨_, rfl⟩
 rw [← hL, ← hn] at HAt
 rw [← hn] at HP
 have HN : Hid (n = ps.length) := hn
 have O0 : Hid (Oz w w) := Only.refl _ _
 rw [← hL]
 clear hM hr h3 hk3 hl hS hlen hsm hsd hf hT hL hn
 go_enter Tryz.func16, Tryz.ntmps16
 go_wp2_with fail
 refine (show Cz 29 _ _ _ from HM.out _).mono ?_
 rintro e w1 ⟨ao, c, rfl, G1⟩
 rw [← HN.out]
 go_wp2_with fail
 refine (show Cz 30 _ _ _ from HAt.out _ _ _ G1.out.2 G1.out.1).mono ?_
 rintro e w2 ⟨a2, c2, rfl, G2⟩
 have HO : Hid (Oz w w2) := G1.out.2.trans G2.out.2 (fun _ _ g => g)
 clear HAt HM G1
 go_wp2
 go_ret2
 exact HP.out _ _ _ G2.out.1 HO.out
def MdP (r : Except Int Vt) (D : Nat) (w : World) (e : Ending) (w' : World) : Prop :=
 match r with
 | .error n => ∃ v, e = .returned (.tuple #[v, .int .i64 n]) ∧ (v = .nilIface ∨ ∃ T y, v = .iface T y) ∧ (n == 0) = false ∧ Oz w w'
 | .ok t => ∃ v, e = .returned (.tuple #[v, .int .i64 0]) ∧ (∃ S, TiAt w' S D false t v ∧ ∀ b, S b → b < w'.heap.size) ∧ (∃ e, SmT e t) ∧ Oz w w'
def MdC (name : ByteArray) (ks : List Int) (mk : Nat → List Vt → Except Int Vt) : Prop := ∀ (d : Nat) (l : List Vt) (G q : Nat) (w : World) (S : Nat → Prop), PsAt w S d false l (some ⟨G, q, none⟩) → (∀ b, S b → b < w.heap.size) → l.length = ks.length → (∀ x ∈ l, ∃ e, SmT e x) → l.all (sdB d) = true → fitB l ks = true → Tx w →
 Cz 33 #[.string name, .slice (some ⟨G, q, none⟩) l.length l.length] w fun e w' => MdP (mk d l) (d + 2) w e w'
def oneR : Except Int Vt → Except Int (List Vt)
 | .error n => .error n
 | .ok t => .ok [t]
theorem cy_md {name : ByteArray} {ks : List Int} {mk : Nat → List Vt → Except Int Vt} (hM : MnC name) (hne : (name.toList == [117, 110, 112, 97, 105, 114]) = false) (hK : MdC name ks mk) : CyC name ks (fun d l => oneR (mk d l)) := by
 intro d l G q w S hl hS hlen hsm hsd hf hT
 have HM : Hid (MnC name) := hM
 have HK : Hid _ := hK d l G q w S hl hS hlen hsm hsd hf hT
 obtain ⟨L, hL⟩ : ∃ L, L = l.length := ⟨_, rfl⟩
 obtain ⟨R, hR⟩ : ∃ R, R = mk d l := ⟨_, rfl⟩
 have HP : Hid (∀ t v w', R = .ok t → (∃ S, TiAt w' S (d + 2) false t v ∧ ∀ b, S b → b < w'.heap.size) → (∃ e, SmT e t) → Oz w w' → CyP (oneR R) (d + 2) w (.returned (.tuple #[.slice (some ⟨w'.heap.size, 0, none⟩) 1 1, .int .i64 0])) (w'.alloc (.cells #[v] 41))) := fun t v w' e ⟨S, h1, h2⟩ h3 o => by
  rw [e]
  have oo : Oz w' (w'.alloc (.cells #[v] 41)) := (Only.refl _ w').alloc _
  refine ⟨_, _, rfl, ⟨fun b => S b ∨ b = w'.heap.size, fun j x hx => ?_, fun b hb => ?_⟩, fun x hx => ?_, by simp, o.trans oo (fun _ _ g => g)⟩
  ·have hj : j = 0 := by have := (List.getElem?_eq_some_iff.1 hx).1; simp at this; exact this
   subst hj
   simp at hx
   subst hx
   refine ⟨w'.heap.size, 0, v, rfl, .inr rfl, ?_, (h1.only oo (fun _ _ g => g)).step (fun _ g => .inl g) (fun _ _ _ g => g) (Nat.le_refl _)⟩
   rw [vblk_cells (valloc_at w' _ _ rfl)]
   rfl
  ·rcases hb with g | rfl
   ·exact Nat.lt_of_lt_of_le (h2 b g) oo.size
   ·simp
  ·simp only [List.mem_cons, List.not_mem_nil, or_false] at hx
   rw [hx]
   exact h3
 have HE : Hid (∀ n a w', R = .error n → (n == 0) = false → Oz w w' → CyP (oneR R) (d + 2) w (.returned (.tuple #[a, .int .i64 n])) w') := fun n a w' e hn o => by
  rw [e]
  exact ⟨_, rfl, hn, o⟩
 rw [← hL, ← hR] at HK
 dsimp only
 rw [← hL, ← hR]
 clear hM hK hl hS hlen hsm hsd hf hT hL hR
 go_enter Tryz.func16, Tryz.ntmps16
 go_wp2_with fail
 refine (show Cz 29 _ _ _ from HM.out _).mono ?_
 rintro e w1 ⟨rfl, hw1⟩
 obtain rfl := hw1.symm
 cases R with
 | error n =>
   go_wp2_with fail
   refine (show Cz 33 _ _ _ from HK.out).mono ?_
   rintro e w2 ⟨v, rfl, hform, hn, o2⟩
   have O2 : Hid (Oz w w2) := o2
   clear HK HM o2
   rcases hform with rfl | ⟨T, y, rfl⟩
   all_goals
    go_wp2
    go_ret2
    exact HE.out _ _ _ rfl hn (O2.out.alloc _)
 | ok t =>
   go_wp2_with fail
   refine (show Cz 33 _ _ _ from HK.out).mono ?_
   rintro e w2 ⟨v, rfl, h1, h2, o2⟩
   have H2 : Hid ((∃ S, TiAt w2 S (d + 2) false t v ∧ ∀ b, S b → b < w2.heap.size) ∧ (∃ e, SmT e t) ∧ Oz w w2) := ⟨h1, h2, o2⟩
   have hform : v = .nilIface ∨ ∃ T y, v = .iface T y := by obtain ⟨_, t, _⟩ := h1; exact t.shape2
   clear HK HM o2 h1 h2
   rcases hform with rfl | ⟨T, y, rfl⟩
   all_goals
    go_wp2
    go_ret2
    exact HP.out _ _ _ rfl H2.out.1 H2.out.2.1 H2.out.2.2
theorem kd_cases (t : Vt) : (t.k = 1 ∧ kd t = 1) ∨ (t.k = 2 ∧ kd t = 2) ∨ (t.k = 3 ∧ kd t = 4) ∨ (t.k = 4 ∧ kd t = 8) ∨ (t.k = 5 ∧ kd t = 16) ∨ (t.k = 6 ∧ kd t = 32) ∨ ((t.k ≠ 1 ∧ t.k ≠ 2 ∧ t.k ≠ 3 ∧ t.k ≠ 4 ∧ t.k ≠ 5 ∧ t.k ≠ 6) ∧ kd t = 0) := by
 unfold kd
 by_cases h1 : t.k = 1
 ·exact .inl ⟨h1, by rw [if_pos h1]⟩
 by_cases h2 : t.k = 2
 ·exact .inr (.inl ⟨h2, by rw [if_neg h1, if_pos h2]⟩)
 by_cases h3 : t.k = 3
 ·exact .inr (.inr (.inl ⟨h3, by rw [if_neg h1, if_neg h2, if_pos h3]⟩))
 by_cases h4 : t.k = 4
 ·exact .inr (.inr (.inr (.inl ⟨h4, by rw [if_neg h1, if_neg h2, if_neg h3, if_pos h4]⟩)))
 by_cases h5 : t.k = 5
 ·exact .inr (.inr (.inr (.inr (.inl ⟨h5, by rw [if_neg h1, if_neg h2, if_neg h3, if_neg h4, if_pos h5]⟩))))
 by_cases h6 : t.k = 6
 ·exact .inr (.inr (.inr (.inr (.inr (.inl ⟨h6, by rw [if_neg h1, if_neg h2, if_neg h3, if_neg h4, if_neg h5, if_pos h6]⟩)))))
 ·exact .inr (.inr (.inr (.inr (.inr (.inr ⟨⟨h1, h2, h3, h4, h5, h6⟩, by rw [if_neg h1, if_neg h2, if_neg h3, if_neg h4, if_neg h5, if_neg h6]⟩)))))
theorem fb_1 {t : Vt} (h : fb t 1 = true) : t.k = 1 := by
 unfold fb at h
 rcases kd_cases t with ⟨e, k⟩ | ⟨e, k⟩ | ⟨e, k⟩ | ⟨e, k⟩ | ⟨e, k⟩ | ⟨e, k⟩ | ⟨e, k⟩ <;> rw [k] at h <;> first | exact e | (exfalso; revert h; decide)
theorem fb_2 {t : Vt} (h : fb t 2 = true) : t.k = 2 := by
 unfold fb at h
 rcases kd_cases t with ⟨e, k⟩ | ⟨e, k⟩ | ⟨e, k⟩ | ⟨e, k⟩ | ⟨e, k⟩ | ⟨e, k⟩ | ⟨e, k⟩ <;> rw [k] at h <;> first | exact e | (exfalso; revert h; decide)
theorem fb_4 {t : Vt} (h : fb t 4 = true) : t.k = 3 := by
 unfold fb at h
 rcases kd_cases t with ⟨e, k⟩ | ⟨e, k⟩ | ⟨e, k⟩ | ⟨e, k⟩ | ⟨e, k⟩ | ⟨e, k⟩ | ⟨e, k⟩ <;> rw [k] at h <;> first | exact e | (exfalso; revert h; decide)
theorem fb_8 {t : Vt} (h : fb t 8 = true) : t.k = 4 := by
 unfold fb at h
 rcases kd_cases t with ⟨e, k⟩ | ⟨e, k⟩ | ⟨e, k⟩ | ⟨e, k⟩ | ⟨e, k⟩ | ⟨e, k⟩ | ⟨e, k⟩ <;> rw [k] at h <;> first | exact e | (exfalso; revert h; decide)
theorem fb_16 {t : Vt} (h : fb t 16 = true) : t.k = 5 := by
 unfold fb at h
 rcases kd_cases t with ⟨e, k⟩ | ⟨e, k⟩ | ⟨e, k⟩ | ⟨e, k⟩ | ⟨e, k⟩ | ⟨e, k⟩ | ⟨e, k⟩ <;> rw [k] at h <;> first | exact e | (exfalso; revert h; decide)
theorem fb_63 (t : Vt) : fb t 63 = decide (t.k = 1 ∨ t.k = 2 ∨ t.k = 3 ∨ t.k = 4 ∨ t.k = 5 ∨ t.k = 6) := by
 unfold fb
 rcases kd_cases t with ⟨e, k⟩ | ⟨e, k⟩ | ⟨e, k⟩ | ⟨e, k⟩ | ⟨e, k⟩ | ⟨e, k⟩ | ⟨e, k⟩ <;> rw [k] <;> simp [e] <;> decide
theorem fit1 {l : List Vt} {a : Int} (hl : l.length = [a].length) (h : fitB l [a] = true) : ∃ x, l = [x] ∧ fb x a = true := by
 match l, hl with
 | [x], _ => exact ⟨x, rfl, by simpa [fitB] using h⟩
theorem fit2 {l : List Vt} {a b : Int} (hl : l.length = [a, b].length) (h : fitB l [a, b] = true) : ∃ x y, l = [x, y] ∧ fb x a = true ∧ fb y b = true := by
 match l, hl with
 | [x, y], _ => exact ⟨x, y, rfl, by simpa [fitB] using h⟩
theorem fit3 {l : List Vt} {a b c : Int} (hl : l.length = [a, b, c].length) (h : fitB l [a, b, c] = true) : ∃ x y z, l = [x, y, z] ∧ fb x a = true ∧ fb y b = true ∧ fb z c = true := by
 match l, hl with
 | [x, y, z], _ => exact ⟨x, y, z, rfl, by simpa [fitB] using h⟩
theorem sm_all : ∀ (l : List Vt), (∀ x ∈ l, ∃ e, SmT e x) → ∃ e, ∀ x ∈ l, SmT e x
 | [], _ => ⟨0, fun x hx => by cases hx⟩
 | t :: l, h => by
   obtain ⟨e1, h1⟩ := h t (List.mem_cons_self ..)
   obtain ⟨e2, h2⟩ := sm_all l (fun x hx => h x (List.mem_cons_of_mem _ hx))
   refine ⟨e1 + e2, fun x hx => ?_⟩
   rcases List.mem_cons.1 hx with rfl | hx
   ·exact h1.mono (by omega)
   ·exact (h2 x hx).mono (by omega)
def lisT (l : List Vt) : Vt := ⟨4, 0, ⟨#[]⟩, l⟩
theorem lis_sm {l : List Vt} (h : ∀ x ∈ l, ∃ e, SmT e x) (hl : l.length ≤ 1048576) : ∃ e, SmT e (lisT l) := by
 obtain ⟨e, he⟩ := sm_all l h
 exact ⟨e + 1, Nat.zero_le _, hl, ⟨(by decide : (-9223372036854775808 : Int) ≤ 4), (by decide : (4 : Int) ≤ 9223372036854775807)⟩, ⟨(by decide : (-9223372036854775808 : Int) ≤ 0), (by decide : (0 : Int) ≤ 9223372036854775807)⟩, he⟩
theorem ps_list {w : World} {S : Nat → Prop} {d : Nat} {l : List Vt} {ao : Option Addr} {cap : Nat} (h : PsAt w S d false l ao) (hc : l.length ≤ cap) : TiAt w S (d + 1) false (lisT l) (.iface 63 (.agg #[.slice ao l.length cap])) :=
 .inr (.inr (.inr (.inr (.inr ⟨.inl rfl, ao, cap, rfl, hc, h⟩))))
theorem md_wrap : MdC ⟨#[119, 114, 97, 112]⟩ [63] (fun _ l => .ok (lisT l)) := by
 intro d l G q w S hl hS hlen hsm hsd hf hT
 have HP : Hid (MdP (.ok (lisT l)) (d + 2) w (.returned (.tuple #[.iface 63 (.agg #[.slice (some ⟨G, q, none⟩) l.length l.length]), .int .i64 0])) w) := ⟨_, rfl, ⟨S, (ps_list hl (Nat.le_refl _)).step (fun _ g => g) (fun _ _ _ g => g) (by omega), hS⟩, lis_sm hsm (by simp at hlen; omega), Only.refl _ _⟩
 obtain ⟨L, hL⟩ : ∃ L, L = l.length := ⟨_, rfl⟩
 rw [← hL] at HP
 rw [← hL]
 clear hl hS hlen hsm hsd hf hT hL
 go_enter Tryz.func33, Tryz.ntmps33
 go_wp2
 go_ret2
 exact HP.out
theorem md_pair : MdC ⟨#[112, 97, 105, 114]⟩ [63, 63] (fun _ l => .ok (lisT l)) := by
 intro d l G q w S hl hS hlen hsm hsd hf hT
 have HP : Hid (MdP (.ok (lisT l)) (d + 2) w (.returned (.tuple #[.iface 63 (.agg #[.slice (some ⟨G, q, none⟩) l.length l.length]), .int .i64 0])) w) := ⟨_, rfl, ⟨S, (ps_list hl (Nat.le_refl _)).step (fun _ g => g) (fun _ _ _ g => g) (by omega), hS⟩, lis_sm hsm (by simp at hlen; omega), Only.refl _ _⟩
 obtain ⟨L, hL⟩ : ∃ L, L = l.length := ⟨_, rfl⟩
 rw [← hL] at HP
 rw [← hL]
 clear hl hS hlen hsm hsd hf hT hL
 go_enter Tryz.func33, Tryz.ntmps33
 go_wp2
 go_ret2
 exact HP.out
theorem pas_hit (T xt : TypeId) (D : TypeDesc) (hD : Tryz.prog.underlying T = some D) (hn : ∀ m, D ≠ .interface m) (x : Value) (W : World) : (Instr.typeAssert (.iface T x) xt T false).run Tryz.prog W = .ok x W := by
 simp only [Instr.typeAssert, Sem.run_bind, run_underlying hD, Result.andThen_ok]
 cases D <;> simp_all
theorem pf_number (W : World) (n : Int) : (Instr.field 35 (.agg #[.int .i64 n]) 0).run Tryz.prog W = .ok (.int .i64 n) W := by kernel_rfl
theorem g_number (n : Int) (w : World) : Cz 51 #[.iface 35 (.agg #[.int .i64 n])] w fun e w' => e = .returned (.int .i64 n) ∧ w' = w := by
 have h1 := pas_hit 35 41 _ Tryz.underlying35 (by intro m h; cases h)
 have h2 := fun W => pf_number W n
 go_enter Tryz.func51, Tryz.ntmps51
 go_wp2
 go_ret
 exact ⟨rfl, rfl⟩
theorem pf_text (W : World) (s : ByteArray) : (Instr.field 59 (.agg #[.string s]) 0).run Tryz.prog W = .ok (.string s) W := by kernel_rfl
theorem g_text (s : ByteArray) (w : World) : Cz 60 #[.iface 59 (.agg #[.string s])] w fun e w' => e = .returned (.string s) ∧ w' = w := by
 have h1 := pas_hit 59 41 _ Tryz.underlying59 (by intro m h; cases h)
 have h2 := fun W => pf_text W s
 go_enter Tryz.func60, Tryz.ntmps60
 go_wp2
 go_ret
 exact ⟨rfl, rfl⟩
theorem pf_flag (W : World) (b : Bool) : (Instr.field 61 (.agg #[.bool b]) 0).run Tryz.prog W = .ok (.bool b) W := by kernel_rfl
theorem g_flag (b : Bool) (w : World) : Cz 82 #[.iface 61 (.agg #[.bool b])] w fun e w' => e = .returned (.bool b) ∧ w' = w := by
 have h1 := pas_hit 61 41 _ Tryz.underlying61 (by intro m h; cases h)
 have h2 := fun W => pf_flag W b
 go_enter Tryz.func82, Tryz.ntmps82
 go_wp2
 go_ret
 exact ⟨rfl, rfl⟩
theorem pf_list (W : World) (ao : Option Addr) (L c : Nat) : (Instr.field 63 (.agg #[.slice ao L c]) 0).run Tryz.prog W = .ok (.slice ao L c) W := by kernel_rfl
theorem g_list (ao : Option Addr) (L c : Nat) (w : World) : Cz 32 #[.iface 63 (.agg #[.slice ao L c])] w fun e w' => e = .returned (.slice ao L c) ∧ w' = w := by
 have h1 := pas_hit 63 41 _ Tryz.underlying63 (by intro m h; cases h)
 have h2 := fun W => pf_list W ao L c
 go_enter Tryz.func32, Tryz.ntmps32
 go_wp2
 go_ret
 exact ⟨rfl, rfl⟩
theorem pf_items (W : World) (ao : Option Addr) (L c : Nat) : (Instr.field 66 (.agg #[.slice ao L c]) 0).run Tryz.prog W = .ok (.slice ao L c) W := by kernel_rfl
theorem g_items (ao : Option Addr) (L c : Nat) (w : World) : Cz 86 #[.iface 66 (.agg #[.slice ao L c])] w fun e w' => e = .returned (.slice ao L c) ∧ w' = w := by
 have h1 := pas_hit 66 41 _ Tryz.underlying66 (by intro m h; cases h)
 have h2 := fun W => pf_items W ao L c
 go_enter Tryz.func86, Tryz.ntmps86
 go_wp2
 go_ret
 exact ⟨rfl, rfl⟩
def unR (l : List Vt) : Except Int (List Vt) :=
 match l with
 | [t] => if t.l.length = 2 then .ok t.l else .error 4
 | _ => .error 4
theorem unpair_yes (ao : Option Addr) (c : Nat) (w : World) : Cz 31 #[.slice ao 2 c] w fun e w' => e = .returned (.tuple #[.slice ao 2 c, .int .i64 0]) ∧ w' = w := by
 go_enter Tryz.func31, Tryz.ntmps31
 go_wp2
 go_ret2
 exact ⟨rfl, rfl⟩
theorem unpair_no (ao : Option Addr) (L c : Nat) (w : World) (h : ((L : Int) == 2) = false) : Cz 31 #[.slice ao L c] w fun e w' => e = .returned (.tuple #[.slice none 0 0, .int .i64 4]) ∧ w' = w := by
 have h2 : ¬ (L : Int) = 2 := by simpa using h
 go_enter Tryz.func31, Tryz.ntmps31
 go_wp2
 go_ret2
 exact ⟨rfl, rfl⟩
theorem cy_unpair (hM : MnC ⟨#[117, 110, 112, 97, 105, 114]⟩) : CyC ⟨#[117, 110, 112, 97, 105, 114]⟩ [8] (fun _ => unR) := by
 intro d l G q w S hl hS hlen hsm hsd hf hT
 obtain ⟨t, rfl, hk⟩ := fit1 hlen hf
 have hk4 := fb_8 hk
 obtain ⟨g, k, u, ha, hg, hc, ht⟩ := hl 0 t rfl
 cases ha
 cases d with
 | zero => exact ht.elim
 | succ d =>
   rcases ht with ⟨e, _⟩ | ⟨e, _⟩ | ⟨e, _⟩ | ⟨e, _⟩ | ⟨e, _⟩ | ⟨_, ao, cap, rfl, hcap, hp⟩
   ·omega
   ·omega
   ·omega
   ·omega
   ·omega
   ·rw [if_pos hk4] at hc
    rw [show decide (t.k = 5) = false from by rw [hk4]; rfl] at hp
    have HM : Hid _ := hM
    have HL : Hid _ := g_list ao t.l.length cap w
    have hc0 : w.cell? ⟨G, q, none⟩ = some (.iface 63 (.agg #[.slice ao t.l.length cap])) := hc
    obtain ⟨L, hL⟩ : ∃ L, L = t.l.length := ⟨_, rfl⟩
    rw [← hL] at HL hc0
    have hll : [t].length = 1 := rfl
    rw [hll]
    by_cases h2 : t.l.length = 2
    ·have e : unR [t] = .ok t.l := by unfold unR; dsimp only; rw [if_pos h2]
     dsimp only
     rw [e]
     obtain rfl : L = 2 := by omega
     have HP : Hid (CyP (.ok t.l) (d + 1 + 2) w (.returned (.tuple #[.slice ao 2 cap, .int .i64 0])) w) := ⟨ao, cap, by rw [h2], ⟨S, fun j x hx => by
      obtain ⟨g, k, u, p1, p2, p3, p4⟩ := hp j x hx
      exact ⟨g, k, u, p1, p2, p3, p4.step (fun _ g => g) (fun _ _ _ g => g) (by omega)⟩, hS⟩, fun x hx => by
      obtain ⟨e, he⟩ := hsm t (List.mem_cons_self ..)
      cases e with
      | zero => exact he.elim
      | succ e => exact ⟨e, he.2.2.2.2 x hx⟩, by omega, Only.refl _ _⟩
     have HU : Hid _ := unpair_yes ao cap w
     clear hM hl hS hlen hsm hsd hf hT hk hk4 hg hc hp h2 e hL hcap hll
     go_enter Tryz.func16, Tryz.ntmps16
     go_wp2_with fail
     refine (show Cz 29 _ _ _ from HM.out _).mono ?_
     rintro e w1 ⟨rfl, hw1⟩
     obtain rfl := hw1.symm
     go_wp2_with fail
     refine (show Cz 32 _ _ _ from HL.out).mono ?_
     rintro e w1 ⟨rfl, hw1⟩
     obtain rfl := hw1.symm
     go_wp2_with fail
     refine (show Cz 31 _ _ _ from HU.out).mono ?_
     rintro e w1 ⟨rfl, hw1⟩
     obtain rfl := hw1.symm
     go_wp2
     go_ret2
     exact HP.out
    ·have e : unR [t] = .error 4 := by unfold unR; dsimp only; rw [if_neg h2]
     dsimp only
     rw [e]
     have HP : Hid (CyP (.error 4) (d + 1 + 2) w (.returned (.tuple #[.slice none 0 0, .int .i64 4])) w) := ⟨_, rfl, rfl, Only.refl _ _⟩
     have HU : Hid _ := unpair_no ao L cap w (by rw [beq_eq_false_iff_ne]; omega)
     clear hM hl hS hlen hsm hsd hf hT hk hk4 hg hc hp h2 e hL hcap hll
     go_enter Tryz.func16, Tryz.ntmps16
     go_wp2_with fail
     refine (show Cz 29 _ _ _ from HM.out _).mono ?_
     rintro e w1 ⟨rfl, hw1⟩
     obtain rfl := hw1.symm
     go_wp2_with fail
     refine (show Cz 32 _ _ _ from HL.out).mono ?_
     rintro e w1 ⟨rfl, hw1⟩
     obtain rfl := hw1.symm
     go_wp2_with fail
     refine (show Cz 31 _ _ _ from HU.out).mono ?_
     rintro e w1 ⟨rfl, hw1⟩
     obtain rfl := hw1.symm
     go_wp2
     go_ret2
     exact HP.out
end Go.Proofs.YtenjollhlgjjdaaGreatDoor
namespace Go.Proofs.YtenjollhlgjjdaaGreatDoor
open Go.RowKit
theorem uv_info : ∃ i z, Tryz.prog.info? 38 = some i ∧ i.zero = some z ∧ i.size = 4 ∧ i.bytes = 56 ∧ z.cells.size = 4 := ⟨_, _, rfl, rfl, rfl, rfl, rfl⟩
theorem utrees_of (d : Nat) (H : TuE d 11 false) : TuS d 5 false := by
 intro v l w S hq hl hw
 obtain ⟨av, cv, rfl, hcv, hel⟩ := hq
 have HE : Hid (∀ (j : Nat) (x : Vt), l[j]? = some x → ∃ g k u, av = some ⟨g, k, none⟩ ∧ w.cell? ⟨g, k + j, none⟩ = some u ∧ ∀ w1, Oz w w1 → Cz 11 #[u] w1 fun e w' => ∃ lv, e = .returned (.agg #[.int .i64 x.k, .int .i64 (x.n), .string (x.s), lv]) ∧ Hid (NuAt w' w1.heap.size d x lv ∧ Oz w1 w')) := by
  intro j x hx
  obtain ⟨g, k, u, ha, hg, hc, ht⟩ := hel j x hx
  exact ⟨g, k, u, ha, hc, fun w1 o1 => H u x w1 S (ht.step (fun _ g => g) (fun a u _ hc => o1.cell hc (fun g => g)) (Nat.le_refl _)) (hw x (List.mem_of_getElem? hx))⟩
 have HLB : Hid (l.length ≤ 1048576) := hl
 clear hcv hel hl hw H
 obtain ⟨N, hN⟩ : ∃ N, N = l.length := ⟨_, rfl⟩
 have HNN : Hid (N = l.length) := hN
 rw [← hN]
 clear hN
 go_enter Tryz.func5, Tryz.ntmps5
 go_wp2
 go_loopw [3, 4] (fun r3 r4 wr => ∃ (i : Nat) (ao : Option Addr) (cap : Nat), r3 = .slice ao i cap ∧ r4 = .int .i64 (i : Int) ∧ i ≤ N ∧ Hid (UrAt wr w.heap.size d (.slice ao i cap) (l.take i) ∧ Oz w wr)) (fun _ r4 _ => N - vuOf r4)
 case atStart => exact ⟨0, none, 0, rfl, rfl, Nat.zero_le _, ur_nil _ _ _, Only.refl _ _⟩
 case round =>
  obtain ⟨i, ao, cap, rfl, rfl, hi, HI⟩ := hrel
  obtain ⟨w1, rfl⟩ : ∃ w1, w1 = wr := ⟨_, rfl⟩
  have hNl : N = l.length := HNN.out
  have hN4 : l.length ≤ 1048576 := HLB.out
  by_cases hiN : i < N
  ·obtain ⟨x, hx⟩ : ∃ x, l[i]? = some x := ⟨l[i]'(by omega), List.getElem?_eq_getElem (by omega)⟩
   obtain ⟨g, k, u, rfl, hc, hcall⟩ := HE.out i x hx
   have hc1 : w1.cell? ⟨g, k + i, none⟩ = some u := HI.out.2.cell hc (fun g => g)
   have HC : Hid (Cz 11 #[u] w1 fun e w' => ∃ lv, e = .returned (.agg #[.int .i64 x.k, .int .i64 (x.n), .string (x.s), lv]) ∧ Hid (NuAt w' w1.heap.size d x lv ∧ Oz w1 w')) := hcall w1 HI.out.2
   have HX : Hid (l.take i ++ [x] = l.take (i + 1) ∧ (l.take i).length = i) := by
    have hil : i < l.length := by omega
    refine ⟨?_, by simp; omega⟩
    rw [List.take_add_one, hx]
    rfl
   have HB : Hid (i < N ∧ N ≤ 1048576) := ⟨hiN, by omega⟩
   have i1 : (i : Int) < (N : Int) := by omega
   have i0 : (0 : Int) ≤ (i : Int) := by omega
   clear hc hcall HE hNl hN4 hx
   obtain ⟨x0, hx0⟩ : ∃ x0, x0 = x.k := ⟨_, rfl⟩
   obtain ⟨x1, hx1⟩ : ∃ x1, x1 = x.n := ⟨_, rfl⟩
   obtain ⟨x2, hx2⟩ : ∃ x2, x2 = x.s := ⟨_, rfl⟩
   have HXX : Hid (x0 = x.k ∧ x1 = x.n ∧ x2 = x.s) := ⟨hx0, hx1, hx2⟩
   rw [← hx0, ← hx1, ← hx2] at HC
   clear hx0 hx1 hx2
   go_wp2_with fail
   refine (show Cz 11 _ _ _ from HC.out).mono ?_
   rintro e w2 ⟨lv, rfl, g2⟩
   obtain ⟨al, cl, hlv⟩ := g2.out.1.form
   have W4 : UrAt (w2.alloc (.cells #[.int .i64 x0, .int .i64 x1, .string x2, lv] 38)) w.heap.size d (.slice ao i cap) (l.take i) := (HI.out.1.only g2.out.2 (fun _ _ h => h)).only ((Only.refl (fun _ => False) w2).alloc _) (fun _ _ h => h)
   have N4 : NuAt (w2.alloc (.cells #[.int .i64 x0, .int .i64 x1, .string x2, lv] 38)) w1.heap.size d x lv := g2.out.1.only ((Only.refl (fun _ => False) w2).alloc _) (fun _ _ h => h)
   have O4 : Oz w (w2.alloc (.cells #[.int .i64 x0, .int .i64 x1, .string x2, lv] 38)) := (HI.out.2.trans g2.out.2 (fun _ _ g => g)).alloc _
   have hlt : ∀ k, (Value.slice ao i cap).ownBlock = some k → k < w1.heap.size := fun k hk => by
    obtain ⟨us, S', hr, _⟩ := HI.out.1
    exact (hr.lt k hk).2
   have hsz1 : w.heap.size ≤ w1.heap.size := HI.out.2.size
   have hsz2 : w1.heap.size ≤ w2.heap.size := g2.out.2.size
   obtain ⟨us, SS, hown, htr, hSS⟩ := W4
   rw [HX.out.2] at hown
   have HOW : Hid ((w2.alloc (.cells #[.int .i64 x0, .int .i64 x1, .string x2, lv] 38)).ownsRow w.heap.size 38 4 (.slice ao i cap) i us) := hown
   have HAL : Hid (_ ∧ _ ∧ NuAt (w2.alloc (.cells #[.int .i64 x0, .int .i64 x1, .string x2, lv] 38)) w1.heap.size d x lv ∧ Oz w (w2.alloc (.cells #[.int .i64 x0, .int .i64 x1, .string x2, lv] 38)) ∧ w.heap.size ≤ w1.heap.size ∧ (∀ k, (Value.slice ao i cap).ownBlock = some k → k < w1.heap.size)) := ⟨htr, hSS, N4, O4, hsz1, hlt⟩
   subst hlv
   obtain ⟨i0', z0, hi', hz0, hz1, hz2, hz3⟩ := uv_info
   obtain ⟨xl, hxl⟩ : ∃ xl, xl = x.l.length := ⟨_, rfl⟩
   rw [← hxl] at HOW HAL
   rw [← hxl]
   clear N4 O4 hown htr hSS hlt g2 HI HC hxl
   go_wp2_with (at_builtin; refine wpList_append_own_at _ rfl _ _ 22 rfl w.heap.size 38 i0' z0 4 56 Tryz.underlying22 hi' hz0 hz1 hz2 hz3 (by decide) _ i us rfl HOW.out ⟨w2.heap.size, 0, none⟩ 1 1 [.int .i64 x0, .int .i64 x1, .string x2, .slice al xl cl] rfl rfl ?c1 ?c2 ?c3 ?c4 ?c5 ?_)
   case c1 =>
    intro j u hj
    rcases j with _ | _ | _ | _ | j <;> simp at hj <;> subst hj <;> simp [Addr.add]
   case c2 =>
    intro u hu
    simp only [List.mem_cons, List.not_mem_nil, or_false] at hu
    rcases hu with rfl | rfl | rfl | rfl <;> rfl
   case c3 => have := HB.out; unfold maxLen; omega
   case c4 => have := HB.out; omega
   case c5 => simp; omega
   intro v' w4 hown' hgrow _ hat
   obtain ⟨a1, a2, a3, a4, a5, a6⟩ := HAL.out
   obtain ⟨e0, e1, e2⟩ := HXX.out
   have W5 : UrAt w4 w.heap.size d v' (l.take i ++ [x]) := UrAt.snoc hgrow (by rw [HX.out.2]; exact HOW.out) a1 a2 a3 a5 a6 (by rw [HX.out.2, ← e0, ← e1, ← e2]; exact hown') (by simpa using hat)
   rw [HX.out.1] at W5
   have og : Only (fun k => (Value.slice ao i cap).ownBlock = some k) (w2.alloc (.cells #[.int .i64 x0, .int .i64 x1, .string x2, .slice al xl cl] 38)) w4 := (Only.refl _ _).grown hgrow (fun k e _ => e)
   have O5 : Oz w w4 := a4.trans og (fun k hk e => by have := (HOW.out.lt k e).1; omega)
   obtain ⟨ao', cap', hv'⟩ := W5.form
   have hlen : (l.take (i + 1)).length = i + 1 := by have : N = l.length := HNN.out; have := HB.out; simp; omega
   rw [hlen] at hv'
   subst hv'
   have HK5 : Hid (UrAt w4 w.heap.size d (.slice ao' (i + 1) cap') (l.take (i + 1)) ∧ Oz w w4) := ⟨W5, O5⟩
   clear W5 O5 og HAL HOW hown' hgrow hat a1 a2 a3 a4 a5 a6 hi' hz0 hz1 hz2 hz3 hsz1 hsz2 e0 e1 e2 HXX hlen
   have hi4 : i ≤ 1048576 := by have := HB.out; omega
   go_wp2
   go_roundw
   case rel => exact ⟨i + 1, ao', cap', rfl, by go_num, by omega, HK5⟩
   case measure => simp only [vuOf]; have := HB.out; omega
  ·obtain rfl : i = N := by omega
   have i1 : ¬ (i : Int) < (i : Int) := by omega
   have HK : Hid (UrAt w1 w.heap.size d (.slice ao i cap) l ∧ Oz w w1) := by
    have := HI.out
    rw [hNl, List.take_length, ← hNl] at this
    exact this
   clear HI hNl hN4
   go_wp2
   go_ret
   exact ⟨ao, cap, rfl, HK⟩
theorem uitrees_of (d : Nat) (H : TuE d 46 true) : TuS d 25 true := by
 intro v l w S hq hl hw
 obtain ⟨av, cv, rfl, hcv, hel⟩ := hq
 have HE : Hid (∀ (j : Nat) (x : Vt), l[j]? = some x → ∃ g k u, av = some ⟨g, k, none⟩ ∧ w.cell? ⟨g, k + j, none⟩ = some u ∧ ∀ w1, Oz w w1 → Cz 46 #[u] w1 fun e w' => ∃ lv, e = .returned (.agg #[.int .i64 x.k, .int .i64 (x.n), .string (x.s), lv]) ∧ Hid (NuAt w' w1.heap.size d x lv ∧ Oz w1 w')) := by
  intro j x hx
  obtain ⟨g, k, u, ha, hg, hc, ht⟩ := hel j x hx
  exact ⟨g, k, u, ha, hc, fun w1 o1 => H u x w1 S (ht.step (fun _ g => g) (fun a u _ hc => o1.cell hc (fun g => g)) (Nat.le_refl _)) (hw x (List.mem_of_getElem? hx))⟩
 have HLB : Hid (l.length ≤ 1048576) := hl
 clear hcv hel hl hw H
 obtain ⟨N, hN⟩ : ∃ N, N = l.length := ⟨_, rfl⟩
 have HNN : Hid (N = l.length) := hN
 rw [← hN]
 clear hN
 go_enter Tryz.func25, Tryz.ntmps25
 go_wp2
 go_loopw [3, 4] (fun r3 r4 wr => ∃ (i : Nat) (ao : Option Addr) (cap : Nat), r3 = .slice ao i cap ∧ r4 = .int .i64 (i : Int) ∧ i ≤ N ∧ Hid (UrAt wr w.heap.size d (.slice ao i cap) (l.take i) ∧ Oz w wr)) (fun _ r4 _ => N - vuOf r4)
 case atStart => exact ⟨0, none, 0, rfl, rfl, Nat.zero_le _, ur_nil _ _ _, Only.refl _ _⟩
 case round =>
  obtain ⟨i, ao, cap, rfl, rfl, hi, HI⟩ := hrel
  obtain ⟨w1, rfl⟩ : ∃ w1, w1 = wr := ⟨_, rfl⟩
  have hNl : N = l.length := HNN.out
  have hN4 : l.length ≤ 1048576 := HLB.out
  by_cases hiN : i < N
  ·obtain ⟨x, hx⟩ : ∃ x, l[i]? = some x := ⟨l[i]'(by omega), List.getElem?_eq_getElem (by omega)⟩
   obtain ⟨g, k, u, rfl, hc, hcall⟩ := HE.out i x hx
   have hc1 : w1.cell? ⟨g, k + i, none⟩ = some u := HI.out.2.cell hc (fun g => g)
   have HC : Hid (Cz 46 #[u] w1 fun e w' => ∃ lv, e = .returned (.agg #[.int .i64 x.k, .int .i64 (x.n), .string (x.s), lv]) ∧ Hid (NuAt w' w1.heap.size d x lv ∧ Oz w1 w')) := hcall w1 HI.out.2
   have HX : Hid (l.take i ++ [x] = l.take (i + 1) ∧ (l.take i).length = i) := by
    have hil : i < l.length := by omega
    refine ⟨?_, by simp; omega⟩
    rw [List.take_add_one, hx]
    rfl
   have HB : Hid (i < N ∧ N ≤ 1048576) := ⟨hiN, by omega⟩
   have i1 : (i : Int) < (N : Int) := by omega
   have i0 : (0 : Int) ≤ (i : Int) := by omega
   clear hc hcall HE hNl hN4 hx
   obtain ⟨x0, hx0⟩ : ∃ x0, x0 = x.k := ⟨_, rfl⟩
   obtain ⟨x1, hx1⟩ : ∃ x1, x1 = x.n := ⟨_, rfl⟩
   obtain ⟨x2, hx2⟩ : ∃ x2, x2 = x.s := ⟨_, rfl⟩
   have HXX : Hid (x0 = x.k ∧ x1 = x.n ∧ x2 = x.s) := ⟨hx0, hx1, hx2⟩
   rw [← hx0, ← hx1, ← hx2] at HC
   clear hx0 hx1 hx2
   go_wp2_with fail
   refine (show Cz 46 _ _ _ from HC.out).mono ?_
   rintro e w2 ⟨lv, rfl, g2⟩
   obtain ⟨al, cl, hlv⟩ := g2.out.1.form
   have W4 : UrAt (w2.alloc (.cells #[.int .i64 x0, .int .i64 x1, .string x2, lv] 38)) w.heap.size d (.slice ao i cap) (l.take i) := (HI.out.1.only g2.out.2 (fun _ _ h => h)).only ((Only.refl (fun _ => False) w2).alloc _) (fun _ _ h => h)
   have N4 : NuAt (w2.alloc (.cells #[.int .i64 x0, .int .i64 x1, .string x2, lv] 38)) w1.heap.size d x lv := g2.out.1.only ((Only.refl (fun _ => False) w2).alloc _) (fun _ _ h => h)
   have O4 : Oz w (w2.alloc (.cells #[.int .i64 x0, .int .i64 x1, .string x2, lv] 38)) := (HI.out.2.trans g2.out.2 (fun _ _ g => g)).alloc _
   have hlt : ∀ k, (Value.slice ao i cap).ownBlock = some k → k < w1.heap.size := fun k hk => by
    obtain ⟨us, S', hr, _⟩ := HI.out.1
    exact (hr.lt k hk).2
   have hsz1 : w.heap.size ≤ w1.heap.size := HI.out.2.size
   have hsz2 : w1.heap.size ≤ w2.heap.size := g2.out.2.size
   obtain ⟨us, SS, hown, htr, hSS⟩ := W4
   rw [HX.out.2] at hown
   have HOW : Hid ((w2.alloc (.cells #[.int .i64 x0, .int .i64 x1, .string x2, lv] 38)).ownsRow w.heap.size 38 4 (.slice ao i cap) i us) := hown
   have HAL : Hid (_ ∧ _ ∧ NuAt (w2.alloc (.cells #[.int .i64 x0, .int .i64 x1, .string x2, lv] 38)) w1.heap.size d x lv ∧ Oz w (w2.alloc (.cells #[.int .i64 x0, .int .i64 x1, .string x2, lv] 38)) ∧ w.heap.size ≤ w1.heap.size ∧ (∀ k, (Value.slice ao i cap).ownBlock = some k → k < w1.heap.size)) := ⟨htr, hSS, N4, O4, hsz1, hlt⟩
   subst hlv
   obtain ⟨i0', z0, hi', hz0, hz1, hz2, hz3⟩ := uv_info
   obtain ⟨xl, hxl⟩ : ∃ xl, xl = x.l.length := ⟨_, rfl⟩
   rw [← hxl] at HOW HAL
   rw [← hxl]
   clear N4 O4 hown htr hSS hlt g2 HI HC hxl
   go_wp2_with (at_builtin; refine wpList_append_own_at _ rfl _ _ 22 rfl w.heap.size 38 i0' z0 4 56 Tryz.underlying22 hi' hz0 hz1 hz2 hz3 (by decide) _ i us rfl HOW.out ⟨w2.heap.size, 0, none⟩ 1 1 [.int .i64 x0, .int .i64 x1, .string x2, .slice al xl cl] rfl rfl ?c1 ?c2 ?c3 ?c4 ?c5 ?_)
   case c1 =>
    intro j u hj
    rcases j with _ | _ | _ | _ | j <;> simp at hj <;> subst hj <;> simp [Addr.add]
   case c2 =>
    intro u hu
    simp only [List.mem_cons, List.not_mem_nil, or_false] at hu
    rcases hu with rfl | rfl | rfl | rfl <;> rfl
   case c3 => have := HB.out; unfold maxLen; omega
   case c4 => have := HB.out; omega
   case c5 => simp; omega
   intro v' w4 hown' hgrow _ hat
   obtain ⟨a1, a2, a3, a4, a5, a6⟩ := HAL.out
   obtain ⟨e0, e1, e2⟩ := HXX.out
   have W5 : UrAt w4 w.heap.size d v' (l.take i ++ [x]) := UrAt.snoc hgrow (by rw [HX.out.2]; exact HOW.out) a1 a2 a3 a5 a6 (by rw [HX.out.2, ← e0, ← e1, ← e2]; exact hown') (by simpa using hat)
   rw [HX.out.1] at W5
   have og : Only (fun k => (Value.slice ao i cap).ownBlock = some k) (w2.alloc (.cells #[.int .i64 x0, .int .i64 x1, .string x2, .slice al xl cl] 38)) w4 := (Only.refl _ _).grown hgrow (fun k e _ => e)
   have O5 : Oz w w4 := a4.trans og (fun k hk e => by have := (HOW.out.lt k e).1; omega)
   obtain ⟨ao', cap', hv'⟩ := W5.form
   have hlen : (l.take (i + 1)).length = i + 1 := by have : N = l.length := HNN.out; have := HB.out; simp; omega
   rw [hlen] at hv'
   subst hv'
   have HK5 : Hid (UrAt w4 w.heap.size d (.slice ao' (i + 1) cap') (l.take (i + 1)) ∧ Oz w w4) := ⟨W5, O5⟩
   clear W5 O5 og HAL HOW hown' hgrow hat a1 a2 a3 a4 a5 a6 hi' hz0 hz1 hz2 hz3 hsz1 hsz2 e0 e1 e2 HXX hlen
   have hi4 : i ≤ 1048576 := by have := HB.out; omega
   go_wp2
   go_roundw
   case rel => exact ⟨i + 1, ao', cap', rfl, by go_num, by omega, HK5⟩
   case measure => simp only [vuOf]; have := HB.out; omega
  ·obtain rfl : i = N := by omega
   have i1 : ¬ (i : Int) < (i : Int) := by omega
   have HK : Hid (UrAt w1 w.heap.size d (.slice ao i cap) l ∧ Oz w w1) := by
    have := HI.out
    rw [hNl, List.take_length, ← hNl] at this
    exact this
   clear HI hNl hN4
   go_wp2
   go_ret
   exact ⟨ao, cap, rfl, HK⟩
theorem utrees_any : ∀ (d d' : Nat), d' < d → TuE d' 11 false ∧ TuE d' 46 true
 | 0, d', h => by omega
 | d + 1, d', h => by
   have ih := utrees_any d
   by_cases hd : d' < d
   ·exact ih d' hd
   ·obtain rfl : d' = d := by omega
    cases d' with
    | zero => exact ⟨fun v t w S h => h.elim, fun v t w S h => h.elim⟩
    | succ e => exact ⟨utree_of e (utrees_of e (ih e (by omega)).1) (uitrees_of e (ih e (by omega)).2), uitree_of e (ih e (by omega)).1⟩
end Go.Proofs.YtenjollhlgjjdaaGreatDoor
namespace Go.Proofs.YtenjollhlgjjdaaGreatDoor
open Go.RowKit Go.Lib
theorem sameall_ne (a1 a2 : Option Addr) (La Lb c1 c2 : Nat) (w : World) (h : ¬ (La : Int) = (Lb : Int)) : Cz 9 #[.slice a1 La c1, .slice a2 Lb c2] w fun e w' => e = .returned (.bool false) ∧ Oz w w' := by
 have O0 : Hid (Oz w w) := Only.refl _ _
 go_enter Tryz.func9, Tryz.ntmps9
 go_wp2
 go_ret
 exact ⟨rfl, O0.out⟩
theorem dsameall_of (d : Nat) (H : DmC d) : DaC (d + 1) := by
 intro la lb va vb w S S' h1 h2 hla hlb gla glb
 obtain ⟨aa, ca, rfl, hca, ha⟩ := h1
 obtain ⟨ab, cb, rfl, hcb, hb⟩ := h2
 by_cases hlen : la.length = lb.length
 ·have HE : Hid (∀ (j : Nat) (x y : Vt), la[j]? = some x → lb[j]? = some y → ∃ g k lx g' k' lx', aa = some ⟨g, k, none⟩ ∧ ab = some ⟨g', k', none⟩ ∧ (w.cell? ⟨g, k + j * 4, none⟩ = some (.int .i64 x.k) ∧ w.cell? ⟨g, k + j * 4 + 1, none⟩ = some (.int .i64 x.n) ∧ w.cell? ⟨g, k + j * 4 + 2, none⟩ = some (.string x.s) ∧ w.cell? ⟨g, k + j * 4 + 3, none⟩ = some lx) ∧ (w.cell? ⟨g', k' + j * 4, none⟩ = some (.int .i64 y.k) ∧ w.cell? ⟨g', k' + j * 4 + 1, none⟩ = some (.int .i64 y.n) ∧ w.cell? ⟨g', k' + j * 4 + 2, none⟩ = some (.string y.s) ∧ w.cell? ⟨g', k' + j * 4 + 3, none⟩ = some lx') ∧ ∀ w1, Oz w w1 → Cz 22 #[.agg #[.int .i64 x.k, .int .i64 x.n, .string x.s, lx], .agg #[.int .i64 y.k, .int .i64 y.n, .string y.s, lx']] w1 fun e w' => e = .returned (.bool (saV d x y)) ∧ Oz w1 w') := by
   intro j x y hx hy
   obtain ⟨g, k, lx, p1, p2, p3, p4⟩ := ha j x hx
   obtain ⟨g', k', lx', q1, q2, q3, q4⟩ := hb j y hy
   exact ⟨g, k, lx, g', k', lx', p1, q1, p3, q3, fun w1 o1 => H x y lx lx' w1 S S' (p4.only o1) (q4.only o1) (gla x (List.mem_of_getElem? hx)) (glb y (List.mem_of_getElem? hy))⟩
  have HLB : Hid (la.length ≤ 1048576 ∧ la.length = lb.length) := ⟨hla, hlen⟩
  clear ha hb H hca hcb gla glb hla hlb
  rw [← hlen]
  obtain ⟨N, hN⟩ : ∃ N, N = la.length := ⟨_, rfl⟩
  have HNN : Hid (N = la.length) := hN
  rw [← hN]
  show Cz 9 #[.slice aa N ca, .slice ab N cb] w fun e w' => e = .returned (.bool (smL (saV d) la lb)) ∧ Oz w w'
  obtain ⟨R, hR⟩ : ∃ R, R = smL (saV d) la lb := ⟨_, rfl⟩
  rw [← hR]
  have HR : Hid (R = smL (saV d) (la.drop 0) (lb.drop 0)) := hR
  clear hN hlen hR
  go_enter Tryz.func9, Tryz.ntmps9
  go_wp2
  go_loopw [5] (fun r5 wr => ∃ i : Nat, r5 = .int .i64 (i : Int) ∧ i ≤ N ∧ Hid (R = smL (saV d) (la.drop i) (lb.drop i)) ∧ Hid (Oz w wr)) (fun r5 _ => N - uOf r5)
  case atStart => exact ⟨0, rfl, Nat.zero_le _, HR, Only.refl _ _⟩
  case round =>
   clear HR
   obtain ⟨i, rfl, hi, HR, HI⟩ := hrel
   obtain ⟨w1, rfl⟩ : ∃ w1, w1 = wr := ⟨_, rfl⟩
   have hNl : N = la.length := HNN.out
   have hN4 : la.length ≤ 1048576 ∧ la.length = lb.length := HLB.out
   by_cases hiN : i < N
   ·obtain ⟨x, hx⟩ : ∃ x, la[i]? = some x := ⟨la[i]'(by omega), List.getElem?_eq_getElem (by omega)⟩
    obtain ⟨y, hy⟩ : ∃ y, lb[i]? = some y := ⟨lb[i]'(by omega), List.getElem?_eq_getElem (by omega)⟩
    obtain ⟨g, k, lx, g', k', lx', rfl, rfl, ⟨h0, h1, h2, h3⟩, ⟨h4, h5, h6, h7⟩, hcall⟩ := HE.out i x y hx hy
    have o1 := HI.out
    have HS : Hid (∀ w', Oz w1 w' → (w'.cell? ⟨g, k + i * 4, none⟩ = some (.int .i64 x.k) ∧ w'.cell? ⟨g, k + i * 4 + 1, none⟩ = some (.int .i64 x.n) ∧ w'.cell? ⟨g, k + i * 4 + 2, none⟩ = some (.string x.s) ∧ w'.cell? ⟨g, k + i * 4 + 3, none⟩ = some lx) ∧ (w'.cell? ⟨g', k' + i * 4, none⟩ = some (.int .i64 y.k) ∧ w'.cell? ⟨g', k' + i * 4 + 1, none⟩ = some (.int .i64 y.n) ∧ w'.cell? ⟨g', k' + i * 4 + 2, none⟩ = some (.string y.s) ∧ w'.cell? ⟨g', k' + i * 4 + 3, none⟩ = some lx')) := fun w' o => by
     have oo := o1.trans o (fun _ _ g => g)
     exact ⟨⟨oo.cell h0 (fun g => g), oo.cell h1 (fun g => g), oo.cell h2 (fun g => g), oo.cell h3 (fun g => g)⟩, ⟨oo.cell h4 (fun g => g), oo.cell h5 (fun g => g), oo.cell h6 (fun g => g), oo.cell h7 (fun g => g)⟩⟩
    obtain ⟨Z, hZ⟩ : ∃ Z, Z = saV d x y := ⟨_, rfl⟩
    rw [← hZ] at hcall
    have HR2 : Hid (R = (Z && smL (saV d) (la.drop (i + 1)) (lb.drop (i + 1)))) := by
     have := HR.out
     rw [drop_at hx, drop_at hy] at this
     rw [hZ]
     exact this
    have HCC : Hid (∀ w1, Oz w w1 → Cz 22 #[.agg #[.int .i64 x.k, .int .i64 x.n, .string x.s, lx], .agg #[.int .i64 y.k, .int .i64 y.n, .string y.s, lx']] w1 fun e w' => e = .returned (.bool Z) ∧ Oz w1 w') := hcall
    obtain ⟨⟨c0, c1, c2, c3⟩, ⟨c4, c5, c6, c7⟩⟩ := HS.out w1 (Only.refl _ _)
    have HB : Hid (i < N ∧ N ≤ 1048576) := ⟨hiN, by omega⟩
    have i1 : (i : Int) < (N : Int) := by omega
    have i0 : (0 : Int) ≤ (i : Int) := by omega
    have hi4 : i ≤ 1048576 := by omega
    obtain ⟨x0, hx0⟩ : ∃ x0, x0 = x.k := ⟨_, rfl⟩
    obtain ⟨x1, hx1⟩ : ∃ x1, x1 = x.n := ⟨_, rfl⟩
    obtain ⟨x2, hx2⟩ : ∃ x2, x2 = x.s := ⟨_, rfl⟩
    obtain ⟨y0, hy0⟩ : ∃ y0, y0 = y.k := ⟨_, rfl⟩
    obtain ⟨y1, hy1⟩ : ∃ y1, y1 = y.n := ⟨_, rfl⟩
    obtain ⟨y2, hy2⟩ : ∃ y2, y2 = y.s := ⟨_, rfl⟩
    rw [← hx0, ← hx1, ← hx2, ← hy0, ← hy1, ← hy2] at HCC HS
    rw [← hx0] at c0
    rw [← hx1] at c1
    rw [← hx2] at c2
    rw [← hy0] at c4
    rw [← hy1] at c5
    rw [← hy2] at c6
    clear hx0 hx1 hx2 hy0 hy1 hy2 HE h0 h1 h2 h3 h4 h5 h6 h7 hcall o1 hx hy hZ hNl hN4 hi hiN HR
    go_wp2_with fail
    have OR : Hid (Oz w1 w1) := Only.refl _ _
    go_region_held3 (fun w' => (w'.cell? ⟨g, k + i * 4, none⟩ = some (.int .i64 x0) ∧ w'.cell? ⟨g, k + i * 4 + 1, none⟩ = some (.int .i64 x1) ∧ w'.cell? ⟨g, k + i * 4 + 2, none⟩ = some (.string x2) ∧ w'.cell? ⟨g, k + i * 4 + 3, none⟩ = some lx) ∧ (w'.cell? ⟨g', k' + i * 4, none⟩ = some (.int .i64 y0) ∧ w'.cell? ⟨g', k' + i * 4 + 1, none⟩ = some (.int .i64 y1) ∧ w'.cell? ⟨g', k' + i * 4 + 2, none⟩ = some (.string y2) ∧ w'.cell? ⟨g', k' + i * 4 + 3, none⟩ = some lx'))
     (first
      | with_reducible exact HS.out _ OR.out.drew
      | with_reducible exact HS.out _ O2.out)
     (first | (go_at_call 22; refine (show Cz 22 _ _ _ from HCC.out _ HI.out.drew).mono ?_; rintro ex w2 ⟨rfl, o2⟩; have O2 : Hid (Oz w1 w2) := OR.out.drew.trans o2 (fun _ _ g => g)))
    have HK : Hid (Oz w w2) := HI.out.trans O2.out (fun _ _ g => g)
    clear HI O2 OR HS HCC c0 c1 c2 c3 c4 c5 c6 c7 o2
    cases Z with
    | false =>
      go_wp2
      go_ret
      exact ⟨by rw [HR2.out]; rfl, HK.out⟩
    | true =>
      go_wp2
      go_roundw
      case rel => exact ⟨i + 1, by go_num, by have := HB.out; omega, HR2.out.trans (Bool.true_and _), HK⟩
      case measure => simp only [uOf]; have := HB.out; omega
   ·obtain rfl : i = N := by omega
    have i1 : ¬ (i : Int) < (i : Int) := by omega
    have HR2 : Hid (R = true) := by
     have := HR.out
     rw [List.drop_eq_nil_of_le (show la.length ≤ i by omega), List.drop_eq_nil_of_le (show lb.length ≤ i by omega)] at this
     exact this
    clear HE hNl hN4 hi hiN HR
    go_wp2
    go_ret
    exact ⟨by rw [HR2.out]; rfl, HI.out⟩
 ·show Cz 9 _ w fun e w' => e = .returned (.bool (smL (saV d) la lb)) ∧ Oz w w'
  rw [smL_len _ _ _ hlen]
  exact sameall_ne _ _ _ _ _ _ w (by omega)
theorem dsame_all : ∀ (d : Nat), DaC d ∧ DmC d
 | 0 => ⟨fun la lb va vb w S S' h => h.elim, fun a b va vb w S S' h => h.elim⟩
 | d + 1 => ⟨dsameall_of d (dsame_all d).2, dsame_of d (dsameall_of d (dsame_all d).2)⟩
theorem ok_kind {d : Nat} {t : Vt} (h : okV (d + 1) false t = true) : t.k = 1 ∨ t.k = 2 ∨ t.k = 3 ∨ t.k = 4 ∨ t.k = 5 ∨ t.k = 6 := by
 by_cases hk : t.k = 4 ∨ t.k = 5
 ·omega
 ·rw [show okV (d + 1) false t = alB t from if_neg hk] at h
  unfold alB at h
  split at h
  ·omega
  split at h
  ·omega
  split at h
  ·omega
  ·have := of_decide_eq_true h
   omega
theorem nm_sm : ∀ (d : Nat) (i : Bool) (t : Vt), SmT d t → SmT d (nm d i t)
 | 0, _, _, h => h.elim
 | d + 1, i, t, h => by
   obtain ⟨k, n, s, l⟩ := t
   obtain ⟨h1, h2, h3, h4, h5⟩ := h
   dsimp only at h1 h2 h3 h4 h5
   have z : ∀ m : Int, m ∈ [0, 1, 2, 3, 4, 5, 6, 7, 8] → (-9223372036854775808 : Int) ≤ m ∧ m ≤ 9223372036854775807 := fun m hm => by
    simp only [List.mem_cons, List.not_mem_nil, or_false] at hm
    omega
   have e0 : (⟨#[]⟩ : ByteArray).size ≤ 268435456 := Nat.zero_le _
   unfold nm
   dsimp only
   split
   ·exact ⟨e0, Nat.zero_le _, z 1 (by simp), h4, fun x hx => by cases hx⟩
   split
   ·exact ⟨h1, Nat.zero_le _, z 2 (by simp), z 0 (by simp), fun x hx => by cases hx⟩
   split
   ·refine ⟨e0, Nat.zero_le _, z 3 (by simp), ?_, fun x hx => by cases hx⟩
    dsimp only
    split
    ·exact z 1 (by simp)
    ·exact z 0 (by simp)
   split
   ·refine ⟨e0, by simpa using h2, z 4 (by simp), z 0 (by simp), fun x hx => ?_⟩
    obtain ⟨y, hy, rfl⟩ := List.mem_map.1 hx
    exact nm_sm d false y (h5 y hy)
   split
   ·refine ⟨e0, by simpa using h2, z 5 (by simp), z 0 (by simp), fun x hx => ?_⟩
    obtain ⟨y, hy, rfl⟩ := List.mem_map.1 hx
    exact nm_sm d true y (h5 y hy)
   split
   ·exact ⟨e0, Nat.zero_le _, z 6 (by simp), h4, fun x hx => by cases hx⟩
   split
   ·exact ⟨h1, Nat.zero_le _, z 7 (by simp), z 0 (by simp), fun x hx => by cases hx⟩
   ·exact ⟨e0, Nat.zero_le _, z 8 (by simp), z 0 (by simp), fun x hx => by cases hx⟩
def Vx (w : World) (B d : Nat) (t : Vt) (x : Value) : Prop := NiAt w B (2 * d + 1) false (nm d false t) x
theorem Vx.only {w w' : World} {B d : Nat} {t : Vt} {x : Value} {bs : Nat → Prop} (h : Vx w B d t x) (o : Only bs w w') (hb : ∀ b, B ≤ b → ¬ bs b) : Vx w' B d t x := NiAt.only h o hb
theorem LfT.mono : ∀ {d d' : Nat} {t : Vt}, d ≤ d' → LfT d t → LfT d' t
 | 0, _, _, _, h => h.elim
 | d + 1, 0, t, hd, h => by omega
 | d + 1, e + 1, t, hd, h => ⟨h.1, fun x hx => (h.2 x hx).mono (by omega)⟩
structure Pr where
 name : ByteArray
 ks : List Int
 cy : Nat → List Vt → Except Int (List Vt)
structure PrC (p : Pr) : Prop where
 wt : WtC p.name p.ks
 cy : CyC p.name p.ks p.cy
 one : 1 ≤ p.ks.length
 few : p.ks.length ≤ 3
theorem QiAt.ps {w : World} {S : Nat → Prop} {d n : Nat} {i : Bool} {ao : Option Addr} {cap : Nat} {l : List Vt} (h : QiAt w S d i (.slice ao n cap) l) : PsAt w S d i l ao := by
 obtain ⟨a, c, he, _, h2⟩ := h
 cases he
 exact h2
theorem smL_self (f : Vt → Vt → Bool) : ∀ (l : List Vt), (∀ x ∈ l, f x x = true) → smL f l l = true
 | [], _ => rfl
 | t :: l, h => by
   have h1 := h t (List.mem_cons_self ..)
   have h2 := smL_self f l (fun x hx => h x (List.mem_cons_of_mem _ hx))
   simp only [smL, h1, h2, Bool.and_true]
theorem saV_self : ∀ (d : Nat) (t : Vt), LfT d t → saV d t t = true
 | 0, _, h => h.elim
 | d + 1, t, h => by
   have h1 : smL (saV d) t.l t.l = true := smL_self _ _ (fun x hx => saV_self d x (h.2 x hx))
   have h2 : saL t.k t.n t.n t.s t.s = true := by
    unfold saL
    split
    ·simp
    split
    ·simp
    split
    ·simp
    ·rfl
   simp only [saV, h1, h2, decide_true, Bool.and_true]
theorem UrAt.vs {w : World} {B d : Nat} {v : Value} {l : List Vt} (h : UrAt w B d v l) : ∃ S, VsAt w S (d + 1) l v := by
 obtain ⟨S, h1, _⟩ := h.tree (t := ⟨0, 0, ⟨#[]⟩, l⟩) rfl
 exact ⟨S, h1⟩
def pDup : Pr := ⟨⟨#[100, 117, 112]⟩, [63], fun _ l => .ok (lsR [0, 0] l)⟩
theorem cDup : PrC pDup := ⟨wt_0, cy_mv mv_0 (by decide) (by decide) (by decide), by decide, by decide⟩
def Gs (e : Nat) (t : Vt) : Prop := LfT e t ∧ dsB e t = true
theorem Gs.sd {e D : Nat} {t : Vt} (h : Gs e t) (hD : 2 * e + 1 ≤ D) : sdB D t = true := (ds_sd h.1 hD).trans h.2
theorem Gs.fb {e : Nat} {t : Vt} (h : Gs e t) : fb t 63 = true := by
 have h1 := h.sd (Nat.le_refl _)
 unfold sdB msB at h1
 simp only [Bool.and_eq_true] at h1
 have h2 := ok_kind h1.1.1
 rw [fb_63]
 simpa using h2
section
variable {e D : Nat} {x y z : Vt} (hx : Gs e x) (hy : Gs e y) (hz : Gs e z) (hD : 2 * e + 1 ≤ D)
end
end Go.Proofs.YtenjollhlgjjdaaGreatDoor
