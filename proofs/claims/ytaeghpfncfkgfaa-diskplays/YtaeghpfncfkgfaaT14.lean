/- What the law's helper 'grown' answers: a disk of at most 64 sectors, without an end to its life. -/
import Derived.Test.YtaeghpfncfkgfaaT13
namespace Go.Proofs.Ytaeghpfncfkgfaa
open Go.RowKit
set_option linter.unusedSimpArgs false
set_option linter.unusedVariables false

/-- What Crash answers, and what it leaves of a disk. -/
def DS.crash (d : DS) (ks : List Bool) (torn cut : Int) : Int × DS :=
  if cut < 0 ∨ 32 < cut then (2, d) else (0, ⟨d.n, crashTo (fun i => decide (i < ks.length) && ks.getD i false) torn cut.toNat d.pend (undoW d.pend d.sec) d.pend.length, [], -1⟩)
theorem crash_all (p S B : Nat) (pv kv : Value) (d : DS) (ks : List Bool) (torn cut : Int) (w : World) (h : DiskAt w B p S pv d) (hk : FlagsAt w kv ks.length (fun j => ks.getD j false) S) :
    Calls Try.prog 19 #[.pointer (some ⟨p, 0, none⟩), kv, .int .i64 torn, .int .i64 cut] w fun e w' => e = .returned (.int .i64 (d.crash ks torn cut).1) ∧ ∃ pv', DiskAt w' B p S pv' (d.crash ks torn cut).2 ∧ Only (fun i => i = p ∨ i = S) w w' ∧ (∀ b, pv'.ownBlock = some b → pv.ownBlock = some b) := by
  by_cases e : cut < 0 ∨ 32 < cut
  · have hw : d.crash ks torn cut = (2, d) := by simp [DS.crash, e]
    rw [hw]
    refine (crash_bad p kv torn cut w e).mono ?_
    rintro e' w' ⟨rfl, rfl⟩
    exact ⟨rfl, pv, h, Only.refl _ _, fun _ hb => hb⟩
  · have hw : d.crash ks torn cut = (0, ⟨d.n, crashTo (fun i => decide (i < ks.length) && ks.getD i false) torn cut.toNat d.pend (undoW d.pend d.sec) d.pend.length, [], -1⟩) := by simp [DS.crash, e]
    rw [hw]
    have hc : cut = (cut.toNat : Int) := by omega
    have := crash_any p S B ks.length cut.toNat pv kv (fun j => ks.getD j false) torn d w h (by omega) hk
    rw [← hc] at this
    refine this.mono ?_
    rintro e' w' ⟨he, hd, ho⟩
    exact ⟨he, _, hd, ho, fun b hb => by simp [Value.ownBlock] at hb⟩
theorem flags_own {w : World} {B m cap S : Nat} {a : Option Addr} {f : Nat → Bool} (h : w.ownsRow B 4 1 (.slice a m cap) m ((List.range m).map fun j => .bool (f j))) (hm : m ≤ maxLen) (hS : S < B) : FlagsAt w (.slice a m cap) m f S := by
  refine ⟨a, cap, rfl, hm, fun i hi => ?_⟩
  rcases h.2 with ⟨_, h2⟩ | ⟨g, c2, cur, hv, hg, _⟩
  · omega
  · simp only [Value.slice.injEq] at hv
    obtain ⟨rfl, _, rfl⟩ := hv
    refine ⟨g, 0, rfl, by omega, ?_⟩
    rw [Nat.zero_add, h.cellAt i (by omega)]
    simp [hi]
theorem ScriptAt.frame {W W' : World} {v : Value} {os : List OpD} (h : ScriptAt W v os) (ho : Only (fun _ => False) W W') : ScriptAt W' v os := by
  refine ⟨h.1.imp id ?_, h.2.1, fun o hm => ?_⟩
  · rintro ⟨ad, c, hv, hc⟩
    exact ⟨ad, c, hv, fun i hi j u hu => ho.cell (hc i hi j u hu) (fun e => e)⟩
  · obtain ⟨h1, h2, h3⟩ := h.2.2 o hm
    exact ⟨⟨h1.1.frame ho (fun _ e => e.elim), h1.2⟩, ⟨h2.1.frame ho (fun _ e => e.elim), h2.2⟩, h3⟩
theorem OpD.ok.frame {W W' : World} {o : OpD} (h : o.ok W) (ho : Only (fun _ => False) W W') : o.ok W' := by
  obtain ⟨h1, h2, h3⟩ := h
  exact ⟨⟨h1.1.frame ho (fun _ e => e.elim), h1.2⟩, ⟨h2.1.frame ho (fun _ e => e.elim), h2.2⟩, h3⟩
theorem ScriptAt.get {W : World} {v : Value} {os : List OpD} (h : ScriptAt W v os) (i : Nat) (hi : i < os.length) : ∃ g o c, v = .slice (some ⟨g, o, none⟩) os.length c ∧ W.rangeAt g (o + i * 7) (os[i]).cells := by
  rcases h.1 with ⟨_, h0⟩ | ⟨ad, c, hv, hc⟩
  · subst h0; simp at hi
  · have h0 := hc i hi 0 _ rfl
    have hsp := World.cell?_spot h0
    obtain ⟨g, o, spot⟩ := ad
    have hs : spot = none := by
      by_cases e : i * 7 + 0 = 0
      · simpa [Addr.add, e] using hsp
      · have := hc 0 (by omega) 0 _ rfl
        have h2 := World.cell?_spot this
        simpa [Addr.add] using h2
    subst hs
    exact ⟨g, o, c, hv, fun j u hu => by have := hc i hi j u hu; rw [Addr.add_mid] at this; rw [Nat.add_assoc]; exact this⟩
theorem ScriptAt.form {W : World} {v : Value} {os : List OpD} (h : ScriptAt W v os) : ∃ a c, v = .slice a os.length c := by
  rcases h.1 with ⟨h1, h2⟩ | ⟨ad, c, hv, _⟩
  · exact ⟨none, 0, by rw [h1, h2]; rfl⟩
  · exact ⟨_, _, hv⟩
theorem size34 : (Try.prog.info? 34).map (·.size) = some 7 := by kernel_rfl

/-- One step of a script, on a disk: it lives on, and at most one write more is pending. -/
def Steps (d d' : DS) : Prop := d'.n = d.n ∧ d'.life = -1 ∧ d'.pend.length ≤ d.pend.length + 1

set_option maxRecDepth 100000 in
set_option maxHeartbeats 4000000 in
theorem grown_in (n : Nat)  (h1 : 1 ≤ n) (h2 : n ≤ 64) (v : Value) (os : List OpD) (w : World) (hs : ScriptAt w v os) :
    Calls Try.prog 16 #[.int .i64 n, v] w fun e w' => ∃ p S pv d, e = .returned (.pointer (some ⟨p, 0, none⟩)) ∧ DiskAt w' w.heap.size p S pv d ∧ d.n = n ∧ d.life = -1 ∧ d.pend.length ≤ os.length ∧ Only (fun _ => False) w w' := by
  obtain ⟨a, c, rfl⟩ := hs.form
  have hlen : os.length * 88 ≤ 140737488351232 := hs.2.1
  go_enter Try.func16, Try.ntmps16
  go_wp2_with fail
  refine (new_any n w (by omega) (by omega)).mono ?_
  rintro e w1 ⟨p, S, rfl, d1, o1⟩
  have HD1 : Hid (DiskAt w1 w.heap.size p S (.slice none 0 0) ⟨n, fun _ _ => 0, [], -1⟩) := d1
  have HO1 : Hid (Only (fun _ => False) w w1) := o1
  have HS : Hid (ScriptAt w (.slice a os.length c) os) := hs
  clear d1 o1 hs
  go_wp2_with fail
  go_loopw [7] (fun t wr => ∃ i : Nat, i ≤ os.length ∧ t = .int .i64 i ∧ (∃ pv d, DiskAt wr w.heap.size p S pv d ∧ d.n = n ∧ d.life = -1 ∧ d.pend.length ≤ i) ∧ Only (fun _ => False) w wr) (fun t _ => os.length - (intOf t).toNat)
  case atStart => exact ⟨0, Nat.zero_le _, rfl, ⟨_, _, HD1.out, rfl, rfl, Nat.le_refl _⟩, HO1.out⟩
  case round =>
    obtain ⟨i, hi, rfl, ⟨pv, d, hd, hdn, hdl, hdp⟩, ho⟩ := hrel
    by_cases hlt : i < os.length
    · obtain ⟨x, hx⟩ : ∃ x, x = os[i] := ⟨_, rfl⟩
      obtain ⟨g, o, c', hv, hrange⟩ := HS.out.get i hlt
      simp only [Value.slice.injEq] at hv
      obtain ⟨rfl, _, rfl⟩ := hv
      rw [← hx] at hrange
      have hrw := ho.range hrange (fun e => e)
      have hxok : x.ok wr := (HS.out.2.2 x (by rw [hx]; exact List.getElem_mem _)).frame ho
      clear hx hrange
      obtain ⟨kind, sx, nx, cut, odd, xb, keep, vb, vk⟩ := x
      have i0 : (0 : Int) ≤ (i : Int) := Int.natCast_nonneg _
      have i1 : (i : Int) < (os.length : Int) := by omega
      have hu34 := Try.underlying34
      have hvbk : (∃ a m c, vb = .slice a m c) ∧ (∃ a m c, vk = .slice a m c) := by
        refine ⟨?_, ?_⟩
        · rcases hxok.1.1 with ⟨h, _⟩ | ⟨ad, c, h, _⟩ <;> exact ⟨_, _, _, h⟩
        · rcases hxok.2.1.1 with ⟨h, _⟩ | ⟨ad, c, h, _⟩ <;> exact ⟨_, _, _, h⟩
      obtain ⟨⟨ab, mb, cb, hvb⟩, ⟨ak, mk, ck, hvk⟩⟩ := hvbk
      subst hvb hvk
      simp only [OpD.cells] at hrw
      have hi34 : (Try.prog.info? 34).map (·.size) = some ([Value.int .i64 kind, .int .i64 sx, .int .i64 nx, .int .i64 cut, .bool odd, .slice ab mb cb, .slice ak mk ck] : List Value).length := by rw [size34]; rfl
      -- the world behind the copy of the call
      obtain ⟨wx, hwx⟩ : ∃ q, q = wr.alloc (.cells #[.int .i64 kind, .int .i64 sx, .int .i64 nx, .int .i64 cut, .bool odd, .slice ab mb cb, .slice ak mk ck] 34) := ⟨_, rfl⟩
      obtain ⟨Bx, hBx⟩ : ∃ q, q = wr.heap.size := ⟨_, rfl⟩
      have oX : Only (fun _ => False) wr wx := by rw [hwx]; exact (Only.refl _ wr).alloc _
      have bX : wx.heap[Bx]? = some (.cells #[.int .i64 kind, .int .i64 sx, .int .i64 nx, .int .i64 cut, .bool odd, .slice ab mb cb, .slice ak mk ck] 34 (0, 0)) := by rw [hwx, hBx]; exact heap_alloc_new wr _
      have dX := hd.frame oX (fun _ _ e => e)
      have hXlt : ∀ k, diskB p S pv k → k < Bx := fun k hk => by have := (hd.lt k hk).2; omega
      have x0 : wx.cell? ⟨Bx, 0, none⟩ = some (.int .i64 kind) := by rw [cell_of_row _ _ _ _ _ _ bX]; rfl
      have hxok2 := hxok.frame oX
      have HW : Hid (wx = wr.alloc (.cells #[.int .i64 kind, .int .i64 sx, .int .i64 nx, .int .i64 cut, .bool odd, .slice ab mb cb, .slice ak mk ck] 34)) := hwx
      have HB : Hid (Bx = wr.heap.size) := hBx
      have HO : Hid (Only (fun _ => False) w wx) := ho.trans oX (fun _ _ e => e)
      have HOK : Hid (OpD.ok wx ⟨kind, sx, nx, cut, odd, xb, keep, .slice ab mb cb, .slice ak mk ck⟩) := hxok2
      have HDX : Hid (DiskAt wx w.heap.size p S pv d) := dX
      have hszx : w.heap.size ≤ wx.heap.size := HO.out.size
      clear hwx hBx oX dX hd ho hxok hxok2
      go_wp2_with (first | (refine wpList_load_mid rfl 34 _ rfl g (o + i * 7) rfl _ _ hrw hu34 rfl hi34 ?_))
      · -- Barrier
        rw [← HW.out, ← HB.out]
        refine (barrier_any p S _ pv d wx HDX.out (by rw [hdl]; decide)).mono ?_
        rintro e w5 ⟨rfl, d5, o5⟩
        have HD5 : Hid (DiskAt w5 w.heap.size p S (.slice none 0 0) { d with pend := [], life := aged d.life }) := d5
        have HO5 : Hid (Only (fun _ => False) w w5) := HO.out.trans o5 (fun k hk e => by have := HDX.out.pB; omega)
        clear d5 o5
        go_wp2
        go_roundw
        case rel => exact ⟨i + 1, by omega, by go_num, ⟨_, _, HD5.out, hdn, by simp [aged, hdl], by simp⟩, HO5.out⟩
        case measure => simp [intOf]; omega
      · -- Crash
        rw [← HW.out, ← HB.out]
        obtain ⟨i4, hi4, hz0, hz1, hz2⟩ := info_parts info4
        have oD : Only (fun _ => False) wx wx.drew := (Only.refl _ wx).drew
        obtain ⟨a2, cap2, w2, hr2, own2, o2⟩ := app_copy 32 4 i4 _ 1 Try.underlying32 hi4 hz0 hz1 hz2 rfl rfl wx.drew (.slice ak mk ck) keep.length _ (HOK.out.2.1.1.frame oD (fun _ e => e.elim)) (fun j => rfl) HOK.out.2.1.2
        have oX2 : Only (fun _ => False) wx w2 := oD.trans o2 (fun _ _ e => e)
        have d2 := HDX.out.frame oX2 (fun _ _ e => e)
        have hSl := HDX.out.lt S (.inr (.inl rfl))
        have fl := flags_own (S := S) own2 (by have := HOK.out.2.1.2; unfold maxLen; simp only at this; omega) (by show S < wx.heap.size; omega)
        have z2 : w2.cell? ⟨Bx, 2, none⟩ = some (.int .i64 nx) := oX2.cell (by rw [cell_of_row _ _ _ _ _ _ bX]; rfl) (fun e => e)
        have z3 : w2.cell? ⟨Bx, 3, none⟩ = some (.int .i64 cut) := oX2.cell (by rw [cell_of_row _ _ _ _ _ _ bX]; rfl) (fun e => e)
        have z6 : w2.cell? ⟨Bx, 6, none⟩ = some (.slice ak mk ck) := oX2.cell (by rw [cell_of_row _ _ _ _ _ _ bX]; rfl) (fun e => e)
        have y2 : wx.cell? ⟨Bx, 2, none⟩ = some (.int .i64 nx) := by rw [cell_of_row _ _ _ _ _ _ bX]; rfl
        have y3 : wx.cell? ⟨Bx, 3, none⟩ = some (.int .i64 cut) := by rw [cell_of_row _ _ _ _ _ _ bX]; rfl
        have y6 : wx.cell? ⟨Bx, 6, none⟩ = some (.slice ak mk ck) := by rw [cell_of_row _ _ _ _ _ _ bX]; rfl
        have hBp : Bx ≠ p := by have := hXlt p (.inl rfl); omega
        have hBS : Bx ≠ S := by have := hXlt S (.inr (.inl rfl)); omega
        have HC : Calls Try.prog 19 #[.pointer (some ⟨p, 0, none⟩), .slice a2 keep.length cap2, .int .i64 nx, .int .i64 cut] w2 fun e w3 => (∃ x, e = .returned (.int .i64 x)) ∧ Hid ((∃ pv' d', DiskAt w3 w.heap.size p S pv' d' ∧ d'.n = n ∧ d'.life = -1 ∧ d'.pend.length ≤ i + 1) ∧ Only (fun _ => False) w w3) ∧
            w3.cell? ⟨Bx, 2, none⟩ = some (.int .i64 nx) ∧ w3.cell? ⟨Bx, 3, none⟩ = some (.int .i64 cut) ∧ w3.cell? ⟨Bx, 6, none⟩ = some (.slice ak mk ck) := by
          refine (crash_all p S _ pv _ d keep nx cut w2 d2 fl).mono ?_
          rintro e w3 ⟨rfl, pv', d3, o3, _⟩
          have hx3 : ∀ a v, w2.cell? a = some v → a.block = Bx → w3.cell? a = some v := fun a v h hb => o3.cell h (fun e => by rw [hb] at e; rcases e with e | e; exact hBp e; exact hBS e)
          refine ⟨⟨_, rfl⟩, ⟨⟨pv', _, d3, ?_, ?_, ?_⟩, ?_⟩, hx3 _ _ z2 rfl, hx3 _ _ z3 rfl, hx3 _ _ z6 rfl⟩
          · simp only [DS.crash]; split <;> exact hdn
          · simp only [DS.crash]; split; exact hdl; rfl
          · simp only [DS.crash]; split
            · simp only; omega
            · simp
          · exact (HO.out.trans oX2 (fun _ _ e => e)).trans o3 (fun k hk e => by have h1 := HDX.out.pB; have h2 := HDX.out.SB; omega)
        have HR2 : Hid _ := hr2
        have hem := empty32
        clear oD own2 o2 d2 fl oX2 hr2
        go_region_held3 (fun w' => w'.cell? ⟨Bx, 2, none⟩ = some (.int .i64 nx) ∧ w'.cell? ⟨Bx, 3, none⟩ = some (.int .i64 cut) ∧ w'.cell? ⟨Bx, 6, none⟩ = some (.slice ak mk ck)) (go_keep)
          (first
            | (refine step_append_run (by rfl) _ _ 32 (by rfl) _ _ (.slice a2 keep.length cap2) (by rfl) (by rfl) HR2.out ?_)
            | (go_at_call 19; refine HC.mono ?_; rintro e w3 ⟨⟨xe, rfl⟩, hP3, z32, z33, z36⟩))
        clear HC HR2
        go_wp2
        go_roundw
        case rel => exact ⟨i + 1, by omega, by go_num, hP3.out.1, hP3.out.2⟩
        case measure => simp [intOf]; omega
      · go_roundw
        case rel => exact ⟨i + 1, by omega, by go_num, ⟨pv, d, by rw [← HW.out]; exact HDX.out, hdn, hdl, by omega⟩, by rw [← HW.out]; exact HO.out⟩
        case measure => simp [intOf]; omega
      · go_roundw
        case rel => exact ⟨i + 1, by omega, by go_num, ⟨pv, d, by rw [← HW.out]; exact HDX.out, hdn, hdl, by omega⟩, by rw [← HW.out]; exact HO.out⟩
        case measure => simp [intOf]; omega
      · go_roundw
        case rel => exact ⟨i + 1, by omega, by go_num, ⟨pv, d, by rw [← HW.out]; exact HDX.out, hdn, hdl, by omega⟩, by rw [← HW.out]; exact HO.out⟩
        case measure => simp [intOf]; omega
      · -- Write
        rw [← HW.out, ← HB.out]
        have y0 : wx.cell? ⟨Bx, 0, none⟩ = some (.int .i64 kind) := by rw [cell_of_row _ _ _ _ _ _ bX]; rfl
        have y1 : wx.cell? ⟨Bx, 1, none⟩ = some (.int .i64 sx) := by rw [cell_of_row _ _ _ _ _ _ bX]; rfl
        have y2 : wx.cell? ⟨Bx, 2, none⟩ = some (.int .i64 nx) := by rw [cell_of_row _ _ _ _ _ _ bX]; rfl
        have y3 : wx.cell? ⟨Bx, 3, none⟩ = some (.int .i64 cut) := by rw [cell_of_row _ _ _ _ _ _ bX]; rfl
        have y4 : wx.cell? ⟨Bx, 4, none⟩ = some (.bool odd) := by rw [cell_of_row _ _ _ _ _ _ bX]; rfl
        have y5 : wx.cell? ⟨Bx, 5, none⟩ = some (.slice ab mb cb) := by rw [cell_of_row _ _ _ _ _ _ bX]; rfl
        have y6 : wx.cell? ⟨Bx, 6, none⟩ = some (.slice ak mk ck) := by rw [cell_of_row _ _ _ _ _ _ bX]; rfl
        have hBp : Bx ≠ p := by have := hXlt p (.inl rfl); omega
        have hBS : Bx ≠ S := by have := hXlt S (.inr (.inl rfl)); omega
        have hBv : ¬ pv.ownBlock = some Bx := fun e => by have := hXlt Bx (.inr (.inr e)); omega
        have oD : Only (fun _ => False) wx wx.drew := (Only.refl _ wx).drew
        have HC2 : Calls Try.prog 22 #[.agg #[.int .i64 kind, .int .i64 sx, .int .i64 nx, .int .i64 cut, .bool odd, .slice ab mb cb, .slice ak mk ck]] wx.drew fun e w2 => ∃ a2 m2 cap2, e = .returned (.slice a2 m2 cap2) ∧ Hid (Only (fun _ => False) wx w2) ∧ Hid (∀ a v, wx.cell? a = some v → w2.cell? a = some v) ∧
            Hid (Calls Try.prog 21 #[.pointer (some ⟨p, 0, none⟩), .int .i64 sx, .slice a2 m2 cap2] w2 fun e w3 => (∃ x, e = .returned (.int .i64 x)) ∧ Hid ((∃ pv' d', DiskAt w3 w.heap.size p S pv' d' ∧ d'.n = n ∧ d'.life = -1 ∧ d'.pend.length ≤ i + 1) ∧ Only (fun _ => False) w w3) ∧
              Hid (∀ v j, wx.cell? ⟨Bx, j, none⟩ = some v → w3.cell? ⟨Bx, j, none⟩ = some v)) := by
          refine (bytes_any ⟨kind, sx, nx, cut, odd, xb, keep, .slice ab mb cb, .slice ak mk ck⟩ wx.drew (HOK.out.frame oD)).mono ?_
          rintro e w2 ⟨a2, cap2, rfl, hrow, o2⟩
          have oX2 : Only (fun _ => False) wx w2 := oD.trans o2 (fun _ _ e => e)
          have hbl : (OpD.bytes ⟨kind, sx, nx, cut, odd, xb, keep, .slice ab mb cb, .slice ak mk ck⟩).length ≤ 140737488351232 := by
            unfold OpD.bytes
            split
            · exact HOK.out.1.2.1
            · simp
          refine ⟨a2, _, cap2, rfl, oX2, fun a v h => oX2.cell h (fun e => e), ?_⟩
          refine (write_all p S _ cap2 _ a2 pv d sx _ w2 (HDX.out.frame oX2 (fun _ _ e => e)) hrow (by have := oX2.size; omega) (by omega) hbl).mono ?_
          rintro e w3 ⟨rfl, pv', d3, o3, _⟩
          refine ⟨⟨_, rfl⟩, ⟨⟨pv', _, d3, ?_, ?_, ?_⟩, ?_⟩, fun v j h => o3.cell (oX2.cell h (fun e => e)) (fun e => by rcases e with e | e | e; exact hBp e; exact hBS e; exact hBv e)⟩
          · simp only [DS.write]; split; exact hdn; split; exact hdn; split; exact hdn; exact hdn
          · simp only [DS.write]; split; exact hdl; split; exact hdl; split; exact hdl; simp [aged, hdl]
          · simp only [DS.write]; split; simp only; omega; split; simp only; omega; split; simp only; omega; simp only [List.length_append, List.length_cons, List.length_nil]; omega
          · exact (HO.out.trans oX2 (fun _ _ e => e)).trans o3 (fun k hk e => by have := (HDX.out.lt k e).1; omega)
        clear oD
        go_region_held3 (fun w' => w'.cell? ⟨Bx, 0, none⟩ = some (.int .i64 kind) ∧ w'.cell? ⟨Bx, 1, none⟩ = some (.int .i64 sx) ∧ w'.cell? ⟨Bx, 2, none⟩ = some (.int .i64 nx) ∧ w'.cell? ⟨Bx, 3, none⟩ = some (.int .i64 cut) ∧ w'.cell? ⟨Bx, 4, none⟩ = some (.bool odd) ∧ w'.cell? ⟨Bx, 5, none⟩ = some (.slice ab mb cb) ∧ w'.cell? ⟨Bx, 6, none⟩ = some (.slice ak mk ck)) (first | go_keep | (exact ⟨HA3.out _ 0 y0, HA3.out _ 1 y1, HA3.out _ 2 y2, HA3.out _ 3 y3, HA3.out _ 4 y4, HA3.out _ 5 y5, HA3.out _ 6 y6⟩) | (exact ⟨HA2.out _ _ y0, HA2.out _ _ y1, HA2.out _ _ y2, HA2.out _ _ y3, HA2.out _ _ y4, HA2.out _ _ y5, HA2.out _ _ y6⟩))
          (first
            | (go_at_call 22; refine HC2.mono ?_; rintro e w2 ⟨a2, m2, cap2, rfl, HO2, HA2, HC3⟩)
            | (go_at_call 21; refine HC3.out.mono ?_; rintro e w3 ⟨⟨xe, rfl⟩, hP3, HA3⟩))
        clear HC2 HC3
        go_wp2
        go_roundw
        case rel => exact ⟨i + 1, by omega, by go_num, hP3.out.1, hP3.out.2⟩
        case measure => simp [intOf]; omega
    · obtain rfl : i = os.length := by omega
      have HDR : Hid (DiskAt wr w.heap.size p S pv d) := hd
      clear hd
      go_wp2
      go_ret
      exact ⟨p, S, pv, d, rfl, HDR.out, hdn, hdl, hdp, ho⟩

set_option maxRecDepth 100000 in
set_option maxHeartbeats 4000000 in
theorem grown_lo (s : Int) (hs0 : s < 1) (v : Value) (os : List OpD) (w : World) (hs : ScriptAt w v os) :
    Calls Try.prog 16 #[.int .i64 s, v] w fun e w' => ∃ p S pv d, e = .returned (.pointer (some ⟨p, 0, none⟩)) ∧ DiskAt w' w.heap.size p S pv d ∧ d.n = 4 ∧ d.life = -1 ∧ d.pend.length ≤ os.length ∧ Only (fun _ => False) w w' := by
  obtain ⟨a, c, rfl⟩ := hs.form
  have hlen : os.length * 88 ≤ 140737488351232 := hs.2.1
  go_enter Try.func16, Try.ntmps16
  go_wp2_with fail
  refine (new_any 4 w (by omega) (by omega)).mono ?_
  rintro e w1 ⟨p, S, rfl, d1, o1⟩
  have HD1 : Hid (DiskAt w1 w.heap.size p S (.slice none 0 0) ⟨4, fun _ _ => 0, [], -1⟩) := d1
  have HO1 : Hid (Only (fun _ => False) w w1) := o1
  have HS : Hid (ScriptAt w (.slice a os.length c) os) := hs
  clear d1 o1 hs
  go_wp2_with fail
  go_loopw [7] (fun t wr => ∃ i : Nat, i ≤ os.length ∧ t = .int .i64 i ∧ (∃ pv d, DiskAt wr w.heap.size p S pv d ∧ d.n = 4 ∧ d.life = -1 ∧ d.pend.length ≤ i) ∧ Only (fun _ => False) w wr) (fun t _ => os.length - (intOf t).toNat)
  case atStart => exact ⟨0, Nat.zero_le _, rfl, ⟨_, _, HD1.out, rfl, rfl, Nat.le_refl _⟩, HO1.out⟩
  case round =>
    obtain ⟨i, hi, rfl, ⟨pv, d, hd, hdn, hdl, hdp⟩, ho⟩ := hrel
    by_cases hlt : i < os.length
    · obtain ⟨x, hx⟩ : ∃ x, x = os[i] := ⟨_, rfl⟩
      obtain ⟨g, o, c', hv, hrange⟩ := HS.out.get i hlt
      simp only [Value.slice.injEq] at hv
      obtain ⟨rfl, _, rfl⟩ := hv
      rw [← hx] at hrange
      have hrw := ho.range hrange (fun e => e)
      have hxok : x.ok wr := (HS.out.2.2 x (by rw [hx]; exact List.getElem_mem _)).frame ho
      clear hx hrange
      obtain ⟨kind, sx, nx, cut, odd, xb, keep, vb, vk⟩ := x
      have i0 : (0 : Int) ≤ (i : Int) := Int.natCast_nonneg _
      have i1 : (i : Int) < (os.length : Int) := by omega
      have hu34 := Try.underlying34
      have hvbk : (∃ a m c, vb = .slice a m c) ∧ (∃ a m c, vk = .slice a m c) := by
        refine ⟨?_, ?_⟩
        · rcases hxok.1.1 with ⟨h, _⟩ | ⟨ad, c, h, _⟩ <;> exact ⟨_, _, _, h⟩
        · rcases hxok.2.1.1 with ⟨h, _⟩ | ⟨ad, c, h, _⟩ <;> exact ⟨_, _, _, h⟩
      obtain ⟨⟨ab, mb, cb, hvb⟩, ⟨ak, mk, ck, hvk⟩⟩ := hvbk
      subst hvb hvk
      simp only [OpD.cells] at hrw
      have hi34 : (Try.prog.info? 34).map (·.size) = some ([Value.int .i64 kind, .int .i64 sx, .int .i64 nx, .int .i64 cut, .bool odd, .slice ab mb cb, .slice ak mk ck] : List Value).length := by rw [size34]; rfl
      -- the world behind the copy of the call
      obtain ⟨wx, hwx⟩ : ∃ q, q = wr.alloc (.cells #[.int .i64 kind, .int .i64 sx, .int .i64 nx, .int .i64 cut, .bool odd, .slice ab mb cb, .slice ak mk ck] 34) := ⟨_, rfl⟩
      obtain ⟨Bx, hBx⟩ : ∃ q, q = wr.heap.size := ⟨_, rfl⟩
      have oX : Only (fun _ => False) wr wx := by rw [hwx]; exact (Only.refl _ wr).alloc _
      have bX : wx.heap[Bx]? = some (.cells #[.int .i64 kind, .int .i64 sx, .int .i64 nx, .int .i64 cut, .bool odd, .slice ab mb cb, .slice ak mk ck] 34 (0, 0)) := by rw [hwx, hBx]; exact heap_alloc_new wr _
      have dX := hd.frame oX (fun _ _ e => e)
      have hXlt : ∀ k, diskB p S pv k → k < Bx := fun k hk => by have := (hd.lt k hk).2; omega
      have x0 : wx.cell? ⟨Bx, 0, none⟩ = some (.int .i64 kind) := by rw [cell_of_row _ _ _ _ _ _ bX]; rfl
      have hxok2 := hxok.frame oX
      have HW : Hid (wx = wr.alloc (.cells #[.int .i64 kind, .int .i64 sx, .int .i64 nx, .int .i64 cut, .bool odd, .slice ab mb cb, .slice ak mk ck] 34)) := hwx
      have HB : Hid (Bx = wr.heap.size) := hBx
      have HO : Hid (Only (fun _ => False) w wx) := ho.trans oX (fun _ _ e => e)
      have HOK : Hid (OpD.ok wx ⟨kind, sx, nx, cut, odd, xb, keep, .slice ab mb cb, .slice ak mk ck⟩) := hxok2
      have HDX : Hid (DiskAt wx w.heap.size p S pv d) := dX
      have hszx : w.heap.size ≤ wx.heap.size := HO.out.size
      clear hwx hBx oX dX hd ho hxok hxok2
      go_wp2_with (first | (refine wpList_load_mid rfl 34 _ rfl g (o + i * 7) rfl _ _ hrw hu34 rfl hi34 ?_))
      · -- Barrier
        rw [← HW.out, ← HB.out]
        refine (barrier_any p S _ pv d wx HDX.out (by rw [hdl]; decide)).mono ?_
        rintro e w5 ⟨rfl, d5, o5⟩
        have HD5 : Hid (DiskAt w5 w.heap.size p S (.slice none 0 0) { d with pend := [], life := aged d.life }) := d5
        have HO5 : Hid (Only (fun _ => False) w w5) := HO.out.trans o5 (fun k hk e => by have := HDX.out.pB; omega)
        clear d5 o5
        go_wp2
        go_roundw
        case rel => exact ⟨i + 1, by omega, by go_num, ⟨_, _, HD5.out, hdn, by simp [aged, hdl], by simp⟩, HO5.out⟩
        case measure => simp [intOf]; omega
      · -- Crash
        rw [← HW.out, ← HB.out]
        obtain ⟨i4, hi4, hz0, hz1, hz2⟩ := info_parts info4
        have oD : Only (fun _ => False) wx wx.drew := (Only.refl _ wx).drew
        obtain ⟨a2, cap2, w2, hr2, own2, o2⟩ := app_copy 32 4 i4 _ 1 Try.underlying32 hi4 hz0 hz1 hz2 rfl rfl wx.drew (.slice ak mk ck) keep.length _ (HOK.out.2.1.1.frame oD (fun _ e => e.elim)) (fun j => rfl) HOK.out.2.1.2
        have oX2 : Only (fun _ => False) wx w2 := oD.trans o2 (fun _ _ e => e)
        have d2 := HDX.out.frame oX2 (fun _ _ e => e)
        have hSl := HDX.out.lt S (.inr (.inl rfl))
        have fl := flags_own (S := S) own2 (by have := HOK.out.2.1.2; unfold maxLen; simp only at this; omega) (by show S < wx.heap.size; omega)
        have z2 : w2.cell? ⟨Bx, 2, none⟩ = some (.int .i64 nx) := oX2.cell (by rw [cell_of_row _ _ _ _ _ _ bX]; rfl) (fun e => e)
        have z3 : w2.cell? ⟨Bx, 3, none⟩ = some (.int .i64 cut) := oX2.cell (by rw [cell_of_row _ _ _ _ _ _ bX]; rfl) (fun e => e)
        have z6 : w2.cell? ⟨Bx, 6, none⟩ = some (.slice ak mk ck) := oX2.cell (by rw [cell_of_row _ _ _ _ _ _ bX]; rfl) (fun e => e)
        have y2 : wx.cell? ⟨Bx, 2, none⟩ = some (.int .i64 nx) := by rw [cell_of_row _ _ _ _ _ _ bX]; rfl
        have y3 : wx.cell? ⟨Bx, 3, none⟩ = some (.int .i64 cut) := by rw [cell_of_row _ _ _ _ _ _ bX]; rfl
        have y6 : wx.cell? ⟨Bx, 6, none⟩ = some (.slice ak mk ck) := by rw [cell_of_row _ _ _ _ _ _ bX]; rfl
        have hBp : Bx ≠ p := by have := hXlt p (.inl rfl); omega
        have hBS : Bx ≠ S := by have := hXlt S (.inr (.inl rfl)); omega
        have HC : Calls Try.prog 19 #[.pointer (some ⟨p, 0, none⟩), .slice a2 keep.length cap2, .int .i64 nx, .int .i64 cut] w2 fun e w3 => (∃ x, e = .returned (.int .i64 x)) ∧ Hid ((∃ pv' d', DiskAt w3 w.heap.size p S pv' d' ∧ d'.n = 4 ∧ d'.life = -1 ∧ d'.pend.length ≤ i + 1) ∧ Only (fun _ => False) w w3) ∧
            w3.cell? ⟨Bx, 2, none⟩ = some (.int .i64 nx) ∧ w3.cell? ⟨Bx, 3, none⟩ = some (.int .i64 cut) ∧ w3.cell? ⟨Bx, 6, none⟩ = some (.slice ak mk ck) := by
          refine (crash_all p S _ pv _ d keep nx cut w2 d2 fl).mono ?_
          rintro e w3 ⟨rfl, pv', d3, o3, _⟩
          have hx3 : ∀ a v, w2.cell? a = some v → a.block = Bx → w3.cell? a = some v := fun a v h hb => o3.cell h (fun e => by rw [hb] at e; rcases e with e | e; exact hBp e; exact hBS e)
          refine ⟨⟨_, rfl⟩, ⟨⟨pv', _, d3, ?_, ?_, ?_⟩, ?_⟩, hx3 _ _ z2 rfl, hx3 _ _ z3 rfl, hx3 _ _ z6 rfl⟩
          · simp only [DS.crash]; split <;> exact hdn
          · simp only [DS.crash]; split; exact hdl; rfl
          · simp only [DS.crash]; split
            · simp only; omega
            · simp
          · exact (HO.out.trans oX2 (fun _ _ e => e)).trans o3 (fun k hk e => by have h1 := HDX.out.pB; have h2 := HDX.out.SB; omega)
        have HR2 : Hid _ := hr2
        have hem := empty32
        clear oD own2 o2 d2 fl oX2 hr2
        go_region_held3 (fun w' => w'.cell? ⟨Bx, 2, none⟩ = some (.int .i64 nx) ∧ w'.cell? ⟨Bx, 3, none⟩ = some (.int .i64 cut) ∧ w'.cell? ⟨Bx, 6, none⟩ = some (.slice ak mk ck)) (go_keep)
          (first
            | (refine step_append_run (by rfl) _ _ 32 (by rfl) _ _ (.slice a2 keep.length cap2) (by rfl) (by rfl) HR2.out ?_)
            | (go_at_call 19; refine HC.mono ?_; rintro e w3 ⟨⟨xe, rfl⟩, hP3, z32, z33, z36⟩))
        clear HC HR2
        go_wp2
        go_roundw
        case rel => exact ⟨i + 1, by omega, by go_num, hP3.out.1, hP3.out.2⟩
        case measure => simp [intOf]; omega
      · go_roundw
        case rel => exact ⟨i + 1, by omega, by go_num, ⟨pv, d, by rw [← HW.out]; exact HDX.out, hdn, hdl, by omega⟩, by rw [← HW.out]; exact HO.out⟩
        case measure => simp [intOf]; omega
      · go_roundw
        case rel => exact ⟨i + 1, by omega, by go_num, ⟨pv, d, by rw [← HW.out]; exact HDX.out, hdn, hdl, by omega⟩, by rw [← HW.out]; exact HO.out⟩
        case measure => simp [intOf]; omega
      · go_roundw
        case rel => exact ⟨i + 1, by omega, by go_num, ⟨pv, d, by rw [← HW.out]; exact HDX.out, hdn, hdl, by omega⟩, by rw [← HW.out]; exact HO.out⟩
        case measure => simp [intOf]; omega
      · -- Write
        rw [← HW.out, ← HB.out]
        have y0 : wx.cell? ⟨Bx, 0, none⟩ = some (.int .i64 kind) := by rw [cell_of_row _ _ _ _ _ _ bX]; rfl
        have y1 : wx.cell? ⟨Bx, 1, none⟩ = some (.int .i64 sx) := by rw [cell_of_row _ _ _ _ _ _ bX]; rfl
        have y2 : wx.cell? ⟨Bx, 2, none⟩ = some (.int .i64 nx) := by rw [cell_of_row _ _ _ _ _ _ bX]; rfl
        have y3 : wx.cell? ⟨Bx, 3, none⟩ = some (.int .i64 cut) := by rw [cell_of_row _ _ _ _ _ _ bX]; rfl
        have y4 : wx.cell? ⟨Bx, 4, none⟩ = some (.bool odd) := by rw [cell_of_row _ _ _ _ _ _ bX]; rfl
        have y5 : wx.cell? ⟨Bx, 5, none⟩ = some (.slice ab mb cb) := by rw [cell_of_row _ _ _ _ _ _ bX]; rfl
        have y6 : wx.cell? ⟨Bx, 6, none⟩ = some (.slice ak mk ck) := by rw [cell_of_row _ _ _ _ _ _ bX]; rfl
        have hBp : Bx ≠ p := by have := hXlt p (.inl rfl); omega
        have hBS : Bx ≠ S := by have := hXlt S (.inr (.inl rfl)); omega
        have hBv : ¬ pv.ownBlock = some Bx := fun e => by have := hXlt Bx (.inr (.inr e)); omega
        have oD : Only (fun _ => False) wx wx.drew := (Only.refl _ wx).drew
        have HC2 : Calls Try.prog 22 #[.agg #[.int .i64 kind, .int .i64 sx, .int .i64 nx, .int .i64 cut, .bool odd, .slice ab mb cb, .slice ak mk ck]] wx.drew fun e w2 => ∃ a2 m2 cap2, e = .returned (.slice a2 m2 cap2) ∧ Hid (Only (fun _ => False) wx w2) ∧ Hid (∀ a v, wx.cell? a = some v → w2.cell? a = some v) ∧
            Hid (Calls Try.prog 21 #[.pointer (some ⟨p, 0, none⟩), .int .i64 sx, .slice a2 m2 cap2] w2 fun e w3 => (∃ x, e = .returned (.int .i64 x)) ∧ Hid ((∃ pv' d', DiskAt w3 w.heap.size p S pv' d' ∧ d'.n = 4 ∧ d'.life = -1 ∧ d'.pend.length ≤ i + 1) ∧ Only (fun _ => False) w w3) ∧
              Hid (∀ v j, wx.cell? ⟨Bx, j, none⟩ = some v → w3.cell? ⟨Bx, j, none⟩ = some v)) := by
          refine (bytes_any ⟨kind, sx, nx, cut, odd, xb, keep, .slice ab mb cb, .slice ak mk ck⟩ wx.drew (HOK.out.frame oD)).mono ?_
          rintro e w2 ⟨a2, cap2, rfl, hrow, o2⟩
          have oX2 : Only (fun _ => False) wx w2 := oD.trans o2 (fun _ _ e => e)
          have hbl : (OpD.bytes ⟨kind, sx, nx, cut, odd, xb, keep, .slice ab mb cb, .slice ak mk ck⟩).length ≤ 140737488351232 := by
            unfold OpD.bytes
            split
            · exact HOK.out.1.2.1
            · simp
          refine ⟨a2, _, cap2, rfl, oX2, fun a v h => oX2.cell h (fun e => e), ?_⟩
          refine (write_all p S _ cap2 _ a2 pv d sx _ w2 (HDX.out.frame oX2 (fun _ _ e => e)) hrow (by have := oX2.size; omega) (by omega) hbl).mono ?_
          rintro e w3 ⟨rfl, pv', d3, o3, _⟩
          refine ⟨⟨_, rfl⟩, ⟨⟨pv', _, d3, ?_, ?_, ?_⟩, ?_⟩, fun v j h => o3.cell (oX2.cell h (fun e => e)) (fun e => by rcases e with e | e | e; exact hBp e; exact hBS e; exact hBv e)⟩
          · simp only [DS.write]; split; exact hdn; split; exact hdn; split; exact hdn; exact hdn
          · simp only [DS.write]; split; exact hdl; split; exact hdl; split; exact hdl; simp [aged, hdl]
          · simp only [DS.write]; split; simp only; omega; split; simp only; omega; split; simp only; omega; simp only [List.length_append, List.length_cons, List.length_nil]; omega
          · exact (HO.out.trans oX2 (fun _ _ e => e)).trans o3 (fun k hk e => by have := (HDX.out.lt k e).1; omega)
        clear oD
        go_region_held3 (fun w' => w'.cell? ⟨Bx, 0, none⟩ = some (.int .i64 kind) ∧ w'.cell? ⟨Bx, 1, none⟩ = some (.int .i64 sx) ∧ w'.cell? ⟨Bx, 2, none⟩ = some (.int .i64 nx) ∧ w'.cell? ⟨Bx, 3, none⟩ = some (.int .i64 cut) ∧ w'.cell? ⟨Bx, 4, none⟩ = some (.bool odd) ∧ w'.cell? ⟨Bx, 5, none⟩ = some (.slice ab mb cb) ∧ w'.cell? ⟨Bx, 6, none⟩ = some (.slice ak mk ck)) (first | go_keep | (exact ⟨HA3.out _ 0 y0, HA3.out _ 1 y1, HA3.out _ 2 y2, HA3.out _ 3 y3, HA3.out _ 4 y4, HA3.out _ 5 y5, HA3.out _ 6 y6⟩) | (exact ⟨HA2.out _ _ y0, HA2.out _ _ y1, HA2.out _ _ y2, HA2.out _ _ y3, HA2.out _ _ y4, HA2.out _ _ y5, HA2.out _ _ y6⟩))
          (first
            | (go_at_call 22; refine HC2.mono ?_; rintro e w2 ⟨a2, m2, cap2, rfl, HO2, HA2, HC3⟩)
            | (go_at_call 21; refine HC3.out.mono ?_; rintro e w3 ⟨⟨xe, rfl⟩, hP3, HA3⟩))
        clear HC2 HC3
        go_wp2
        go_roundw
        case rel => exact ⟨i + 1, by omega, by go_num, hP3.out.1, hP3.out.2⟩
        case measure => simp [intOf]; omega
    · obtain rfl : i = os.length := by omega
      have HDR : Hid (DiskAt wr w.heap.size p S pv d) := hd
      clear hd
      go_wp2
      go_ret
      exact ⟨p, S, pv, d, rfl, HDR.out, hdn, hdl, hdp, ho⟩

set_option maxRecDepth 100000 in
set_option maxHeartbeats 4000000 in
theorem grown_hi (s : Int) (hs0 : ¬ s < 1) (hs1 : 64 < s) (v : Value) (os : List OpD) (w : World) (hs : ScriptAt w v os) :
    Calls Try.prog 16 #[.int .i64 s, v] w fun e w' => ∃ p S pv d, e = .returned (.pointer (some ⟨p, 0, none⟩)) ∧ DiskAt w' w.heap.size p S pv d ∧ d.n = 4 ∧ d.life = -1 ∧ d.pend.length ≤ os.length ∧ Only (fun _ => False) w w' := by
  obtain ⟨a, c, rfl⟩ := hs.form
  have hlen : os.length * 88 ≤ 140737488351232 := hs.2.1
  go_enter Try.func16, Try.ntmps16
  go_wp2_with fail
  refine (new_any 4 w (by omega) (by omega)).mono ?_
  rintro e w1 ⟨p, S, rfl, d1, o1⟩
  have HD1 : Hid (DiskAt w1 w.heap.size p S (.slice none 0 0) ⟨4, fun _ _ => 0, [], -1⟩) := d1
  have HO1 : Hid (Only (fun _ => False) w w1) := o1
  have HS : Hid (ScriptAt w (.slice a os.length c) os) := hs
  clear d1 o1 hs
  go_wp2_with fail
  go_loopw [7] (fun t wr => ∃ i : Nat, i ≤ os.length ∧ t = .int .i64 i ∧ (∃ pv d, DiskAt wr w.heap.size p S pv d ∧ d.n = 4 ∧ d.life = -1 ∧ d.pend.length ≤ i) ∧ Only (fun _ => False) w wr) (fun t _ => os.length - (intOf t).toNat)
  case atStart => exact ⟨0, Nat.zero_le _, rfl, ⟨_, _, HD1.out, rfl, rfl, Nat.le_refl _⟩, HO1.out⟩
  case round =>
    obtain ⟨i, hi, rfl, ⟨pv, d, hd, hdn, hdl, hdp⟩, ho⟩ := hrel
    by_cases hlt : i < os.length
    · obtain ⟨x, hx⟩ : ∃ x, x = os[i] := ⟨_, rfl⟩
      obtain ⟨g, o, c', hv, hrange⟩ := HS.out.get i hlt
      simp only [Value.slice.injEq] at hv
      obtain ⟨rfl, _, rfl⟩ := hv
      rw [← hx] at hrange
      have hrw := ho.range hrange (fun e => e)
      have hxok : x.ok wr := (HS.out.2.2 x (by rw [hx]; exact List.getElem_mem _)).frame ho
      clear hx hrange
      obtain ⟨kind, sx, nx, cut, odd, xb, keep, vb, vk⟩ := x
      have i0 : (0 : Int) ≤ (i : Int) := Int.natCast_nonneg _
      have i1 : (i : Int) < (os.length : Int) := by omega
      have hu34 := Try.underlying34
      have hvbk : (∃ a m c, vb = .slice a m c) ∧ (∃ a m c, vk = .slice a m c) := by
        refine ⟨?_, ?_⟩
        · rcases hxok.1.1 with ⟨h, _⟩ | ⟨ad, c, h, _⟩ <;> exact ⟨_, _, _, h⟩
        · rcases hxok.2.1.1 with ⟨h, _⟩ | ⟨ad, c, h, _⟩ <;> exact ⟨_, _, _, h⟩
      obtain ⟨⟨ab, mb, cb, hvb⟩, ⟨ak, mk, ck, hvk⟩⟩ := hvbk
      subst hvb hvk
      simp only [OpD.cells] at hrw
      have hi34 : (Try.prog.info? 34).map (·.size) = some ([Value.int .i64 kind, .int .i64 sx, .int .i64 nx, .int .i64 cut, .bool odd, .slice ab mb cb, .slice ak mk ck] : List Value).length := by rw [size34]; rfl
      -- the world behind the copy of the call
      obtain ⟨wx, hwx⟩ : ∃ q, q = wr.alloc (.cells #[.int .i64 kind, .int .i64 sx, .int .i64 nx, .int .i64 cut, .bool odd, .slice ab mb cb, .slice ak mk ck] 34) := ⟨_, rfl⟩
      obtain ⟨Bx, hBx⟩ : ∃ q, q = wr.heap.size := ⟨_, rfl⟩
      have oX : Only (fun _ => False) wr wx := by rw [hwx]; exact (Only.refl _ wr).alloc _
      have bX : wx.heap[Bx]? = some (.cells #[.int .i64 kind, .int .i64 sx, .int .i64 nx, .int .i64 cut, .bool odd, .slice ab mb cb, .slice ak mk ck] 34 (0, 0)) := by rw [hwx, hBx]; exact heap_alloc_new wr _
      have dX := hd.frame oX (fun _ _ e => e)
      have hXlt : ∀ k, diskB p S pv k → k < Bx := fun k hk => by have := (hd.lt k hk).2; omega
      have x0 : wx.cell? ⟨Bx, 0, none⟩ = some (.int .i64 kind) := by rw [cell_of_row _ _ _ _ _ _ bX]; rfl
      have hxok2 := hxok.frame oX
      have HW : Hid (wx = wr.alloc (.cells #[.int .i64 kind, .int .i64 sx, .int .i64 nx, .int .i64 cut, .bool odd, .slice ab mb cb, .slice ak mk ck] 34)) := hwx
      have HB : Hid (Bx = wr.heap.size) := hBx
      have HO : Hid (Only (fun _ => False) w wx) := ho.trans oX (fun _ _ e => e)
      have HOK : Hid (OpD.ok wx ⟨kind, sx, nx, cut, odd, xb, keep, .slice ab mb cb, .slice ak mk ck⟩) := hxok2
      have HDX : Hid (DiskAt wx w.heap.size p S pv d) := dX
      have hszx : w.heap.size ≤ wx.heap.size := HO.out.size
      clear hwx hBx oX dX hd ho hxok hxok2
      go_wp2_with (first | (refine wpList_load_mid rfl 34 _ rfl g (o + i * 7) rfl _ _ hrw hu34 rfl hi34 ?_))
      · -- Barrier
        rw [← HW.out, ← HB.out]
        refine (barrier_any p S _ pv d wx HDX.out (by rw [hdl]; decide)).mono ?_
        rintro e w5 ⟨rfl, d5, o5⟩
        have HD5 : Hid (DiskAt w5 w.heap.size p S (.slice none 0 0) { d with pend := [], life := aged d.life }) := d5
        have HO5 : Hid (Only (fun _ => False) w w5) := HO.out.trans o5 (fun k hk e => by have := HDX.out.pB; omega)
        clear d5 o5
        go_wp2
        go_roundw
        case rel => exact ⟨i + 1, by omega, by go_num, ⟨_, _, HD5.out, hdn, by simp [aged, hdl], by simp⟩, HO5.out⟩
        case measure => simp [intOf]; omega
      · -- Crash
        rw [← HW.out, ← HB.out]
        obtain ⟨i4, hi4, hz0, hz1, hz2⟩ := info_parts info4
        have oD : Only (fun _ => False) wx wx.drew := (Only.refl _ wx).drew
        obtain ⟨a2, cap2, w2, hr2, own2, o2⟩ := app_copy 32 4 i4 _ 1 Try.underlying32 hi4 hz0 hz1 hz2 rfl rfl wx.drew (.slice ak mk ck) keep.length _ (HOK.out.2.1.1.frame oD (fun _ e => e.elim)) (fun j => rfl) HOK.out.2.1.2
        have oX2 : Only (fun _ => False) wx w2 := oD.trans o2 (fun _ _ e => e)
        have d2 := HDX.out.frame oX2 (fun _ _ e => e)
        have hSl := HDX.out.lt S (.inr (.inl rfl))
        have fl := flags_own (S := S) own2 (by have := HOK.out.2.1.2; unfold maxLen; simp only at this; omega) (by show S < wx.heap.size; omega)
        have z2 : w2.cell? ⟨Bx, 2, none⟩ = some (.int .i64 nx) := oX2.cell (by rw [cell_of_row _ _ _ _ _ _ bX]; rfl) (fun e => e)
        have z3 : w2.cell? ⟨Bx, 3, none⟩ = some (.int .i64 cut) := oX2.cell (by rw [cell_of_row _ _ _ _ _ _ bX]; rfl) (fun e => e)
        have z6 : w2.cell? ⟨Bx, 6, none⟩ = some (.slice ak mk ck) := oX2.cell (by rw [cell_of_row _ _ _ _ _ _ bX]; rfl) (fun e => e)
        have y2 : wx.cell? ⟨Bx, 2, none⟩ = some (.int .i64 nx) := by rw [cell_of_row _ _ _ _ _ _ bX]; rfl
        have y3 : wx.cell? ⟨Bx, 3, none⟩ = some (.int .i64 cut) := by rw [cell_of_row _ _ _ _ _ _ bX]; rfl
        have y6 : wx.cell? ⟨Bx, 6, none⟩ = some (.slice ak mk ck) := by rw [cell_of_row _ _ _ _ _ _ bX]; rfl
        have hBp : Bx ≠ p := by have := hXlt p (.inl rfl); omega
        have hBS : Bx ≠ S := by have := hXlt S (.inr (.inl rfl)); omega
        have HC : Calls Try.prog 19 #[.pointer (some ⟨p, 0, none⟩), .slice a2 keep.length cap2, .int .i64 nx, .int .i64 cut] w2 fun e w3 => (∃ x, e = .returned (.int .i64 x)) ∧ Hid ((∃ pv' d', DiskAt w3 w.heap.size p S pv' d' ∧ d'.n = 4 ∧ d'.life = -1 ∧ d'.pend.length ≤ i + 1) ∧ Only (fun _ => False) w w3) ∧
            w3.cell? ⟨Bx, 2, none⟩ = some (.int .i64 nx) ∧ w3.cell? ⟨Bx, 3, none⟩ = some (.int .i64 cut) ∧ w3.cell? ⟨Bx, 6, none⟩ = some (.slice ak mk ck) := by
          refine (crash_all p S _ pv _ d keep nx cut w2 d2 fl).mono ?_
          rintro e w3 ⟨rfl, pv', d3, o3, _⟩
          have hx3 : ∀ a v, w2.cell? a = some v → a.block = Bx → w3.cell? a = some v := fun a v h hb => o3.cell h (fun e => by rw [hb] at e; rcases e with e | e; exact hBp e; exact hBS e)
          refine ⟨⟨_, rfl⟩, ⟨⟨pv', _, d3, ?_, ?_, ?_⟩, ?_⟩, hx3 _ _ z2 rfl, hx3 _ _ z3 rfl, hx3 _ _ z6 rfl⟩
          · simp only [DS.crash]; split <;> exact hdn
          · simp only [DS.crash]; split; exact hdl; rfl
          · simp only [DS.crash]; split
            · simp only; omega
            · simp
          · exact (HO.out.trans oX2 (fun _ _ e => e)).trans o3 (fun k hk e => by have h1 := HDX.out.pB; have h2 := HDX.out.SB; omega)
        have HR2 : Hid _ := hr2
        have hem := empty32
        clear oD own2 o2 d2 fl oX2 hr2
        go_region_held3 (fun w' => w'.cell? ⟨Bx, 2, none⟩ = some (.int .i64 nx) ∧ w'.cell? ⟨Bx, 3, none⟩ = some (.int .i64 cut) ∧ w'.cell? ⟨Bx, 6, none⟩ = some (.slice ak mk ck)) (go_keep)
          (first
            | (refine step_append_run (by rfl) _ _ 32 (by rfl) _ _ (.slice a2 keep.length cap2) (by rfl) (by rfl) HR2.out ?_)
            | (go_at_call 19; refine HC.mono ?_; rintro e w3 ⟨⟨xe, rfl⟩, hP3, z32, z33, z36⟩))
        clear HC HR2
        go_wp2
        go_roundw
        case rel => exact ⟨i + 1, by omega, by go_num, hP3.out.1, hP3.out.2⟩
        case measure => simp [intOf]; omega
      · go_roundw
        case rel => exact ⟨i + 1, by omega, by go_num, ⟨pv, d, by rw [← HW.out]; exact HDX.out, hdn, hdl, by omega⟩, by rw [← HW.out]; exact HO.out⟩
        case measure => simp [intOf]; omega
      · go_roundw
        case rel => exact ⟨i + 1, by omega, by go_num, ⟨pv, d, by rw [← HW.out]; exact HDX.out, hdn, hdl, by omega⟩, by rw [← HW.out]; exact HO.out⟩
        case measure => simp [intOf]; omega
      · go_roundw
        case rel => exact ⟨i + 1, by omega, by go_num, ⟨pv, d, by rw [← HW.out]; exact HDX.out, hdn, hdl, by omega⟩, by rw [← HW.out]; exact HO.out⟩
        case measure => simp [intOf]; omega
      · -- Write
        rw [← HW.out, ← HB.out]
        have y0 : wx.cell? ⟨Bx, 0, none⟩ = some (.int .i64 kind) := by rw [cell_of_row _ _ _ _ _ _ bX]; rfl
        have y1 : wx.cell? ⟨Bx, 1, none⟩ = some (.int .i64 sx) := by rw [cell_of_row _ _ _ _ _ _ bX]; rfl
        have y2 : wx.cell? ⟨Bx, 2, none⟩ = some (.int .i64 nx) := by rw [cell_of_row _ _ _ _ _ _ bX]; rfl
        have y3 : wx.cell? ⟨Bx, 3, none⟩ = some (.int .i64 cut) := by rw [cell_of_row _ _ _ _ _ _ bX]; rfl
        have y4 : wx.cell? ⟨Bx, 4, none⟩ = some (.bool odd) := by rw [cell_of_row _ _ _ _ _ _ bX]; rfl
        have y5 : wx.cell? ⟨Bx, 5, none⟩ = some (.slice ab mb cb) := by rw [cell_of_row _ _ _ _ _ _ bX]; rfl
        have y6 : wx.cell? ⟨Bx, 6, none⟩ = some (.slice ak mk ck) := by rw [cell_of_row _ _ _ _ _ _ bX]; rfl
        have hBp : Bx ≠ p := by have := hXlt p (.inl rfl); omega
        have hBS : Bx ≠ S := by have := hXlt S (.inr (.inl rfl)); omega
        have hBv : ¬ pv.ownBlock = some Bx := fun e => by have := hXlt Bx (.inr (.inr e)); omega
        have oD : Only (fun _ => False) wx wx.drew := (Only.refl _ wx).drew
        have HC2 : Calls Try.prog 22 #[.agg #[.int .i64 kind, .int .i64 sx, .int .i64 nx, .int .i64 cut, .bool odd, .slice ab mb cb, .slice ak mk ck]] wx.drew fun e w2 => ∃ a2 m2 cap2, e = .returned (.slice a2 m2 cap2) ∧ Hid (Only (fun _ => False) wx w2) ∧ Hid (∀ a v, wx.cell? a = some v → w2.cell? a = some v) ∧
            Hid (Calls Try.prog 21 #[.pointer (some ⟨p, 0, none⟩), .int .i64 sx, .slice a2 m2 cap2] w2 fun e w3 => (∃ x, e = .returned (.int .i64 x)) ∧ Hid ((∃ pv' d', DiskAt w3 w.heap.size p S pv' d' ∧ d'.n = 4 ∧ d'.life = -1 ∧ d'.pend.length ≤ i + 1) ∧ Only (fun _ => False) w w3) ∧
              Hid (∀ v j, wx.cell? ⟨Bx, j, none⟩ = some v → w3.cell? ⟨Bx, j, none⟩ = some v)) := by
          refine (bytes_any ⟨kind, sx, nx, cut, odd, xb, keep, .slice ab mb cb, .slice ak mk ck⟩ wx.drew (HOK.out.frame oD)).mono ?_
          rintro e w2 ⟨a2, cap2, rfl, hrow, o2⟩
          have oX2 : Only (fun _ => False) wx w2 := oD.trans o2 (fun _ _ e => e)
          have hbl : (OpD.bytes ⟨kind, sx, nx, cut, odd, xb, keep, .slice ab mb cb, .slice ak mk ck⟩).length ≤ 140737488351232 := by
            unfold OpD.bytes
            split
            · exact HOK.out.1.2.1
            · simp
          refine ⟨a2, _, cap2, rfl, oX2, fun a v h => oX2.cell h (fun e => e), ?_⟩
          refine (write_all p S _ cap2 _ a2 pv d sx _ w2 (HDX.out.frame oX2 (fun _ _ e => e)) hrow (by have := oX2.size; omega) (by omega) hbl).mono ?_
          rintro e w3 ⟨rfl, pv', d3, o3, _⟩
          refine ⟨⟨_, rfl⟩, ⟨⟨pv', _, d3, ?_, ?_, ?_⟩, ?_⟩, fun v j h => o3.cell (oX2.cell h (fun e => e)) (fun e => by rcases e with e | e | e; exact hBp e; exact hBS e; exact hBv e)⟩
          · simp only [DS.write]; split; exact hdn; split; exact hdn; split; exact hdn; exact hdn
          · simp only [DS.write]; split; exact hdl; split; exact hdl; split; exact hdl; simp [aged, hdl]
          · simp only [DS.write]; split; simp only; omega; split; simp only; omega; split; simp only; omega; simp only [List.length_append, List.length_cons, List.length_nil]; omega
          · exact (HO.out.trans oX2 (fun _ _ e => e)).trans o3 (fun k hk e => by have := (HDX.out.lt k e).1; omega)
        clear oD
        go_region_held3 (fun w' => w'.cell? ⟨Bx, 0, none⟩ = some (.int .i64 kind) ∧ w'.cell? ⟨Bx, 1, none⟩ = some (.int .i64 sx) ∧ w'.cell? ⟨Bx, 2, none⟩ = some (.int .i64 nx) ∧ w'.cell? ⟨Bx, 3, none⟩ = some (.int .i64 cut) ∧ w'.cell? ⟨Bx, 4, none⟩ = some (.bool odd) ∧ w'.cell? ⟨Bx, 5, none⟩ = some (.slice ab mb cb) ∧ w'.cell? ⟨Bx, 6, none⟩ = some (.slice ak mk ck)) (first | go_keep | (exact ⟨HA3.out _ 0 y0, HA3.out _ 1 y1, HA3.out _ 2 y2, HA3.out _ 3 y3, HA3.out _ 4 y4, HA3.out _ 5 y5, HA3.out _ 6 y6⟩) | (exact ⟨HA2.out _ _ y0, HA2.out _ _ y1, HA2.out _ _ y2, HA2.out _ _ y3, HA2.out _ _ y4, HA2.out _ _ y5, HA2.out _ _ y6⟩))
          (first
            | (go_at_call 22; refine HC2.mono ?_; rintro e w2 ⟨a2, m2, cap2, rfl, HO2, HA2, HC3⟩)
            | (go_at_call 21; refine HC3.out.mono ?_; rintro e w3 ⟨⟨xe, rfl⟩, hP3, HA3⟩))
        clear HC2 HC3
        go_wp2
        go_roundw
        case rel => exact ⟨i + 1, by omega, by go_num, hP3.out.1, hP3.out.2⟩
        case measure => simp [intOf]; omega
    · obtain rfl : i = os.length := by omega
      have HDR : Hid (DiskAt wr w.heap.size p S pv d) := hd
      clear hd
      go_wp2
      go_ret
      exact ⟨p, S, pv, d, rfl, HDR.out, hdn, hdl, hdp, ho⟩

/-- grown: a disk of at most 64 sectors, without an end to its life. -/
theorem grown_any (s : Int) (v : Value) (os : List OpD) (w : World) (hs : ScriptAt w v os) :
    Calls Try.prog 16 #[.int .i64 s, v] w fun e w' => ∃ p S pv d, e = .returned (.pointer (some ⟨p, 0, none⟩)) ∧ DiskAt w' w.heap.size p S pv d ∧ d.n ≤ 64 ∧ d.life = -1 ∧ d.pend.length ≤ os.length ∧ Only (fun _ => False) w w' := by
  by_cases h1 : s < 1
  · refine (grown_lo s h1 v os w hs).mono ?_
    rintro e w' ⟨p, S, pv, d, he, hd, hn, hr⟩
    exact ⟨p, S, pv, d, he, hd, by omega, hr⟩
  · by_cases h2 : 64 < s
    · refine (grown_hi s h1 h2 v os w hs).mono ?_
      rintro e w' ⟨p, S, pv, d, he, hd, hn, hr⟩
      exact ⟨p, S, pv, d, he, hd, by omega, hr⟩
    · have e : s = (s.toNat : Int) := by omega
      have := grown_in s.toNat (by omega) (by omega) v os w hs
      rw [← e] at this
      refine this.mono ?_
      rintro e w' ⟨p, S, pv, d, he, hd, hn, hr⟩
      exact ⟨p, S, pv, d, he, hd, by omega, hr⟩
end Go.Proofs.Ytaeghpfncfkgfaa
