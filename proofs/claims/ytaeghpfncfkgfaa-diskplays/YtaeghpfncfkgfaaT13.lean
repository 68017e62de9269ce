/- What the law's own helpers do: Full and bytes on bytes that came in; what Write and Crash do of a disk, whatever they are given. -/
import Derived.Test.YtaeghpfncfkgfaaT12
namespace Go.Proofs.Ytaeghpfncfkgfaa
open Go.RowKit
set_option linter.unusedSimpArgs false
set_option linter.unusedVariables false

set_option maxHeartbeats 400000 in
theorem full_empty (a : Option Addr) (c : Nat) (w : World) :
    Calls Try.prog 24 #[.slice a 0 c] w fun e w' => e = .returned (.slice (some ⟨w.heap.size, 0, none⟩) 32 32) ∧ w' = w.alloc (.cells (secL (fun _ => 0)).toArray 5) := by
  have hmk := mk32 (fun _ => 0)
  have e0 : fullF (fun _ => 0) 0 = fun _ => 0 := by funext j; simp [fullF]
  rw [e0] at hmk
  clear e0
  go_enter Try.func24, Try.ntmps24
  go_wp2
  refine wp_loop_rounds 1 ?_; rw [rounds_succ]
  go_wp2
  go_ret
  exact ⟨rfl, rfl⟩
/-- Full of bytes that came in. -/
theorem full_bytes (v : Value) (zs : List Int) (w : World) (h : BytesAt w v zs) :
    Calls Try.prog 24 #[v] w fun e w' => e = .returned (.slice (some ⟨w.heap.size, 0, none⟩) 32 32) ∧ w' = w.alloc (.cells (secL (fullF (fun j => zs.getD j 0) zs.length)).toArray 5) := by
  by_cases e : zs = []
  · subst e
    have e0 : fullF (fun j => ([] : List Int).getD j 0) ([] : List Int).length = fun _ => 0 := by funext j; simp [fullF]
    rw [e0]
    rcases h.1 with ⟨rfl, _⟩ | ⟨ad, c, rfl, _⟩
    · exact full_empty none 0 w
    · exact full_empty (some ad) c w
  · have hp : 0 < zs.length := by cases zs with | nil => exact absurd rfl e | cons => simp
    obtain ⟨g, o, c, rfl, hc, hg⟩ := h.1.at (by omega)
    exact full_any g o zs.length c _ w (by have := h.2.1; unfold maxLen; omega) (fun j hj => hc j (by omega)) hg

/-- The bytes that a call of a script writes. -/
def OpD.bytes (o : OpD) : List Int := if o.odd = true then o.b else (List.range 32).map (fullF (fun j => o.b.getD j 0) o.b.length)
theorem info5 : (Try.prog.info? 5).map (fun i => (i.zero, i.size, i.bytes)) = some (some (.int .u8 0), 1, 1) := by kernel_rfl
theorem info4 : (Try.prog.info? 4).map (fun i => (i.zero, i.size, i.bytes)) = some (some (.bool false), 1, 1) := by kernel_rfl
theorem empty31 (w : World) : (Instr.buildSlice 31 0 #[]).run Try.prog w = .ok (.slice (some ⟨w.heap.size, 0, none⟩) 0 0) (w.alloc (.cells #[] 5)) := by kernel_rfl
theorem empty32 (w : World) : (Instr.buildSlice 32 0 #[]).run Try.prog w = .ok (.slice (some ⟨w.heap.size, 0, none⟩) 0 0) (w.alloc (.cells #[] 4)) := by kernel_rfl

theorem rowAt_own {w : World} {B e m cap : Nat} {a : Option Addr} {f : Nat → Value} (h : w.ownsRow B e 1 (.slice a m cap) m ((List.range m).map f)) : RowAt w (.slice a m cap) m 1 f := by
  rcases h.2 with ⟨h1, h2⟩ | ⟨g, c2, cur, hv, _⟩
  · exact .inl ⟨h1, h2⟩
  · simp only [Value.slice.injEq] at hv
    obtain ⟨rfl, _, rfl⟩ := hv
    refine .inr ⟨⟨g, 0, none⟩, cap, rfl, fun j hj => ?_⟩
    rw [Addr.add_mid, Nat.zero_add, h.cellAt j (by omega)]
    have hj' : j < m := by omega
    simp [hj']

set_option maxHeartbeats 1000000 in
theorem bytes_odd (k s n c : Int) (vb vk : Value) (zs : List Int) (w : World) (hb : BytesAt w vb zs) :
    Calls Try.prog 22 #[.agg #[.int .i64 k, .int .i64 s, .int .i64 n, .int .i64 c, .bool true, vb, vk]] w fun e w' => ∃ a cap, e = .returned (.slice a zs.length cap) ∧ w'.ownsRow (w.heap.size + 1) 5 1 (.slice a zs.length cap) zs.length ((List.range zs.length).map fun j => .int .u8 (zs.getD j 0)) ∧ Only (fun _ => False) w w' := by
  obtain ⟨i0, hi0, hz0, hz1, hz2⟩ := info_parts info5
  obtain ⟨w1, hw1⟩ : ∃ q, q = w.alloc (.cells #[.int .i64 k, .int .i64 s, .int .i64 n, .int .i64 c, .bool true, vb, vk] 34) := ⟨_, rfl⟩
  have o1 : Only (fun _ => False) w w1 := by rw [hw1]; exact (Only.refl _ w).alloc _
  have hs1 : w1.heap.size = w.heap.size + 1 := by rw [hw1]; simp
  obtain ⟨a, cap, w2, hr, own, o2⟩ := app_copy 31 5 i0 _ 1 Try.underlying31 hi0 hz0 hz1 hz2 rfl rfl w1 vb zs.length _ (hb.1.frame o1 (fun _ e => e.elim)) (fun j => rfl) hb.2.1
  have hc4 : w1.cell? ⟨w.heap.size, 4, none⟩ = some (.bool true) := by rw [hw1, cell_of_row _ _ _ _ _ _ (heap_alloc_new w _)]; rfl
  have hc5 : w1.cell? ⟨w.heap.size, 5, none⟩ = some vb := by rw [hw1, cell_of_row _ _ _ _ _ _ (heap_alloc_new w _)]; rfl
  have HR : Hid (∀ ty, (Builtin.append_ #[31, 31] ty #[.slice (some ⟨w1.heap.size, 0, none⟩) 0 0, vb]).run Try.prog (w1.alloc (.cells #[] 5)) = .ok (.slice a zs.length cap) w2) := hr
  clear hr
  rw [hs1] at own HR
  have he := empty31
  have HW : Hid (w1 = w.alloc (.cells #[.int .i64 k, .int .i64 s, .int .i64 n, .int .i64 c, .bool true, vb, vk] 34)) := hw1
  have hfit : (w1.alloc (.cells #[] 5)) = ((w.alloc (.cells #[.int .i64 k, .int .i64 s, .int .i64 n, .int .i64 c, .bool true, vb, vk] 34)).alloc (.cells #[] 5)) := by rw [hw1]
  rw [hfit] at HR
  clear hw1 hc4 hc5 hfit hs1
  have HOW : Hid _ := own
  have HO : Hid (Only (fun _ => False) w w2) := o1.trans o2 (fun _ _ e => e)
  clear own o1 o2
  go_enter Try.func22, Try.ntmps22
  go_wp2_with (at_builtin; refine wpList_append_run rfl _ _ 31 rfl _ _ (.slice a zs.length cap) rfl rfl HR.out ?_)
  go_ret
  exact ⟨a, cap, rfl, HOW.out, HO.out⟩
set_option maxHeartbeats 1000000 in
theorem bytes_plain (k s n c : Int) (vb vk : Value) (zs : List Int) (w : World) (hb : BytesAt w vb zs) :
    Calls Try.prog 22 #[.agg #[.int .i64 k, .int .i64 s, .int .i64 n, .int .i64 c, .bool false, vb, vk]] w fun e w' => e = .returned (.slice (some ⟨w.heap.size + 1, 0, none⟩) 32 32) ∧
      w' = (w.alloc (.cells #[.int .i64 k, .int .i64 s, .int .i64 n, .int .i64 c, .bool false, vb, vk] 34)).alloc (.cells (secL (fullF (fun j => zs.getD j 0) zs.length)).toArray 5) := by
  obtain ⟨w1, hw1⟩ : ∃ q, q = w.alloc (.cells #[.int .i64 k, .int .i64 s, .int .i64 n, .int .i64 c, .bool false, vb, vk] 34) := ⟨_, rfl⟩
  have o1 : Only (fun _ => False) w w1 := by rw [hw1]; exact (Only.refl _ w).alloc _
  have hb1 : BytesAt w1 vb zs := ⟨hb.1.frame o1 (fun _ e => e.elim), hb.2⟩
  have HF := full_bytes vb zs w1 hb1
  have hs1 : w1.heap.size = w.heap.size + 1 := by rw [hw1]; simp
  rw [hs1, hw1] at HF
  clear hw1 o1 hb1 hs1
  go_enter Try.func22, Try.ntmps22
  go_wp2_with (go_at_call 24; refine HF.mono ?_; rintro e w3 ⟨rfl, rfl⟩)
  go_ret
  exact ⟨rfl, rfl⟩

/-- The bytes of a call of a script, in new memory. -/
theorem bytes_any (o : OpD) (w : World) (h : o.ok w) :
    Calls Try.prog 22 #[.agg o.cells.toArray] w fun e w' => ∃ a cap, e = .returned (.slice a o.bytes.length cap) ∧ RowAt w' (.slice a o.bytes.length cap) o.bytes.length 1 (fun j => .int .u8 (o.bytes.getD j 0)) ∧ Only (fun _ => False) w w' := by
  obtain ⟨k, s, n, c, odd, b, keep, vb, vk⟩ := o
  cases odd with
  | true =>
    refine (bytes_odd k s n c vb vk b w h.1).mono ?_
    rintro e w' ⟨a, cap, he, own, ho⟩
    exact ⟨a, cap, by simpa [OpD.bytes] using he, by simpa [OpD.bytes] using rowAt_own own, ho⟩
  | false =>
    refine (bytes_plain k s n c vb vk b w h.1).mono ?_
    rintro e w' ⟨rfl, rfl⟩
    refine ⟨some ⟨w.heap.size + 1, 0, none⟩, 32, by simp [OpD.bytes], ?_, ((Only.refl _ w).alloc _).alloc _⟩
    refine .inr ⟨⟨w.heap.size + 1, 0, none⟩, 32, by simp [OpD.bytes], fun j hj => ?_⟩
    have hj' : j < 32 := by simpa [OpD.bytes] using hj
    have := heap_alloc2_new w (.cells #[.int .i64 k, .int .i64 s, .int .i64 n, .int .i64 c, .bool false, vb, vk] 34) (.cells (secL (fullF (fun j => b.getD j 0) b.length)).toArray 5)
    rw [Addr.add_mid, Nat.zero_add, cell_of_row _ _ _ _ _ _ this]
    simp [OpD.bytes, hj', secL]

/-- What Write answers, and what it leaves of a disk. -/
def DS.write (d : DS) (k : Int) (f : Nat → Int) (m : Nat) : Int × DS :=
  if m ≠ 32 then (2, d) else if d.life = 0 then (3, d) else if k < 0 ∨ (d.n : Int) ≤ k then (4, d)
  else (0, { d with sec := upd d.sec k.toNat f, pend := d.pend ++ [⟨k.toNat, d.sec k.toNat, f⟩], life := aged d.life })
theorem write_all (p S m c B : Nat) (a : Option Addr) (pv : Value) (d : DS) (k : Int) (f : Nat → Int) (w : World) (h : DiskAt w B p S pv d) (hr : RowAt w (.slice a m c) m 1 (fun j => .int .u8 (f j))) (hB : B ≤ w.heap.size) (hby : (d.pend.length + 1) * 72 ≤ 140737488355328) (hm : m ≤ 140737488351232) :
    Calls Try.prog 21 #[.pointer (some ⟨p, 0, none⟩), .int .i64 k, .slice a m c] w fun e w' => e = .returned (.int .i64 (d.write k f m).1) ∧ ∃ pv', DiskAt w' B p S pv' (d.write k f m).2 ∧ Only (diskB p S pv) w w' ∧ (∀ b, pv'.ownBlock = some b → pv.ownBlock = some b ∨ w.heap.size ≤ b) := by
  have same : ∀ (x : Int) (e : Ending) (w' : World), d.write k f m = (x, d) → e = .returned (.int .i64 x) ∧ w' = w → e = .returned (.int .i64 (d.write k f m).1) ∧ ∃ pv', DiskAt w' B p S pv' (d.write k f m).2 ∧ Only (diskB p S pv) w w' ∧ (∀ b, pv'.ownBlock = some b → pv.ownBlock = some b ∨ w.heap.size ≤ b) := by
    rintro x e w' hw ⟨rfl, rfl⟩
    rw [hw]
    exact ⟨rfl, pv, h, Only.refl _ _, fun b hb => .inl hb⟩
  obtain ⟨c0, hc0⟩ := h.c0
  by_cases e1 : m = 32
  · subst e1
    by_cases e2 : d.life = 0
    · refine (write_dead p c a k w (by rw [← e2]; exact h.c2)).mono fun e w' hh => same 3 e w' (by simp [DS.write, e2]) hh
    · by_cases e3 : k < 0 ∨ (d.n : Int) ≤ k
      · refine (write_out p S d.n c0 c a d.life k w hc0 h.c2 (by simpa using e2) e3).mono fun e w' hh => same 4 e w' (by simp [DS.write, e2, e3]) hh
      · obtain ⟨g, o, c', hv, hcell, hg⟩ := hr.at (by omega)
        simp only [Value.slice.injEq] at hv
        obtain ⟨rfl, _, rfl⟩ := hv
        have hk : k = (k.toNat : Int) := by omega
        have hrange : w.rangeAt g o (secL f) := fun j v hv => by
          have hj : j < 32 := by have := (List.getElem?_eq_some_iff.1 hv).1; rwa [secL_length] at this
          rw [secL_get _ _ hj] at hv
          rw [hcell j (by omega)]; exact hv
        have hwr : d.write k f 32 = (0, { d with sec := upd d.sec k.toNat f, pend := d.pend ++ [⟨k.toNat, d.sec k.toNat, f⟩], life := aged d.life }) := by simp [DS.write, e2, e3]
        rw [hwr]
        have := write_ok p S k.toNat g o c B pv d f w h e2 (by omega) hrange hB hby
        rw [← hk] at this
        exact this
  · refine (write_len _ k a m c w (by simp; omega)).mono fun e w' hh => same 2 e w' (by simp [DS.write, e1]) hh
end Go.Proofs.Ytaeghpfncfkgfaa
