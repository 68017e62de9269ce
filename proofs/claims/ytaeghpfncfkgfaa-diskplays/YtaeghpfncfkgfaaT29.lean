/- Both disks, call by call: they answer alike. -/
import Derived.Test.YtaeghpfncfkgfaaT28
namespace Go.Proofs.Ytaeghpfncfkgfaa
open Go.RowKit
set_option linter.unusedSimpArgs false
set_option linter.unusedVariables false

/-- Put, whatever it is given. -/
theorem rput_all {w : World} {B r K : Nat} {rv : Value} {d : DS} {rs : List RW} (h : RefAt w B r K rv d rs) (a : Option Addr) (m c : Nat) (k : Int) (f : Nat → Int) (hr : RowAt w (.slice a m c) m 1 (fun j => .int .u8 (f j))) (hB : B ≤ w.heap.size) (hby : (d.pend.length + 1) * 72 ≤ 140737488355328) (hm : m ≤ 140737488351232) :
    Calls Try.prog 33 #[.pointer (some ⟨r, 0, none⟩), .int .i64 k, .slice a m c] w fun e w' => e = .returned (.int .i64 (d.write k f m).1) ∧ ∃ rv' rs', RefAt w' B r K rv' (d.write k f m).2 rs' ∧ Only (refB r K rv rs) w w' ∧ (∀ b, refB r K rv' rs' b → refB r K rv rs b ∨ w.heap.size ≤ b) := by
  have same : ∀ (x : Int) (e : Ending) (w' : World), d.write k f m = (x, d) → e = .returned (.int .i64 x) ∧ w' = w → e = .returned (.int .i64 (d.write k f m).1) ∧ ∃ rv' rs', RefAt w' B r K rv' (d.write k f m).2 rs' ∧ Only (refB r K rv rs) w w' ∧ (∀ b, refB r K rv' rs' b → refB r K rv rs b ∨ w.heap.size ≤ b) := by
    rintro x e w' hw ⟨rfl, rfl⟩
    rw [hw]
    exact ⟨rfl, rv, rs, h, Only.refl _ _, fun b hb => .inl hb⟩
  by_cases e1 : m = 32
  · subst e1
    by_cases e2 : d.life = 0
    · refine (rput_dead r k a c w (by rw [← e2]; exact h.c3)).mono fun e w' hh => same 3 e w' (by simp [DS.write, e2]) hh
    · by_cases e3 : k < 0 ∨ (d.n : Int) ≤ k
      · refine (rput_out r d.n d.life k a c w h.c0 h.c3 (by simpa using e2) e3).mono fun e w' hh => same 4 e w' (by simp [DS.write, e2, e3]) hh
      · obtain ⟨g, o, c', hv, hcell, hg⟩ := hr.at (by omega)
        simp only [Value.slice.injEq] at hv
        obtain ⟨rfl, _, rfl⟩ := hv
        have hk : k = (k.toNat : Int) := by omega
        have hrange : w.rangeAt g o (secL f) := fun j v hv => by
          have hj : j < 32 := by have := (List.getElem?_eq_some_iff.1 hv).1; rwa [secL_length] at this
          rw [secL_get _ _ hj] at hv
          rw [hcell j (by omega)]; exact hv
        have hwr : d.write k f 32 = (0, { d with sec := upd d.sec k.toNat f, pend := d.pend ++ [⟨k.toNat, d.sec k.toNat, f⟩], life := aged d.life }) := by simp [DS.write, e2, e3]
        rw [hwr]
        have := rput_any h e2 hby k.toNat (by omega) f g o c hrange hB
        rw [← hk] at this
        refine this.mono ?_
        rintro e w' ⟨rfl, rv', rs', q1, q2, q3⟩
        exact ⟨rfl, rv', rs', q1, q2.mono (fun b _ e => e.elim .inl (fun e => .inr (.inr (.inl e)))), q3⟩
  · refine (rput_len r k a m c w e1).mono fun e w' hh => same 2 e w' (by simp [DS.write, e1]) hh

/-- Both disks stand for d, apart from each other and from the block X. -/
structure Both (w0 w : World) (p S : Nat) (pv : Value) (r K : Nat) (rv : Value) (rs : List RW) (d : DS) (X : Nat) : Prop where
  disk : DiskAt w w0.heap.size p S pv d
  ref : RefAt w w0.heap.size r K rv d rs
  good : Good d
  sep : ∀ b, diskB p S pv b → ¬ refB r K rv rs b
  only : Only (fun _ => False) w0 w
  x1 : ¬ diskB p S pv X
  x2 : ¬ refB r K rv rs X
/-- What a call leaves. -/
def Next (w0 w : World) (p S r K : Nat) (d : DS) : Prop := ∃ pv rv rs d', Both w0 w p S pv r K rv rs d' w.heap.size ∧ d'.n = d.n ∧ d'.pend.length ≤ d.pend.length + 1
/-- Cells of the block X stand. -/
def KeepX (X : Nat) (w w' : World) : Prop := ∀ j v, w.cell? ⟨X, j, none⟩ = some v → w'.cell? ⟨X, j, none⟩ = some v
theorem Both.frame {w0 w w' : World} {p S : Nat} {pv : Value} {r K : Nat} {rv : Value} {rs : List RW} {d : DS} {X : Nat} (h : Both w0 w p S pv r K rv rs d X) (ho : Only (fun _ => False) w w') : Both w0 w' p S pv r K rv rs d X :=
  ⟨h.disk.frame ho (fun _ _ e => e), h.ref.frame ho (fun _ _ e => e), h.good, h.sep, h.only.trans ho (fun _ _ e => e), h.x1, h.x2⟩
/-- Both calls are done. -/
theorem Both.next {w0 w w1 w2 : World} {p S : Nat} {pv pv' : Value} {r K : Nat} {rv rv' : Value} {rs rs' : List RW} {d d' : DS} {X : Nat} (h : Both w0 w p S pv r K rv rs d X) (hd : DiskAt w1 w0.heap.size p S pv' d') (o1 : Only (diskB p S pv) w w1) (b1 : ∀ b, pv'.ownBlock = some b → pv.ownBlock = some b ∨ w.heap.size ≤ b)
    (hr : RefAt w2 w0.heap.size r K rv' d' rs') (o2 : Only (refB r K rv rs) w1 w2) (b2 : ∀ b, refB r K rv' rs' b → refB r K rv rs b ∨ w1.heap.size ≤ b) (hg : Good d') (hn : d'.n = d.n) (hp : d'.pend.length ≤ d.pend.length + 1) : Next w0 w2 p S r K d := by
  have s1 := o1.size
  have hdl := hd.lt
  have hsz := h.only.size
  have hdb : ∀ b, diskB p S pv' b → diskB p S pv b ∨ w.heap.size ≤ b := by
    rintro b (rfl | rfl | hb)
    · exact .inl (.inl rfl)
    · exact .inl (.inr (.inl rfl))
    · exact (b1 b hb).imp (fun e => .inr (.inr e)) id
  have hrl : ∀ b, refB r K rv rs b → b < w.heap.size := fun b hb => (h.ref.lt b hb).2
  have sep1 : ∀ b, diskB p S pv' b → ¬ refB r K rv rs b := fun b hb e => by
    rcases hdb b hb with h1 | h1
    · exact h.sep b h1 e
    · have := hrl b e; omega
  refine ⟨pv', rv', rs', d', ⟨hd.frame o2 sep1, hr, hg, fun b hb e => ?_, (h.only.trans o1 (fun b hb e => by have := (h.disk.lt b e).1; omega)).trans o2 (fun b hb e => by have := (h.ref.lt b e).1; omega), fun e => by have := ((hd.frame o2 sep1).lt _ e).2; omega, fun e => by have := (hr.lt _ e).2; omega⟩, hn, hp⟩
  rcases b2 b e with h1 | h1
  · exact sep1 b hb h1
  · have := (hdl b hb).2; omega
theorem Both.same {w0 w w2 : World} {p S : Nat} {pv : Value} {r K : Nat} {rv : Value} {rs : List RW} {d : DS} {X : Nat} (h : Both w0 w p S pv r K rv rs d X) (ho : Only (fun _ => False) w w2) : Next w0 w2 p S r K d := by
  have f := h.frame ho
  exact ⟨pv, rv, rs, d, ⟨f.disk, f.ref, f.good, f.sep, f.only, fun e => by have := (f.disk.lt _ e).2; omega, fun e => by have := (f.ref.lt _ e).2; omega⟩, rfl, by omega⟩
/-- Read. -/
theorem both_read {w0 w : World} {p S : Nat} {pv : Value} {r K : Nat} {rv : Value} {rs : List RW} {d : DS} {X : Nat} (h : Both w0 w p S pv r K rv rs d X) (hlen : d.pend.length ≤ 140737488351232) (s : Int) :
    Calls Try.prog 25 #[.pointer (some ⟨p, 0, none⟩), .int .i64 s] w fun e w1 => ∃ a m c q, e = .returned (.tuple #[.slice a m c, .int .i64 q]) ∧ Hid (KeepX X w w1) ∧
      Hid (Calls Try.prog 29 #[.pointer (some ⟨r, 0, none⟩), .int .i64 s] w1 fun e w2 => ∃ a2 c2, e = .returned (.tuple #[.slice a2 m c2, .int .i64 q]) ∧
        Hid (Calls Try.prog 20 #[.slice a m c, .slice a2 m c2] w2 fun e w3 => e = .returned (.bool true) ∧ Hid (Next w0 w3 p S r K d))) := by
  have fail : ∀ (q : Int) (w1 w2 : World), w1 = w → w2 = w1 → Hid (Calls Try.prog 20 #[.slice none 0 0, .slice none 0 0] w2 fun e w3 => e = .returned (.bool true) ∧ Hid (Next w0 w3 p S r K d)) := by
    rintro q w1 w2 rfl rfl
    refine (same_core none none 0 0 0 (fun _ => 0) w2 (by omega) (fun j hj => by omega) (fun j hj => by omega)).mono ?_
    rintro e w3 ⟨rfl, o3⟩
    exact ⟨rfl, h.same o3⟩
  obtain ⟨c0, hc0⟩ := h.disk.c0
  by_cases e2 : d.life = 0
  · refine (read_dead p s w (by rw [← e2]; exact h.disk.c2)).mono ?_
    rintro e w1 ⟨rfl, rfl⟩
    refine ⟨none, 0, 0, 3, rfl, fun j v hv => hv, (rread_dead r s w1 (by rw [← e2]; exact h.ref.c3)).mono ?_⟩
    rintro e w2 ⟨rfl, rfl⟩
    exact ⟨none, 0, rfl, fail 3 _ _ rfl rfl⟩
  · by_cases e3 : s < 0 ∨ (d.n : Int) ≤ s
    · refine (read_out p S d.n c0 d.life s w hc0 h.disk.c2 (by simpa using e2) e3).mono ?_
      rintro e w1 ⟨rfl, rfl⟩
      refine ⟨none, 0, 0, 4, rfl, fun j v hv => hv, (rread_out r d.n d.life s w1 h.ref.c0 h.ref.c3 (by simpa using e2) e3).mono ?_⟩
      rintro e w2 ⟨rfl, rfl⟩
      exact ⟨none, 0, rfl, fail 4 _ _ rfl rfl⟩
    · obtain ⟨k, rfl⟩ : ∃ k : Nat, s = (k : Int) := ⟨s.toNat, by omega⟩
      have hk : k < d.n := by omega
      refine (read_any p S k _ pv d w h.disk e2 hk).mono ?_
      rintro e w1 ⟨rfl, hw1⟩
      have o1 : Only (fun _ => False) w w1 := by rw [hw1]; exact (Only.refl _ w).alloc _
      have r1 : w1.rangeAt w.heap.size 0 (secL (d.sec k)) := by
        intro j v hv
        rw [hw1, Nat.zero_add, cell_of_row _ _ _ _ _ _ (heap_alloc_new w _)]
        simpa using hv
      refine ⟨_, 32, 32, 0, rfl, fun j v hv => o1.cell hv (fun e => e), (rread_any (h.frame o1).ref h.good e2 hlen k hk).mono ?_⟩
      rintro e w2 ⟨g, cap, rfl, r2, o2⟩
      refine ⟨_, cap, rfl, (same_core _ _ 32 32 cap (d.sec k) w2 (by omega) (fun j hj => ⟨w.heap.size, 0, rfl, o2.range r1 (fun e => e) j _ (secL_get _ j hj)⟩) (fun j hj => ⟨g, 0, rfl, r2 j _ (secL_get _ j hj)⟩)).mono ?_⟩
      rintro e w3 ⟨rfl, o3⟩
      exact ⟨rfl, h.same ((o1.trans o2 (fun _ _ e => e)).trans o3 (fun _ _ e => e))⟩
/-- Barrier. -/
theorem both_barrier {w0 w : World} {p S : Nat} {pv : Value} {r K : Nat} {rv : Value} {rs : List RW} {d : DS} {X : Nat} (h : Both w0 w p S pv r K rv rs d X) (hlen : d.pend.length ≤ 140737488351232) :
    Calls Try.prog 17 #[.pointer (some ⟨p, 0, none⟩)] w fun e w1 => ∃ q, e = .returned (.int .i64 q) ∧ Hid (Calls Try.prog 30 #[.pointer (some ⟨r, 0, none⟩)] w1 fun e w2 => e = .returned (.int .i64 q) ∧ Hid (Next w0 w2 p S r K d)) := by
  by_cases e2 : d.life = 0
  · refine (barrier_dead p w (by rw [← e2]; exact h.disk.c2)).mono ?_
    rintro e w1 ⟨rfl, rfl⟩
    refine ⟨3, rfl, (rbarrier_dead r w1 (by rw [← e2]; exact h.ref.c3)).mono ?_⟩
    rintro e w2 ⟨rfl, rfl⟩
    exact ⟨rfl, h.same (Only.refl _ _)⟩
  · refine (barrier_any p S _ pv d w h.disk e2).mono ?_
    rintro e w1 ⟨rfl, d1, o1⟩
    have o1' : Only (diskB p S pv) w w1 := o1.mono (fun _ _ e => .inl e)
    refine ⟨0, rfl, (rbarrier_any (h.ref.frame o1' (fun b hb e => h.sep b e hb)) h.good e2 hlen).mono ?_⟩
    rintro e w2 ⟨rfl, r2, o2⟩
    exact ⟨rfl, h.next d1 o1' (fun b hb => by cases hb) r2 (o2.mono (fun b _ e => e.elim .inl (fun e => .inr (.inl e)))) (fun b hb => by
      rcases hb with rfl | rfl | hb | ⟨x, hx, _⟩
      · exact .inl (.inl rfl)
      · exact .inl (.inr (.inl rfl))
      · cases hb
      · cases hx) (Good.nil _ _ _) rfl (by simp)⟩
/-- Live. -/
theorem both_live {w0 w : World} {p S : Nat} {pv : Value} {r K : Nat} {rv : Value} {rs : List RW} {d : DS} {X : Nat} (h : Both w0 w p S pv r K rv rs d X) (n : Int) (hn : n ≤ 9223372036854775807) :
    Calls Try.prog 23 #[.pointer (some ⟨p, 0, none⟩), .int .i64 n] w fun e w1 => ∃ q, e = .returned (.int .i64 q) ∧ Hid (KeepX X w w1) ∧ Hid (Calls Try.prog 32 #[.pointer (some ⟨r, 0, none⟩), .int .i64 n] w1 fun e w2 => e = .returned (.int .i64 q) ∧ Hid (KeepX X w w2) ∧ Hid (Next w0 w2 p S r K d)) := by
  by_cases e2 : n < -1
  · refine (live_bad p n w e2).mono ?_
    rintro e w1 ⟨rfl, rfl⟩
    refine ⟨2, rfl, fun j v hv => hv, (rlive_bad r n w1 e2).mono ?_⟩
    rintro e w2 ⟨rfl, rfl⟩
    exact ⟨rfl, fun j v hv => hv, h.same (Only.refl _ _)⟩
  · refine (live_any p S _ pv d n w h.disk (by omega) hn).mono ?_
    rintro e w1 ⟨rfl, d1, o1⟩
    have o1' : Only (diskB p S pv) w w1 := o1.mono (fun _ _ e => .inl e)
    refine ⟨0, rfl, fun j v hv => o1'.cell hv h.x1, (rlive_any (h.ref.frame o1' (fun b hb e => h.sep b e hb)) n (by omega) hn).mono ?_⟩
    rintro e w2 ⟨rfl, r2, o2⟩
    have o2' : Only (refB r K rv rs) w1 w2 := o2.mono (fun b _ e => .inl e)
    exact ⟨rfl, fun j v hv => o2'.cell (o1'.cell hv h.x1) h.x2, h.next d1 o1' (fun b hb => .inl hb) r2 o2' (fun b hb => .inl hb) h.good rfl (by simp)⟩
/-- Crash. -/
theorem both_crash {w0 w : World} {p S : Nat} {pv : Value} {r K : Nat} {rv : Value} {rs : List RW} {d : DS} {X : Nat} (h : Both w0 w p S pv r K rv rs d X) (hlen : d.pend.length ≤ 140737488351232) (kv kv' : Value) (ks : List Bool) (torn cut : Int) (hk : FlagsAt w kv ks.length (fun j => ks.getD j false) S) (hk' : FlagsIn w0 kv' ks) :
    Calls Try.prog 19 #[.pointer (some ⟨p, 0, none⟩), kv, .int .i64 torn, .int .i64 cut] w fun e w1 => ∃ q, e = .returned (.int .i64 q) ∧ Hid (KeepX X w w1) ∧ Hid (Calls Try.prog 31 #[.pointer (some ⟨r, 0, none⟩), kv', .int .i64 torn, .int .i64 cut] w1 fun e w2 => e = .returned (.int .i64 q) ∧ Hid (KeepX X w w2) ∧ Hid (Next w0 w2 p S r K d)) := by
  by_cases e2 : cut < 0 ∨ 32 < cut
  · refine (crash_bad p kv torn cut w e2).mono ?_
    rintro e w1 ⟨rfl, rfl⟩
    refine ⟨2, rfl, fun j v hv => hv, (rcrash_bad r kv' torn cut w1 e2).mono ?_⟩
    rintro e w2 ⟨rfl, rfl⟩
    exact ⟨rfl, fun j v hv => hv, h.same (Only.refl _ _)⟩
  · obtain ⟨c, rfl⟩ : ∃ c : Nat, cut = (c : Int) := ⟨cut.toNat, by omega⟩
    refine (crash_any p S _ ks.length c pv kv _ torn d w h.disk (by omega) hk).mono ?_
    rintro e w1 ⟨rfl, d1, o1⟩
    have o1' : Only (diskB p S pv) w w1 := o1.mono (fun _ _ e => e.elim .inl (fun e => .inr (.inl e)))
    have o1w : Only (fun _ => False) w0 w1 := h.only.trans o1' (fun b hb e => by have := (h.disk.lt b e).1; omega)
    have hfl : FlagsAt w1 kv' ks.length (fun j => ks.getD j false) K := by
      have hf := hk'.1.frame o1w (fun _ e => e.elim)
      have hm : ks.length ≤ maxLen := by have := hk'.2; unfold maxLen; omega
      rcases hf with ⟨hv, h0⟩ | ⟨ad, c', hv, hc⟩
      · exact ⟨none, 0, by rw [hv, h0], hm, fun i hi => by omega⟩
      · refine ⟨some ad, c', hv, hm, fun i hi => ?_⟩
        obtain ⟨g, o, c2, hv2, hcell, hg⟩ := hk'.1.at (by omega)
        rw [hv] at hv2
        simp only [Value.slice.injEq, Option.some.injEq] at hv2
        obtain ⟨rfl, _, rfl⟩ := hv2
        refine ⟨g, o, rfl, ?_, ?_⟩
        · have := h.ref.KB; omega
        · rw [← Addr.add_mid]; exact hc i (by omega)
    refine ⟨0, rfl, fun j v hv => o1'.cell hv h.x1, (rcrash_any (h.ref.frame o1' (fun b hb e => h.sep b e hb)) hlen kv' ks.length _ torn c (by omega) hfl).mono ?_⟩
    rintro e w2 ⟨rfl, r2, o2⟩
    have o2' : Only (refB r K rv rs) w1 w2 := o2.mono (fun b _ e => e.elim .inl (fun e => .inr (.inl e)))
    exact ⟨rfl, fun j v hv => o2'.cell (o1'.cell hv h.x1) h.x2, h.next d1 o1' (fun b hb => by cases hb) r2 o2' (fun b hb => by
      rcases hb with rfl | rfl | hb | ⟨x, hx, _⟩
      · exact .inl (.inl rfl)
      · exact .inl (.inr (.inl rfl))
      · cases hb
      · cases hx) (Good.nil _ _ _) rfl (by simp)⟩
/-- Write. -/
theorem both_write {w0 w : World} {p S : Nat} {pv : Value} {r K : Nat} {rv : Value} {rs : List RW} {d : DS} {X : Nat} (h : Both w0 w p S pv r K rv rs d X) (hby : (d.pend.length + 1) * 72 ≤ 140737488355328) (x : OpD) (hx : x.ok w0) (hXl : X < w.heap.size) :
    Calls Try.prog 22 #[.agg x.cells.toArray] w fun e w1 => ∃ a1 m1 c1, e = .returned (.slice a1 m1 c1) ∧ Hid (KeepX X w w1) ∧
      Hid (Calls Try.prog 21 #[.pointer (some ⟨p, 0, none⟩), .int .i64 x.s, .slice a1 m1 c1] w1 fun e w2 => ∃ q, e = .returned (.int .i64 q) ∧ Hid (KeepX X w w2) ∧
        Hid (Calls Try.prog 22 #[.agg x.cells.toArray] w2 fun e w3 => ∃ a3 m3 c3, e = .returned (.slice a3 m3 c3) ∧ Hid (KeepX X w w3) ∧
          Hid (Calls Try.prog 33 #[.pointer (some ⟨r, 0, none⟩), .int .i64 x.s, .slice a3 m3 c3] w3 fun e w4 => e = .returned (.int .i64 q) ∧ Hid (KeepX X w w4) ∧ Hid (Next w0 w4 p S r K d)))) := by
  have hbl : x.bytes.length ≤ 140737488351232 := by
    unfold OpD.bytes
    split
    · exact hx.1.2.1
    · simp
  refine (bytes_any x w (hx.frame h.only)).mono ?_
  rintro e w1 ⟨a1, c1, rfl, row1, o1⟩
  have h1 := h.frame o1
  refine ⟨a1, _, c1, rfl, fun j v hv => o1.cell hv (fun e => e), (write_all p S _ c1 _ a1 pv d x.s _ w1 h1.disk row1 h1.only.size hby hbl).mono ?_⟩
  rintro e w2 ⟨rfl, pv2, d2, o2, b2⟩
  have o2w : Only (fun _ => False) w0 w2 := h1.only.trans o2 (fun b hb e => by have := (h.disk.lt b e).1; omega)
  have k2 : KeepX X w w2 := fun j v hv => o2.cell (o1.cell hv (fun e => e)) h.x1
  refine ⟨_, rfl, k2, (bytes_any x w2 (hx.frame o2w)).mono ?_⟩
  rintro e w3 ⟨a3, c3, rfl, row3, o3⟩
  have o23 : Only (diskB p S pv) w1 w3 := o2.trans o3 (fun _ _ e => e.elim)
  have d3 := d2.frame o3 (fun _ _ e => e)
  have r3 := h1.ref.frame o23 (fun b hb e => h.sep b e hb)
  have k3 : KeepX X w w3 := fun j v hv => o3.cell (k2 j v hv) (fun e => e)
  refine ⟨a3, _, c3, rfl, k3, (rput_all r3 a3 _ c3 x.s _ row3 (by have := o2w.size; have := o3.size; omega) hby hbl).mono ?_⟩
  rintro e w4 ⟨rfl, rv4, rs4, r4, o4, b4⟩
  exact ⟨rfl, fun j v hv => o4.cell (k3 j v hv) h.x2, h1.next d3 o23 b2 r4 o4 b4 (h.good.write _ _ _) (write_n _ _ _ _) (write_len2 _ _ _ _)⟩
end Go.Proofs.Ytaeghpfncfkgfaa
