/- The document's str and the program's; the document's Quoted. -/
import Derived.Test.YtbijiigobbjlcaaDoorLx39
namespace Go.Proofs.YtbijiigobbjlcaaDoor
open Go.RowKit Go.Lib
set_option linter.unusedSimpArgs false
set_option linter.unusedVariables false
/-- Characters with their places in a text. -/
def cl : Nat → List Nat → List Chr
  | _, [] => []
  | A, c :: q => ⟨c, A, A + wr c, false⟩ :: cl (A + wr c) q
theorem cl_len : ∀ (q : List Nat) (A : Nat), (cl A q).length = q.length
  | [], A => rfl
  | c :: q, A => by rw [cl, List.length_cons, List.length_cons, cl_len q]
theorem cl_drop : ∀ (q : List Nat) (A k : Nat), (cl A q).drop k = cl (A + wl (q.take k)) (q.drop k)
  | q, A, 0 => by simp [wl_nil]
  | [], A, k + 1 => rfl
  | c :: q, A, k + 1 => by rw [cl, List.drop_succ_cons, cl_drop q _ k, List.take_succ_cons, wl_cons, List.drop_succ_cons, Nat.add_assoc]
theorem cl_get : ∀ (q : List Nat) (A k c : Nat), q[k]? = some c → (cl A q)[k]? = some ⟨c, A + wl (q.take k), A + wl (q.take k) + wr c, false⟩
  | [], A, k, c, h => by simp at h
  | x :: q, A, 0, c, h => by
    simp only [List.getElem?_cons_zero, Option.some.injEq] at h
    subst h
    simp [cl, wl_nil]
  | x :: q, A, k + 1, c, h => by
    have := cl_get q (A + wr x) k c (by simpa using h)
    rw [cl, List.getElem?_cons_succ, this, List.take_succ_cons, wl_cons, Nat.add_assoc]
theorem chr_tx {l : List Nat} (hv : VL l) : chrL (tx l) = cl 0 l := by
  have key : ∀ (q : List Nat) (o : Nat), Sfx (tx l) q o → (pl o q).map (chr1 (tx l)) = cl o q := by
    intro q
    induction q with
    | nil => intro o _; rfl
    | cons c q ih =>
      intro o ho
      rw [pl, List.map_cons, cl, ih _ ho.tail]
      congr 1
      unfold chr1
      rw [if_neg]
      rintro ⟨h1, hp⟩
      have hc : c = 65533 := h1
      subst hc
      rw [ho.rest] at hp
      have e : (tx (65533 :: q)).extract 0 3 = tx [65533] := by
        have : Sfx (tx (65533 :: q)) ([65533] ++ q) 0 := sfx_all ho.vl
        have := this.extract
        rwa [show 0 + wl [65533] = 3 from rfl] at this
      unfold preB at hp
      rw [show rpB.size = 3 from rfl, e, show tx [65533] = rpB from rfl] at hp
      have hz : 3 ≤ (tx (65533 :: q)).size := by rw [tx_size, wl_cons, show wr 65533 = 3 from rfl]; omega
      rw [decide_eq_true hz] at hp
      simp at hp
  unfold chrL chs
  rw [crs_tx0 hv]
  exact key l 0 (sfx_all hv)
/-- The two ways to read a string answer the same. -/
theorem str_rel (a : Nat) : ∀ (f : Nat) (q : List Nat) (o j : Nat) (out : List Nat), q.length < f →
    ((rstr a f (cl (a + 1 + o) q) j out).2.2 = 0 → ∃ i, i ≤ q.length ∧ (rstr a f (cl (a + 1 + o) q) j out).2.1 = j + i ∧ strG a (a + 1 + o + wl q) (pl o q) false out = (⟨3, tx (rstr a f (cl (a + 1 + o) q) j out).1, 0, a⟩, a + 1 + o + wl (q.take i), 0)) ∧
    ((rstr a f (cl (a + 1 + o) q) j out).2.2 ≠ 0 → (rstr a f (cl (a + 1 + o) q) j out).1 = [] ∧ strG a (a + 1 + o + wl q) (pl o q) false out = (zT, (rstr a f (cl (a + 1 + o) q) j out).2.1, (rstr a f (cl (a + 1 + o) q) j out).2.2)) := by
  intro f
  induction f with
  | zero => intro q o j out h; omega
  | succ f ih =>
    intro q o j out h
    cases q with
    | nil =>
      rw [cl, rstr, pl, strG]
      exact ⟨fun g => by simp at g, fun _ => ⟨rfl, rfl⟩⟩
    | cons c q =>
      rw [List.length_cons] at h
      rw [cl, rstr, pl]
      simp only [strG]
      by_cases h34 : c = 34
      · subst h34
        have e92 : ¬ (34 : Nat) = 92 := by decide
        have e : (tx out).size = (enL out).length := tx_size out
        rw [if_pos rfl, if_neg e92, if_pos rfl, e]
        by_cases hb : 4096 < (enL out).length
        · rw [if_pos hb, if_pos hb]
          exact ⟨fun g => by simp at g, fun _ => ⟨rfl, rfl⟩⟩
        · rw [if_neg hb, if_neg hb]
          refine ⟨fun _ => ⟨1, by simp, rfl, ?_⟩, fun g => by simp at g⟩
          rw [List.take_succ_cons, List.take_zero, wl_cons, wl_nil, show wr 34 = 1 from rfl, show a + 1 + o + (1 + 0) = a + o + 2 by omega]
      · rw [if_neg h34]
        by_cases h92 : c = 92
        · subst h92
          rw [if_pos rfl, if_pos rfl]
          cases q with
          | nil =>
            rw [cl, List.head?_nil, pl, strG]
            refine ⟨fun g => by simp at g, fun _ => ⟨rfl, ?_⟩⟩
            rw [wl_cons, wl_nil, show wr 92 = 1 from rfl, show a + 1 + o + (1 + 0) - 1 = a + 1 + o by omega]
          | cons d q =>
            rw [List.length_cons] at h
            rw [cl, List.head?_cons, List.tail_cons, pl, show wr 92 = 1 from rfl]
            simp only [strG]
            have hplace : a + 1 + o + 1 + wr d = a + 1 + (o + 1 + wr d) := by omega
            have hn : a + 1 + o + wl (92 :: d :: q) = a + 1 + (o + 1 + wr d) + wl q := by rw [wl_cons, wl_cons, show wr 92 = 1 from rfl]; omega
            have go : ∀ x : Nat, ((rstr a f (cl (a + 1 + (o + 1 + wr d)) q) (j + 2) (out ++ [x])).2.2 = 0 → ∃ i, i ≤ (92 :: d :: q).length ∧ (rstr a f (cl (a + 1 + (o + 1 + wr d)) q) (j + 2) (out ++ [x])).2.1 = j + i ∧ strG a (a + 1 + (o + 1 + wr d) + wl q) (pl (o + 1 + wr d) q) false (out ++ [x]) = (⟨3, tx (rstr a f (cl (a + 1 + (o + 1 + wr d)) q) (j + 2) (out ++ [x])).1, 0, a⟩, a + 1 + o + wl ((92 :: d :: q).take i), 0)) ∧
                ((rstr a f (cl (a + 1 + (o + 1 + wr d)) q) (j + 2) (out ++ [x])).2.2 ≠ 0 → (rstr a f (cl (a + 1 + (o + 1 + wr d)) q) (j + 2) (out ++ [x])).1 = [] ∧ strG a (a + 1 + (o + 1 + wr d) + wl q) (pl (o + 1 + wr d) q) false (out ++ [x]) = (zT, (rstr a f (cl (a + 1 + (o + 1 + wr d)) q) (j + 2) (out ++ [x])).2.1, (rstr a f (cl (a + 1 + (o + 1 + wr d)) q) (j + 2) (out ++ [x])).2.2)) := by
              intro x
              obtain ⟨i1, i2⟩ := ih q (o + 1 + wr d) (j + 2) (out ++ [x]) (by omega)
              refine ⟨fun g => ?_, i2⟩
              obtain ⟨i, hi, e1, e2⟩ := i1 g
              refine ⟨i + 2, by simp; omega, by rw [e1]; omega, ?_⟩
              rw [e2, List.take_succ_cons, List.take_succ_cons, wl_cons, wl_cons, show wr 92 = 1 from rfl]
              congr 2
              omega
            by_cases h110 : d = 110
            · have hu : une d = some 10 := by rw [h110]; rfl
              rw [if_pos h110, hu, hplace, hn]
              exact go 10
            · rw [if_neg h110]
              by_cases h2 : d = 34 ∨ d = 92
              · have hu : une d = some d := by unfold une; rw [if_neg h110, if_pos h2]
                rw [if_pos h2, hu, hplace, hn]
                exact go d
              · have hu : une d = none := by unfold une; rw [if_neg h110, if_neg h2]
                rw [if_neg h2, hu]
                refine ⟨fun g => by simp at g, fun _ => ⟨rfl, ?_⟩⟩
                show (zT, a + (o + 1), (9 : Int)) = (zT, a + 1 + o, 9)
                congr 2
                omega
        · rw [if_neg h92, if_neg h92, if_neg h34]
          have hplace : a + 1 + o + wr c = a + 1 + (o + wr c) := by omega
          have hn : a + 1 + o + wl (c :: q) = a + 1 + (o + wr c) + wl q := by rw [wl_cons]; omega
          rw [hplace, hn]
          obtain ⟨i1, i2⟩ := ih q (o + wr c) (j + 1) (out ++ [c]) (by omega)
          refine ⟨fun g => ?_, i2⟩
          obtain ⟨i, hi, e1, e2⟩ := i1 g
          refine ⟨i + 1, by simp; omega, by rw [e1]; omega, ?_⟩
          rw [e2, List.take_succ_cons, wl_cons]
          congr 2
          omega
/-- What stands for a byte. -/
def qB (b : UInt8) : List UInt8 := if b.toNat = 10 then [92, 110] else if b.toNat = 34 ∨ b.toNat = 92 then [92, b] else [b]
theorem qB_enc {c : Nat} (hc : Vr c) : (encodeRune (c : Int)).flatMap qB = enL (quC c) := by
  unfold Vr at hc
  have hi : ∀ n : Nat, 128 ≤ n → n < 256 → qB n.toUInt8 = [n.toUInt8] := fun n h1 h2 => by
    unfold qB
    rw [byte_of h2, if_neg (by omega), if_neg (by omega)]
  have hq : 128 ≤ c → quC c = [c] := fun h => by unfold quC; rw [if_neg (by omega), if_neg (by omega)]
  have hs : enL [c] = encodeRune (c : Int) := by simp [enL]
  by_cases h1 : c ≤ 127
  · rw [enc1 h1, List.flatMap_cons, List.flatMap_nil, List.append_nil]
    unfold qB quC
    rw [byte_of (by omega)]
    by_cases h10 : c = 10
    · rw [if_pos h10, if_pos h10]; rfl
    · rw [if_neg h10, if_neg h10]
      by_cases h2 : c = 34 ∨ c = 92
      · rw [if_pos h2, if_pos h2, show enL [92, c] = encodeRune ((92 : Nat) : Int) ++ encodeRune (c : Int) by simp [enL], enc1 h1, enc1 (by decide)]
        rfl
      · rw [if_neg h2, if_neg h2, hs, enc1 h1]
  · rw [hq (by omega), hs]
    by_cases h2 : c ≤ 2047
    · rw [enc2 (by omega) h2]
      simp only [List.flatMap_cons, List.flatMap_nil, hi _ (by omega : 128 ≤ 192 + c / 64) (by omega), hi _ (by omega : 128 ≤ 128 + c % 64) (by omega)]
      rfl
    · by_cases h3 : c ≤ 65535
      · rw [enc3 (by omega)]
        simp only [List.flatMap_cons, List.flatMap_nil, hi _ (by omega : 128 ≤ 224 + c / 4096) (by omega), hi _ (by omega : 128 ≤ 128 + c / 64 % 64) (by omega), hi _ (by omega : 128 ≤ 128 + c % 64) (by omega)]
        rfl
      · rw [enc4 (by omega) (by omega)]
        simp only [List.flatMap_cons, List.flatMap_nil, hi _ (by omega : 128 ≤ 240 + c / 262144) (by omega), hi _ (by omega : 128 ≤ 128 + c / 4096 % 64) (by omega), hi _ (by omega : 128 ≤ 128 + c / 64 % 64) (by omega), hi _ (by omega : 128 ≤ 128 + c % 64) (by omega)]
        rfl
theorem qB_all {l : List Nat} (hv : VL l) : (enL l).flatMap qB = enL (quo l) := by
  induction l with
  | nil => rfl
  | cons c l ih =>
    have e1 : enL (c :: l) = encodeRune (c : Int) ++ enL l := by simp [enL]
    have e2 : quo (c :: l) = quC c ++ quo l := by simp [quo]
    rw [e1, e2, List.flatMap_append, enL_app, ih (fun x hx => hv x (List.mem_cons_of_mem _ hx)), qB_enc (hv c (List.mem_cons_self ..))]
end Go.Proofs.YtbijiigobbjlcaaDoor
