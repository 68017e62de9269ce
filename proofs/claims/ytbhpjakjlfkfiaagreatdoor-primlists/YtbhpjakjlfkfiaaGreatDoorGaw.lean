/- The calls of PrimLists, each in the form that its walk wants. -/
import Derived.Test.YtbhpjakjlfkfiaaGreatDoorGav
namespace Go.Proofs.YtbhpjakjlfkfiaaGreatDoor
open Go.RowKit Go.Lib
set_option linter.unusedSimpArgs false
set_option linter.unusedVariables false
/-- one value, in a row -/
structure Ok1 (t : Vt) (D : Nat) (w : World) (g q c : Nat) (u : Value) : Prop where
  cell : w.cell? ⟨g, q, none⟩ = some u
  at' : ∃ S, QiAt w S D false (.slice (some ⟨g, q, none⟩) 1 c) [t] ∧ TiAt w S D false t u ∧ ∀ b, S b → b < w.heap.size
theorem Ok1.only {t : Vt} {D : Nat} {w w' : World} {g q c : Nat} {u : Value} (h : Ok1 t D w g q c u) (o : Only (fun _ => False) w w') : Ok1 t D w' g q c u := by
  obtain ⟨S, h1, h2, h3⟩ := h.at'
  exact ⟨o.cell h.cell (fun g => g), S, h1.step (fun _ g => g) (fun a u _ hc => o.cell hc (fun g => g)) (Nat.le_refl _), h2.only o (fun _ _ g => g), fun b hb => Nat.lt_of_lt_of_le (h3 b hb) o.size⟩
def OkP (t : Vt) (D : Nat) (w : World) (e : Ending) (w' : World) : Prop := ∃ g q c u, e = .returned (.tuple #[.slice (some ⟨g, q, none⟩) 1 c, .int .i64 0]) ∧ Hid (Ok1 t D w' g q c u ∧ Only (fun _ => False) w w')
theorem ok_of {t : Vt} {D : Nat} {w w' : World} {e : Ending} (h : DlP (.ok [t]) D w e w') : OkP t D w e w' := by
  obtain ⟨ao, cap, he, h⟩ := h
  obtain ⟨⟨S, h1, h2⟩, _, o⟩ := h.out
  obtain ⟨g, q, u, p1, p2, p3, p4⟩ := h1.ps 0 t rfl
  subst p1
  exact ⟨g, q, cap, u, he, ⟨⟨p3, S, h1, p4, h2⟩, o⟩⟩
/-- one number -/
def OkN (n : Int) (w : World) (e : Ending) (w' : World) : Prop := ∃ g q c, e = .returned (.tuple #[.slice (some ⟨g, q, none⟩) 1 c, .int .i64 0]) ∧ Hid (w'.cell? ⟨g, q, none⟩ = some (.iface 55 (.agg #[.int .i64 n])) ∧ Only (fun _ => False) w w')
theorem okn_of {n : Int} {D : Nat} {w w' : World} {e : Ending} (h : DlP (.ok [inT n]) D w e w') : OkN n w e w' := by
  obtain ⟨g, q, c, u, he, h⟩ := ok_of h
  obtain ⟨S, _, ht, _⟩ := h.out.1.at'
  have hu := ti_1 ht rfl
  exact ⟨g, q, c, he, ⟨by rw [h.out.1.cell, hu]; rfl, h.out.2⟩⟩
theorem do_r1 {D : Nat} {p : Pr} (hp : PrC p) {x : Vt} {u : Value} {w0 W : World} {S : Nat → Prop} {Q Q2 : Nat} (ht : TiAt w0 S D false x u) (hS : ∀ b, S b → b < w0.heap.size) (hsm : ∃ e, SmT e x) (o : Only (fun _ => False) w0 W) (hT : Tx W) (h : W.cell? ⟨Q, 0, none⟩ = some u) (hn : W.cell? ⟨Q2, 0, none⟩ = some (.string p.name)) :
    Calls Tryz.prog 23 #[.slice (some ⟨Q, 0, none⟩) 1 1, .slice (some ⟨Q2, 0, none⟩) 1 1] W fun e w' => DlP (doL D [p] [x]) (D + 2) W e w' :=
  do_names (ps := [p]) (l := [x]) (S := fun b => S b ∨ b = Q) (fun p' h' => by simp only [List.mem_cons, List.not_mem_nil, or_false] at h'; subst h'; exact hp) (by simp) ⟨_, _, rfl, by simp, fun j y hy => by
      have hj : j = 0 := by have := (List.getElem?_eq_some_iff.1 hy).1; simp at this; exact this
      subst hj
      simp at hy
      subst hy
      exact ⟨Q, 0, u, rfl, .inr rfl, h, (ht.only o (fun _ _ g => g)).step (fun _ g => .inl g) (fun _ _ _ g => g) (Nat.le_refl _)⟩⟩ (fun b hb => by
      rcases hb with hb | rfl
      · exact Nat.lt_of_lt_of_le (hS b hb) o.size
      · exact World.block_lt_of_cell? W _ h) (fun y hy => by simp only [List.mem_cons, List.not_mem_nil, or_false] at hy; subst hy; exact hsm) (by simp) (fun j p' hj => by
      have h0 : j = 0 := by have := (List.getElem?_eq_some_iff.1 hj).1; simp at this; exact this
      subst h0
      simp at hj
      subst hj
      exact hn) hT
theorem do_r2 {D : Nat} {p : Pr} (hp : PrC p) {x y : Vt} {u v : Value} {w0 W : World} {S : Nat → Prop} {Q Q2 : Nat} (ht : TiAt w0 S D false x u) (ht2 : TiAt w0 S D false y v) (hS : ∀ b, S b → b < w0.heap.size) (hsm : ∃ e, SmT e x) (hsm2 : ∃ e, SmT e y) (o : Only (fun _ => False) w0 W) (hT : Tx W) (h : W.cell? ⟨Q, 0, none⟩ = some u ∧ W.cell? ⟨Q, 1, none⟩ = some v) (hn : W.cell? ⟨Q2, 0, none⟩ = some (.string p.name)) :
    Calls Tryz.prog 23 #[.slice (some ⟨Q, 0, none⟩) 2 2, .slice (some ⟨Q2, 0, none⟩) 1 1] W fun e w' => DlP (doL D [p] [x, y]) (D + 2) W e w' :=
  do_names (ps := [p]) (l := [x, y]) (S := fun b => S b ∨ b = Q) (fun p' h' => by simp only [List.mem_cons, List.not_mem_nil, or_false] at h'; subst h'; exact hp) (by simp) ⟨_, _, rfl, by simp, fun j z hz => by
      have hj := (List.getElem?_eq_some_iff.1 hz).1
      match j, hj with
      | 0, _ => simp at hz; subst hz; exact ⟨Q, 0, u, rfl, .inr rfl, h.1, (ht.only o (fun _ _ g => g)).step (fun _ g => .inl g) (fun _ _ _ g => g) (Nat.le_refl _)⟩
      | 1, _ => simp at hz; subst hz; exact ⟨Q, 0, v, rfl, .inr rfl, h.2, (ht2.only o (fun _ _ g => g)).step (fun _ g => .inl g) (fun _ _ _ g => g) (Nat.le_refl _)⟩⟩ (fun b hb => by
      rcases hb with hb | rfl
      · exact Nat.lt_of_lt_of_le (hS b hb) o.size
      · exact World.block_lt_of_cell? W _ h.1) (fun z hz => by simp only [List.mem_cons, List.not_mem_nil, or_false] at hz; rcases hz with rfl | rfl; exact hsm; exact hsm2) (by simp) (fun j p' hj => by
      have h0 : j = 0 := by have := (List.getElem?_eq_some_iff.1 hj).1; simp at this; exact this
      subst h0
      simp at hj
      subst hj
      exact hn) hT
theorem do_r3 {D : Nat} {p : Pr} (hp : PrC p) {x y z : Vt} {u v t : Value} {w0 W : World} {S : Nat → Prop} {Q Q2 : Nat} (ht : TiAt w0 S D false x u) (ht2 : TiAt w0 S D false y v) (ht3 : TiAt w0 S D false z t) (hS : ∀ b, S b → b < w0.heap.size) (hsm : ∃ e, SmT e x) (hsm2 : ∃ e, SmT e y) (hsm3 : ∃ e, SmT e z) (o : Only (fun _ => False) w0 W) (hT : Tx W) (h : W.cell? ⟨Q, 0, none⟩ = some u ∧ W.cell? ⟨Q, 1, none⟩ = some v ∧ W.cell? ⟨Q, 2, none⟩ = some t) (hn : W.cell? ⟨Q2, 0, none⟩ = some (.string p.name)) :
    Calls Tryz.prog 23 #[.slice (some ⟨Q, 0, none⟩) 3 3, .slice (some ⟨Q2, 0, none⟩) 1 1] W fun e w' => DlP (doL D [p] [x, y, z]) (D + 2) W e w' :=
  do_names (ps := [p]) (l := [x, y, z]) (S := fun b => S b ∨ b = Q) (fun p' h' => by simp only [List.mem_cons, List.not_mem_nil, or_false] at h'; subst h'; exact hp) (by simp) ⟨_, _, rfl, by simp, fun j r hr => by
      have hj := (List.getElem?_eq_some_iff.1 hr).1
      match j, hj with
      | 0, _ => simp at hr; subst hr; exact ⟨Q, 0, u, rfl, .inr rfl, h.1, (ht.only o (fun _ _ g => g)).step (fun _ g => .inl g) (fun _ _ _ g => g) (Nat.le_refl _)⟩
      | 1, _ => simp at hr; subst hr; exact ⟨Q, 0, v, rfl, .inr rfl, h.2.1, (ht2.only o (fun _ _ g => g)).step (fun _ g => .inl g) (fun _ _ _ g => g) (Nat.le_refl _)⟩
      | 2, _ => simp at hr; subst hr; exact ⟨Q, 0, t, rfl, .inr rfl, h.2.2, (ht3.only o (fun _ _ g => g)).step (fun _ g => .inl g) (fun _ _ _ g => g) (Nat.le_refl _)⟩⟩ (fun b hb => by
      rcases hb with hb | rfl
      · exact Nat.lt_of_lt_of_le (hS b hb) o.size
      · exact World.block_lt_of_cell? W _ h.1) (fun r hr => by simp only [List.mem_cons, List.not_mem_nil, or_false] at hr; rcases hr with rfl | rfl | rfl; exact hsm; exact hsm2; exact hsm3) (by simp) (fun j p' hj => by
      have h0 : j = 0 := by have := (List.getElem?_eq_some_iff.1 hj).1; simp at this; exact this
      subst h0
      simp at hj
      subst hj
      exact hn) hT
theorem do_s1 {D : Nat} {p : Pr} (hp : PrC p) {t : Vt} {w0 W : World} {g q c Q2 : Nat} {u : Value} (h : Ok1 t D w0 g q c u) (hsm : ∃ e, SmT e t) (o : Only (fun _ => False) w0 W) (hT : Tx W) (hn : W.cell? ⟨Q2, 0, none⟩ = some (.string p.name)) :
    Calls Tryz.prog 23 #[.slice (some ⟨g, q, none⟩) 1 c, .slice (some ⟨Q2, 0, none⟩) 1 1] W fun e w' => DlP (doL D [p] [t]) (D + 2) W e w' := by
  obtain ⟨S, h1, h2, h3⟩ := (h.only o).at'
  exact do_names (ps := [p]) (l := [t]) (fun p' h' => by simp only [List.mem_cons, List.not_mem_nil, or_false] at h'; subst h'; exact hp) (by simp) h1 h3 (fun y hy => by simp only [List.mem_cons, List.not_mem_nil, or_false] at hy; subst hy; exact hsm) (by simp) (fun j p' hj => by
      have h0 : j = 0 := by have := (List.getElem?_eq_some_iff.1 hj).1; simp at this; exact this
      subst h0
      simp at hj
      subst hj
      exact hn) hT
theorem do_s2 {D : Nat} {p : Pr} (hp : PrC p) {t : Vt} {w0 W : World} {g q c Q2 : Nat} {u : Value} (h : Ok1 t D w0 g q c u) (hsm : ∃ e, SmT e t) (o : Only (fun _ => False) w0 W) (hT : Tx W) (hn : W.cell? ⟨Q2, 0, none⟩ = some (.string p.name) ∧ W.cell? ⟨Q2, 1, none⟩ = some (.string p.name)) :
    Calls Tryz.prog 23 #[.slice (some ⟨g, q, none⟩) 1 c, .slice (some ⟨Q2, 0, none⟩) 2 2] W fun e w' => DlP (doL D [p, p] [t]) (D + 4) W e w' := by
  obtain ⟨S, h1, h2, h3⟩ := (h.only o).at'
  exact do_names (ps := [p, p]) (l := [t]) (fun p' h' => by simp only [List.mem_cons, List.not_mem_nil, or_false, or_self] at h'; subst h'; exact hp) (by simp) h1 h3 (fun y hy => by simp only [List.mem_cons, List.not_mem_nil, or_false] at hy; subst hy; exact hsm) (by simp) (fun j p' hj => by
      have h0 := (List.getElem?_eq_some_iff.1 hj).1
      match j, h0 with
      | 0, _ => simp at hj; subst hj; exact hn.1
      | 1, _ => simp at hj; subst hj; exact hn.2) hT
/-- a value, held against its tree in a row -/
theorem same_1 {d D E : Nat} {t : Vt} (hv : Lv d t) (hD : d ≤ D) {w0 w1 W : World} {g q c Q : Nat} {u lv : Value} {S1 : Nat → Prop} (h : Ok1 t D w0 g q c u) (o : Only (fun _ => False) w0 W) (hl : VsAt w1 S1 E t.l lv) (o1 : Only (fun _ => False) w1 W) (hc : W.cell? ⟨Q, 0, none⟩ = some (.int .i64 t.k) ∧ W.cell? ⟨Q, 1, none⟩ = some (.int .i64 t.n) ∧ W.cell? ⟨Q, 2, none⟩ = some (.string t.s) ∧ W.cell? ⟨Q, 3, none⟩ = some lv) :
    Calls Tryz.prog 24 #[.slice (some ⟨g, q, none⟩) 1 c, .slice (some ⟨Q, 0, none⟩) 1 1] W fun e w' => e = .returned (.bool true) ∧ Only (fun _ => False) W w' := by
  obtain ⟨S, h1, _, _⟩ := (h.only o).at'
  exact same_self (la := [t]) (E := E) h1 (Sb := fun b => S1 b ∨ b = Q) ⟨_, _, rfl, by simp, fun j y hy => by
      have hj : j = 0 := by have := (List.getElem?_eq_some_iff.1 hy).1; simp at this; exact this
      subst hj
      simp at hy
      subst hy
      exact ⟨Q, 0, lv, rfl, .inr rfl, hc, (hl.only o1).step (fun _ g => .inl g) (fun _ _ _ g => g) (Nat.le_refl _)⟩⟩ (by simp) (fun x hx => by simp only [List.mem_cons, List.not_mem_nil, or_false] at hx; subst hx; exact hv.sm) (fun x hx => by simp only [List.mem_cons, List.not_mem_nil, or_false] at hx; subst hx; exact hv.nf) (fun x hx => by simp only [List.mem_cons, List.not_mem_nil, or_false] at hx; subst hx; exact hv.gs.1.mono hD)
/-- the tree of a number -/
theorem tree_n {n : Int} (hn : -9223372036854775808 ≤ n ∧ n ≤ 9223372036854775807) (W : World) : Calls Tryz.prog 26 #[.iface 55 (.agg #[.int .i64 n])] W fun e w' => ∃ lv, e = .returned (.agg #[.int .i64 1, .int .i64 n, .string ⟨#[]⟩, lv]) ∧ Hid ((∃ ao c, lv = .slice ao 0 c) ∧ Only (fun _ => False) W w') := by
  refine ((utrees_any 2 1 (by omega)).1 _ (inT n) W (fun _ => False) (in_ti W _ 0 n) (in_nf hn)).mono fun e w' g => ?_
  obtain ⟨lv, he, g⟩ := g
  exact ⟨lv, he, ⟨g.out.1.form, g.out.2⟩⟩
/-- the trees of one value -/
theorem trees_1 {d D : Nat} {t : Vt} (hv : Lv d t) {w0 W : World} {g q c : Nat} {u : Value} (h : Ok1 t D w0 g q c u) (o : Only (fun _ => False) w0 W) : Calls Tryz.prog 10 #[.slice (some ⟨g, q, none⟩) 1 c] W fun e w' => ∃ a2 c2, e = .returned (.slice a2 1 c2) ∧ Hid ((∃ S, VsAt w' S (D + 1) [t] (.slice a2 1 c2)) ∧ Only (fun _ => False) W w') := by
  obtain ⟨S, h1, _, _⟩ := (h.only o).at'
  refine (utrees_of D (utrees_any (D + 1) D (by omega)).1 (.slice (some ⟨g, q, none⟩) 1 c) [t] W S h1 (by simp) (fun x hx => by simp only [List.mem_cons, List.not_mem_nil, or_false] at hx; subst hx; exact hv.nf)).mono fun e w' g => ?_
  obtain ⟨a2, c2, he, g⟩ := g
  exact ⟨a2, c2, he, g.out.1.vs, g.out.2⟩
theorem sameall_1 {d D E : Nat} {t : Vt} (hv : Lv d t) (hD : d ≤ D) {w0 w1 W : World} {va vb : Value} {S1 S2 : Nat → Prop} (h1 : VsAt w0 S1 (D + 1) [t] va) (h2 : VsAt w1 S2 (E + 1) [t] vb) (o1 : Only (fun _ => False) w0 W) (o2 : Only (fun _ => False) w1 W) : Calls Tryz.prog 14 #[va, vb] W fun e w' => e = .returned (.bool true) ∧ Only (fun _ => False) W w' := by
  have hs : ∀ x ∈ [t], ∃ e, SmT e x := fun x hx => by simp only [List.mem_cons, List.not_mem_nil, or_false] at hx; subst hx; exact hv.sm
  have := (dsame_all (D + E + 1)).1 [t] [t] va vb W S1 S2 ((h1.only o1).step (fun _ g => g) (fun _ _ _ g => g) (by omega)) ((h2.only o2).step (fun _ g => g) (fun _ _ _ g => g) (by omega)) (by simp) (by simp) hs hs
  rw [show D + E + 1 - 1 = D + E by omega, smL_self _ _ (fun x hx => by simp only [List.mem_cons, List.not_mem_nil, or_false] at hx; subst hx; exact saV_self _ _ (hv.gs.1.mono (by omega)))] at this
  exact this
end Go.Proofs.YtbhpjakjlfkfiaaGreatDoor
