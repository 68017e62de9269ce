/- What PrimKeeps wants of rows of values: their normal forms, their trees, Do of any name. PrimKeeps: the law's walk. How a tree that is handed in lies in memory. Trees that come in, read with the weights of the first form. Rows of trees that come in, read with the weights of the first form. -/
import Derived.Test.YtioffjdjnlibgaaGreatDoorGau
import Derived.Test.YtioffjdjnlibgaaGreatDoorGan
import Derived.Test.YtioffjdjnlibgaaGreatDoorGaa
import Derived.Deep.Slices
import Derived.Deep.MidRow
import Derived.ChangeArms
import Derived.ChangeMaps5
namespace Go.Proofs.YtioffjdjnlibgaaGreatDoor
open Go.RowKit Go.Lib
set_option linter.unusedSimpArgs false
set_option linter.unusedVariables false
theorem LfT.up : ∀ {d d' : Nat} {t : Vt}, d ≤ d' → LfT d t → LfT d' t
  | 0, _, _, _, h => h.elim
  | d + 1, 0, t, hd, h => by omega
  | d + 1, e + 1, t, hd, h => ⟨h.1, fun x hx => (h.2 x hx).up (by omega)⟩
theorem lf_leaf {d : Nat} {t : Vt} (h : t.l = []) : LfT (d + 1) t := ⟨fun _ => h, fun x hx => by rw [h] at hx; cases hx⟩
/-- what lies in memory has parts only where its kind has some -/
theorem TiAt.lf {w : World} {S : Nat → Prop} : ∀ {d : Nat} {i : Bool} {t : Vt} {v : Value}, TiAt w S d i t v → LfT d t
  | 0, _, _, _, h => h.elim
  | d + 1, true, t, v, h => by
    rcases h with ⟨_, h, _⟩ | ⟨_, h, _⟩ | ⟨_, _, u, _, hu⟩
    · exact lf_leaf h
    · exact lf_leaf h
    · exact (TiAt.lf hu).up (by omega)
  | d + 1, false, t, v, h => by
    rcases h with ⟨_, h, _⟩ | ⟨_, h, _⟩ | ⟨_, h, _⟩ | ⟨_, h, _⟩ | ⟨_, h, _⟩ | ⟨hk, ao, cap, _, hc, hl⟩
    · exact lf_leaf h
    · exact lf_leaf h
    · exact lf_leaf h
    · exact lf_leaf h
    · exact lf_leaf h
    · refine ⟨fun g => absurd hk g, fun x hx => ?_⟩
      obtain ⟨j, hj, rfl⟩ := List.getElem_of_mem hx
      obtain ⟨g, k, u, _, _, _, ht⟩ := hl j _ (List.getElem?_eq_getElem hj)
      exact TiAt.lf ht
/-- a tree in normal form: no number and no text but where its kind has one -/
def nzT : Nat → Vt → Vt
  | 0, t => t
  | e + 1, t => ⟨t.k, vnn t, vss t, t.l.map (nzT e)⟩
theorem nz_k (e : Nat) (t : Vt) : (nzT e t).k = t.k := by cases e <;> rfl
theorem TiAt.nz {w : World} {S : Nat → Prop} : ∀ {d : Nat} {i : Bool} {t : Vt} {v : Value} (e : Nat), TiAt w S d i t v → TiAt w S d i (nzT e t) v
  | _, _, _, _, 0, h => h
  | 0, _, _, _, _ + 1, h => h.elim
  | d + 1, true, t, v, e + 1, h => by
    rcases h with ⟨h1, h2, h3⟩ | ⟨h1, h2, h3⟩ | ⟨h1, h2, u, h3, hu⟩
    · refine .inl ⟨h1, by show t.l.map _ = []; rw [h2]; rfl, ?_⟩
      rw [h3]
      show _ = Value.iface 104 (.agg #[.string (vss t)])
      rw [show vss t = t.s from if_pos (.inr h1)]
    · exact .inr (.inl ⟨h1, by show t.l.map _ = []; rw [h2]; rfl, h3⟩)
    · exact .inr (.inr ⟨h1, h2, u, h3, TiAt.nz (e + 1) hu⟩)
  | d + 1, false, t, v, e + 1, h => by
    rcases h with ⟨h1, h2, h3⟩ | ⟨h1, h2, h3⟩ | ⟨h1, h2, h3⟩ | ⟨h1, h2, h3⟩ | ⟨h1, h2, h3⟩ | ⟨hk, ao, cap, h3, hc, hl⟩
    · refine .inl ⟨h1, by show t.l.map _ = []; rw [h2]; rfl, ?_⟩
      rw [h3]
      show _ = Value.iface 27 (.agg #[.int .i64 (vnn t)])
      rw [show vnn t = t.n from if_pos (.inl h1)]
    · refine .inr (.inl ⟨h1, by show t.l.map _ = []; rw [h2]; rfl, ?_⟩)
      rw [h3]
      show _ = Value.iface 56 (.agg #[.string (vss t)])
      rw [show vss t = t.s from if_pos (.inl h1)]
    · refine .inr (.inr (.inl ⟨h1, by show t.l.map _ = []; rw [h2]; rfl, ?_⟩))
      rw [h3]
      show _ = Value.iface 58 (.agg #[.bool (vnn t != 0)])
      rw [show vnn t = (if t.n != 0 then 1 else 0) from (if_neg (by omega)).trans (if_pos h1)]
      cases t.n != 0 <;> rfl
    · refine .inr (.inr (.inr (.inl ⟨h1, by show t.l.map _ = []; rw [h2]; rfl, ?_⟩)))
      rw [h3]
      show _ = Value.iface 64 (.agg #[.int .i64 (vnn t)])
      rw [show vnn t = t.n from if_pos (.inr h1)]
    · exact .inr (.inr (.inr (.inr (.inl ⟨h1, by show t.l.map _ = []; rw [h2]; rfl, h3⟩))))
    · refine .inr (.inr (.inr (.inr (.inr ⟨hk, ao, cap, ?_, ?_, fun i x hx => ?_⟩))))
      · rw [h3]
        show _ = Value.iface (if t.k = 4 then 34 else 62) (.agg #[.slice ao (t.l.map (nzT e)).length cap])
        rw [List.length_map]
      · show (t.l.map (nzT e)).length ≤ cap
        rw [List.length_map]
        exact hc
      · have hx' : (t.l.map (nzT e))[i]? = some x := hx
        rw [List.getElem?_map] at hx'
        obtain ⟨y, hy, rfl⟩ := Option.map_eq_some_iff.1 hx'
        obtain ⟨g, k, u, p1, p2, p3, p4⟩ := hl i y hy
        exact ⟨g, k, u, p1, p2, p3, TiAt.nz e p4⟩
theorem nz_nf : ∀ {e : Nat} {t : Vt}, SmT e t → NfT e (nzT e t)
  | 0, _, h => h.elim
  | e + 1, t, h => by
    refine ⟨by show (t.l.map (nzT e)).length ≤ _; rw [List.length_map]; exact h.2.1, ?_, ?_, ?_, fun x hx => ?_⟩
    · show -9223372036854775808 ≤ vnn t ∧ vnn t ≤ 9223372036854775807
      have := h.2.2.2.1
      unfold vnn
      split
      · exact this
      split
      · split <;> omega
      · omega
    · show vnn t = vnn ⟨t.k, vnn t, vss t, t.l.map (nzT e)⟩
      unfold vnn
      dsimp only
      by_cases h1 : t.k = 1 ∨ t.k = 6
      · simp only [if_pos h1]
      · simp only [if_neg h1]
        by_cases h3 : t.k = 3
        · simp only [if_pos h3]
          cases t.n != 0 <;> rfl
        · simp only [if_neg h3]
    · show vss t = vss ⟨t.k, vnn t, vss t, t.l.map (nzT e)⟩
      unfold vss
      dsimp only
      by_cases h2 : t.k = 2 ∨ t.k = 7
      · simp only [if_pos h2]
      · simp only [if_neg h2]
    · have hx' : x ∈ t.l.map (nzT e) := hx
      obtain ⟨y, hy, rfl⟩ := List.mem_map.1 hx'
      exact nz_nf (h.2.2.2.2 y hy)
theorem nz_sm : ∀ {e : Nat} {t : Vt}, SmT e t → SmT e (nzT e t)
  | 0, _, h => h.elim
  | e + 1, t, h => by
    refine ⟨?_, by show (t.l.map (nzT e)).length ≤ _; rw [List.length_map]; exact h.2.1, h.2.2.1, ?_, fun x hx => ?_⟩
    · show (vss t).size ≤ _
      unfold vss
      split
      · exact h.1
      · exact Nat.zero_le _
    · exact (nz_nf h).2.1
    · have hx' : x ∈ t.l.map (nzT e) := hx
      obtain ⟨y, hy, rfl⟩ := List.mem_map.1 hx'
      exact nz_sm (h.2.2.2.2 y hy)
theorem sm_uni : ∀ {l : List Vt}, (∀ x ∈ l, ∃ e, SmT e x) → ∃ E, ∀ x ∈ l, SmT E x
  | [], _ => ⟨0, fun x hx => by cases hx⟩
  | t :: l, h => by
    obtain ⟨E, hE⟩ := sm_uni (fun x hx => h x (List.mem_cons_of_mem _ hx))
    obtain ⟨e, he⟩ := h t (List.mem_cons_self ..)
    refine ⟨E + e, fun x hx => ?_⟩
    rcases List.mem_cons.1 hx with rfl | hx
    · exact he.mono (by omega)
    · exact (hE x hx).mono (by omega)
theorem RiAt.nz {w : World} {B : Nat} {T : TypeId} {d : Nat} {i : Bool} {v : Value} {l : List Vt} (E : Nat) (h : RiAt w B T d i v l) : RiAt w B T d i v (l.map (nzT E)) := by
  obtain ⟨us, S, ho, ht, hS⟩ := h
  refine ⟨us, S, by rw [List.length_map]; exact ho, fun j x hx => ?_, hS⟩
  rw [List.getElem?_map] at hx
  obtain ⟨y, hy, rfl⟩ := Option.map_eq_some_iff.1 hx
  obtain ⟨u, h1, h2⟩ := ht j y hy
  exact ⟨u, h1, h2.nz E⟩
theorem RiAt.lf {w : World} {B : Nat} {T : TypeId} {d : Nat} {i : Bool} {v : Value} {l : List Vt} (h : RiAt w B T d i v l) : ∀ x ∈ l, LfT d x := fun x hx => by
  obtain ⟨us, S, ho, ht, hS⟩ := h
  obtain ⟨j, hj, rfl⟩ := List.getElem_of_mem hx
  obtain ⟨u, _, h2⟩ := ht j _ (List.getElem?_eq_getElem hj)
  exact h2.lf
/-- a row as the parts of a slice, in blocks that may be written over -/
theorem RiAt.pl {w : World} {B d : Nat} {T : TypeId} {i : Bool} {ao : Option Addr} {cap : Nat} {l : List Vt} (h : RiAt w B T d i (.slice ao l.length cap) l) : ∃ S, QiAt w S d i (.slice ao l.length cap) l ∧ ∀ b, S b → B ≤ b ∧ Liv w b := by
  obtain ⟨us, S, ho, ht, hS⟩ := h
  rcases ho.2 with ⟨h3, h4⟩ | ⟨g, cp, cur, hv, hB, hg, hn, hcm, hcs, htk⟩
  · refine ⟨fun _ => False, ⟨ao, cap, rfl, by omega, fun j x hx => ?_⟩, fun b hb => hb.elim⟩
    have := (List.getElem?_eq_some_iff.1 hx).1
    omega
  · cases hv
    refine ⟨fun b => S b ∨ b = g, ⟨_, _, rfl, hn, fun j x hx => ?_⟩, fun b hb => ?_⟩
    · obtain ⟨u, h1, h2⟩ := ht j x hx
      have hc := ho.cells (g := g) rfl j u h1
      rw [addr_ad] at hc
      exact ⟨g, 0, u, rfl, .inr rfl, by simpa using hc, h2.step (fun _ g => .inl g) (fun _ _ _ g => g) (Nat.le_refl _)⟩
    · rcases hb with hb | rfl
      · exact ⟨(hS b hb).1, (hS b hb).2.1⟩
      · exact ⟨hB, Liv.of hg⟩
/-- a row of the document's trees in blocks from lo up to hi -/
def UwAt (w : World) (lo hi E : Nat) (l : List Vt) (v : Value) : Prop := ∃ S, VsAt w S E l v ∧ ∀ b, S b → lo ≤ b ∧ b < hi
theorem UwAt.keep {w w' : World} {lo hi E : Nat} {l : List Vt} {v : Value} {bs : Nat → Prop} (h : UwAt w lo hi E l v) (o : Only bs w w') (hb : ∀ b, lo ≤ b → b < hi → ¬ bs b) : UwAt w' lo hi E l v := by
  obtain ⟨S, h1, h2⟩ := h
  exact ⟨S, h1.step (fun _ g => g) (fun a u hs hc => o.cell hc (hb _ (h2 _ hs).1 (h2 _ hs).2)) (Nat.le_refl _), h2⟩
/-- the trees of a row, in any later world that keeps it -/
theorem pk_trees {w : World} {S : Nat → Prop} {D lo : Nat} {a : Option Addr} {c : Nat} {l : List Vt} (h : QiAt w S D false (.slice a l.length c) l) (hS : ∀ b, S b → lo ≤ b ∧ b < w.heap.size) (hl : l.length ≤ 2513169434900) (hnf : ∀ x ∈ l, ∃ e, NfT e x) (W : World) (bs : Nat → Prop) (o : Only bs w W) (hb : ∀ b, lo ≤ b → b < w.heap.size → ¬ bs b) :
    Calls Tryz.prog 6 #[.slice a l.length c] W fun e w' => ∃ a2 c2, e = .returned (.slice a2 l.length c2) ∧ Hid (UwAt w' W.heap.size w'.heap.size (D + 1) l (.slice a2 l.length c2) ∧ Only (fun _ => False) W w') := by
  have := utrees_of D (utrees_any (D + 1) D (by omega)).1 (.slice a l.length c) l W S (h.step (fun _ g => g) (fun p u hp hc => o.cell hc (hb _ (hS _ hp).1 (hS _ hp).2)) (Nat.le_refl _)) hl hnf
  refine this.mono fun e w' g => ?_
  obtain ⟨a2, c2, he, g⟩ := g
  refine ⟨a2, c2, he, ?_, g.out.2⟩
  obtain ⟨S', h1, h2⟩ := g.out.1.tree (t := ⟨0, 0, ⟨#[]⟩, l⟩) rfl
  exact ⟨S', h1, h2⟩
/-- two rows of the same trees are the same -/
theorem pk_same {W : World} {lo lo' hi hi' E E' D : Nat} {l : List Vt} {va vb : Value} (h1 : UwAt W lo hi (E + 1) l va) (h2 : UwAt W lo' hi' (E' + 1) l vb) (hl : l.length ≤ 2513169434900) (hsm : ∀ x ∈ l, ∃ e, SmT e x) (hlf : ∀ x ∈ l, LfT D x) :
    Calls Tryz.prog 8 #[va, vb] W fun e w' => e = .returned (.bool true) ∧ Only (fun _ => False) W w' := by
  obtain ⟨S1, p1, _⟩ := h1
  obtain ⟨S2, p2, _⟩ := h2
  have := (dsame_all (E + E' + D + 1)).1 l l va vb W S1 S2 (p1.step (fun _ g => g) (fun _ _ _ g => g) (by omega)) (p2.step (fun _ g => g) (fun _ _ _ g => g) (by omega)) hl hl hsm hsm
  rw [show E + E' + D + 1 - 1 = E + E' + D by omega, smL_self _ _ (fun x hx => saV_self _ _ ((hlf x hx).up (by omega)))] at this
  exact this
/-- what Do answers, whatever it is -/
def PkP (L : Nat) (E : Int) (D : Nat) (ls : List Vt) (w : World) (e : Ending) (w' : World) : Prop := ∃ ao cap, e = .returned (.tuple #[.slice ao L cap, .int .i64 E]) ∧ Hid (RiAt w' w.heap.size 37 D false (.slice ao L cap) ls ∧ Only (fun _ => False) w w')
theorem pk_do (s : ByteArray) (zs : List Vt) (d : Nat) (hsm : ∀ x ∈ zs, ∃ e, SmT e x) (hlen : zs.length + 3 ≤ 2513169434900) : ∃ (ls : List Vt) (E : Int), (∀ x ∈ ls, ∃ e, SmT e x) ∧ (∀ x ∈ ls, ∃ e, NfT e x) ∧ ls.length ≤ 2513169434900 ∧
    ∀ (w : World) (ao : Option Addr) (cap : Nat) (S : Nat → Prop), PsAt w S d false zs ao → (∀ b, S b → b < w.heap.size) → Tx w → Calls Tryz.prog 7 #[.string s, .slice ao zs.length cap] w (PkP ls.length E (d + 2) ls w) := by
  by_cases hs : s.toList ∈ tbL
  · obtain ⟨p, k, hps, hpo⟩ := pr_all hs
    cases hR : doR d p.ks p.cy zs with
    | error n =>
      refine ⟨[], n, (fun x hx => by cases hx), (fun x hx => by cases hx), Nat.zero_le _, fun w ao cap S h1 h2 hT => ?_⟩
      have := do_any (cap := cap) hpo.c.wt hpo.c.cy hpo.c.one hpo.c.few h1 h2 hsm (by omega) hT
      rw [hps, hR] at this
      exact this.mono fun e w' g => ⟨none, 0, g.1, ri_nil _ _ _ _ _, g.2.2⟩
    | ok ls =>
      by_cases hg : (∀ x ∈ ls, ∃ e, SmT e x) ∧ ls.length ≤ zs.length + 3
      · obtain ⟨E, hE⟩ := sm_uni hg.1
        refine ⟨ls.map (nzT E), 0, fun x hx => ?_, fun x hx => ?_, by rw [List.length_map]; omega, fun w ao cap S h1 h2 hT => ?_⟩
        · obtain ⟨y, hy, rfl⟩ := List.mem_map.1 hx
          exact ⟨E, nz_sm (hE y hy)⟩
        · obtain ⟨y, hy, rfl⟩ := List.mem_map.1 hx
          exact ⟨E, nz_nf (hE y hy)⟩
        · have := do_any (cap := cap) hpo.c.wt hpo.c.cy hpo.c.one hpo.c.few h1 h2 hsm (by omega) hT
          rw [hps, hR] at this
          refine this.mono fun e w' g => ?_
          obtain ⟨a2, c2, he, g⟩ := g
          refine ⟨a2, c2, by rw [List.length_map]; exact he, ?_, g.out.2.1⟩
          have := g.out.1.nz E
          rw [List.length_map]
          exact this
      · refine ⟨[], 0, (fun x hx => by cases hx), (fun x hx => by cases hx), Nat.zero_le _, fun w ao cap S h1 h2 hT => ?_⟩
        have := do_any (cap := cap) hpo.c.wt hpo.c.cy hpo.c.one hpo.c.few h1 h2 hsm (by omega) hT
        rw [hps, hR] at this
        exact this.mono fun e w' g => by
          obtain ⟨a2, c2, he, g⟩ := g
          exact absurd ⟨g.out.2.2.1, g.out.2.2.2⟩ hg
  · refine ⟨[], if zs.all (sdB d) then 10 else 1, (fun x hx => by cases hx), (fun x hx => by cases hx), Nat.zero_le _, fun w ao cap S h1 h2 hT => ?_⟩
    exact (do_none (cap := cap) hs h1 h2 hsm (by omega) hT).mono fun e w' g => ⟨none, 0, g.1, ri_nil _ _ _ _ _, g.2⟩
end Go.Proofs.YtioffjdjnlibgaaGreatDoor
namespace Go.Proofs.YtioffjdjnlibgaaGreatDoor
open Go.RowKit Go.Lib
set_option linter.unusedSimpArgs false
set_option linter.unusedVariables false
def i71 : Vt := ⟨1, 71, ⟨#[]⟩, []⟩
theorem i71_sm : ∃ e, SmT e i71 := ⟨1, by decide, by decide, by decide, by decide, fun x hx => by cases hx⟩
theorem i71_nf : ∃ e, NfT e i71 := ⟨1, by decide, by decide, rfl, rfl, fun x hx => by cases hx⟩
theorem pl_pre (ao : Option Addr) (L c k : Nat) (hk : k ≤ L) (hc : L ≤ c) : ∀ w, (Instr.slice 24 (.slice ao L c) none (some (.int .i64 (k : Int))) none).run Tryz.prog w = .ok (.slice ao k c) w := by
  intro w
  have k0 : (0 : Int) ≤ (k : Int) := by omega
  have k1 : (k : Int) ≤ (c : Int) := by omega
  cases ao with
  | none => go_simp
  | some ad =>
    by_cases hz : c = 0
    · subst hz
      obtain rfl : L = 0 := by omega
      obtain rfl : k = 0 := by omega
      go_simp
    · have k2 : ¬ (c : Int) = 0 := by omega
      go_simp
set_option maxRecDepth 100000 in
set_option maxHeartbeats 16000000 in
theorem pkeeps_walk {s : ByteArray} {args : List Vt} {aa : Option Addr} {N cc : Nat} {d : Nat} {w : World} (ha : VsAt w (fun _ => True) (d + 1) args (.slice aa N cc)) (hlen : args.length + 50 ≤ 2513169434900) (sa : ∀ x ∈ args, SmT d x) (hT : Ty w) :
    Calls Tryz.prog 3 #[.string s, .slice aa N cc] w fun e w' => e = .returned (.bool true) ∧ Only (fun _ => False) w w' := by
  have hN : N = args.length := by
    obtain ⟨a', c', he⟩ := ha.form
    cases he
    rfl
  obtain ⟨zs, hzs⟩ : ∃ zs, zs = args.map (nm d false) := ⟨_, rfl⟩
  have hzl : zs.length = N := by rw [hzs, hN]; simp
  have hzsm : ∀ x ∈ zs, ∃ e, SmT e x := fun x hx => by
    rw [hzs] at hx
    obtain ⟨y, hy, rfl⟩ := List.mem_map.1 hx
    exact ⟨d, nm_sm d false y (sa y hy)⟩
  have hznf : ∀ x ∈ zs, ∃ e, NfT e x := fun x hx => by
    rw [hzs] at hx
    obtain ⟨y, hy, rfl⟩ := List.mem_map.1 hx
    exact ⟨d, nm_nf d false y (sa y hy)⟩
  obtain ⟨ls, E, hls1, hls2, hls3, hdo⟩ := pk_do s zs (2 * d + 1) hzsm (by omega)
  obtain ⟨L, hL⟩ : ∃ L, L = ls.length := ⟨_, rfl⟩
  rw [← hL, hzl] at hdo
  obtain ⟨ins, hins⟩ : ∃ ins, ins = zs ++ [i71] := ⟨_, rfl⟩
  have hinl : ins.length = N + 1 := by rw [hins, List.length_append, hzl]; rfl
  have HI : Hid (ins.length = N + 1 ∧ ins.length ≤ 2513169434900 ∧ (∀ x ∈ ins, ∃ e, SmT e x) ∧ (∀ x ∈ ins, ∃ e, NfT e x) ∧ ins.take N = zs ∧ ins = zs ++ [i71] ∧ zs.length = N) := by
    refine ⟨hinl, by omega, fun x hx => ?_, fun x hx => ?_, by rw [hins, List.take_left' hzl], hins, hzl⟩
    all_goals
      rw [hins] at hx
      rcases List.mem_append.1 hx with hx | hx
    · exact hzsm x hx
    · simp only [List.mem_cons, List.not_mem_nil, or_false] at hx; rw [hx]; exact i71_sm
    · exact hznf x hx
    · simp only [List.mem_cons, List.not_mem_nil, or_false] at hx; rw [hx]; exact i71_nf
  have HL : Hid (L = ls.length ∧ (∀ x ∈ ls, ∃ e, SmT e x) ∧ (∀ x ∈ ls, ∃ e, NfT e x) ∧ ls.length ≤ 2513169434900) := ⟨hL, hls1, hls2, hls3⟩
  have HA : Hid _ := awake12 w hT
  have HT : Hid (Ty w ∧ Only (fun _ => False) w w) := ⟨hT, Only.refl _ _⟩
  have HV : Hid (∀ W, Only (fun _ => False) w W → Calls Tryz.prog 5 #[.slice aa N cc] W fun e w' => ∃ ao cap, e = .returned (.slice ao N cap) ∧ Hid (RiAt w' W.heap.size 37 (2 * d + 1) false (.slice ao N cap) zs ∧ Only (fun _ => False) W w')) := fun W o => by
    refine (values_all d args _ W _ (ha.only o) (by omega) sa).mono fun e w' g => ?_
    obtain ⟨ao, cap, he, g⟩ := g
    rw [← hN] at he g
    rw [hzs]
    exact ⟨ao, cap, he, g⟩
  have HD : Hid (∀ (w : World) (ao : Option Addr) (cap : Nat) (S : Nat → Prop), PsAt w S (2 * d + 1) false zs ao → (∀ b, S b → b < w.heap.size) → Tx w → Calls Tryz.prog 7 #[.string s, .slice ao N cap] w (PkP L E (2 * d + 1 + 2) ls w)) := hdo
  have hNb : N + 40 ≤ 2513169434900 := by omega
  clear ha hlen sa hT hN hzs hzl hzsm hznf hls1 hls2 hls3 hdo hL hins hinl
  go_enter Tryz.func3, Tryz.ntmps3
  go_wp2_with fail
  refine (show Calls Tryz.prog 4 _ _ _ from HA.out).mono ?_
  rintro e w1 ⟨rfl, o1⟩
  have O1 : Hid (Only (fun _ => False) w w1) := o1
  clear HA o1
  go_wp2_with fail
  refine (show Calls Tryz.prog 5 _ _ _ from HV.out _ O1.out).mono ?_
  rintro e w2 ⟨a2, c2, rfl, G2⟩
  clear HV
  obtain ⟨v3, w3, hr3, ri3, o3⟩ := app_v (sT := 24) Tryz.underlying24 vinfoV (C := w2.heap.size) (t := i71) (iv := .iface 27 (.agg #[.int .i64 71])) G2.out.1 (ni_leaf (fun S => .inl ⟨rfl, rfl, rfl⟩)) G2.out.2.size (fun k hk => by obtain ⟨us, S', ho, _⟩ := G2.out.1; exact (ho.lt k hk).2) G2.out.2.size (by rw [HI.out.2.2.2.2.2.2]; omega)
  rw [← HI.out.2.2.2.2.2.1] at ri3
  obtain ⟨a3, c3, hv3⟩ := ri3.form
  rw [HI.out.1] at hv3
  subst hv3
  have HR : Hid _ := hr3
  have H3 : Hid (RiAt w3 w1.heap.size 37 (2 * d + 1) false (.slice a3 (N + 1) c3) ins ∧ Only (fun _ => False) w w3) := ⟨ri3, (O1.out.trans G2.out.2 (fun _ _ g => g)).trans o3 (fun b hb e => by obtain ⟨us, S', ho, _⟩ := G2.out.1; have := (ho.lt b e).1; have := O1.out.size; omega)⟩
  clear hr3 ri3 o3 G2
  go_wp2_with (at_builtin; refine vwpList_append_run rfl _ _ 24 rfl _ _ _ rfl rfl HR.out ?_)
  clear HR
  have hq3 : RiAt w3 w1.heap.size 37 (2 * d + 1) false (.slice a3 ins.length c3) ins := by rw [HI.out.1]; exact H3.out.1
  obtain ⟨S3, q3, s3⟩ := hq3.pl
  have hc3 : N + 1 ≤ c3 := by obtain ⟨_, _, e, h, _⟩ := q3; cases e; have := HI.out.1; omega
  have HLF : Hid (∀ x ∈ ins, LfT (2 * d + 1) x) := hq3.lf
  have HTi : Hid (∀ (W : World) (bs : Nat → Prop), Only bs w3 W → (∀ b, b < w3.heap.size → ¬ bs b) → Calls Tryz.prog 6 #[.slice a3 (N + 1) c3] W fun e w' => ∃ a2 c2, e = .returned (.slice a2 (N + 1) c2) ∧ Hid (UwAt w' W.heap.size w'.heap.size (2 * d + 1 + 1) ins (.slice a2 (N + 1) c2) ∧ Only (fun _ => False) W w')) := fun W bs o hb => by
    have := pk_trees q3 (fun b hs => ⟨(s3 b hs).1, (s3 b hs).2.1⟩) HI.out.2.1 HI.out.2.2.2.1 W bs o (fun b _ h => hb b h)
    rw [HI.out.1] at this
    exact this
  have HDo : Hid (∀ W, Only (fun _ => False) w3 W → Calls Tryz.prog 7 #[.string s, .slice a3 N c3] W (PkP L E (2 * d + 1 + 2) ls W)) := fun W o => by
    refine HD.out W a3 c3 S3 (fun j x hx => ?_) (fun b hb => Nat.lt_of_lt_of_le (s3 b hb).2.1 o.size) (HT.out.1.1.frame (H3.out.2.trans o (fun _ _ g => g)))
    obtain ⟨ao, cp, e, _, hel⟩ := q3
    cases e
    have hj : j < N := by have := (List.getElem?_eq_some_iff.1 hx).1; have := HI.out.2.2.2.2.2.2; omega
    obtain ⟨g, k, u, p1, p2, p3, p4⟩ := hel j x (by rw [← HI.out.2.2.2.2.1, List.getElem?_take, if_pos hj] at hx; exact hx)
    exact ⟨g, k, u, p1, p2, o.cell p3 (fun g => g), p4.only o (fun _ _ g => g)⟩
  have hsl : ∀ w, (Instr.slice 24 (.slice a3 (N + 1) c3) none (some (.int .i64 (N : Int))) none).run Tryz.prog w = .ok (.slice a3 N c3) w := pl_pre a3 (N + 1) c3 N (by omega) hc3
  have HSi : Hid (∀ (W : World) (lo hi lo' hi' : Nat) (va vb : Value), UwAt W lo hi (2 * d + 1 + 1) ins va → UwAt W lo' hi' (2 * d + 1 + 1) ins vb → Calls Tryz.prog 8 #[va, vb] W fun e w' => e = .returned (.bool true) ∧ Only (fun _ => False) W w') := fun W lo hi lo' hi' va vb h1 h2 => pk_same h1 h2 HI.out.2.1 HI.out.2.2.1 HLF.out
  have O3 : Hid (Only (fun _ => False) w w3) := H3.out.2
  clear hq3 q3 s3 hc3 HD H3 HLF O1
  have O33 : Hid (Only (fun _ => False) w3 w3) := Only.refl _ _
  go_wp2_with fail
  refine (show Calls Tryz.prog 6 _ _ _ from HTi.out w3 (fun _ => False) O33.out (fun _ _ g => g)).mono ?_
  rintro e w4 ⟨al4, cl4, rfl, G4⟩
  go_wp2_with fail
  refine (show Calls Tryz.prog 7 _ _ _ from HDo.out w4 G4.out.2).mono ?_
  rintro e w5 ⟨al, cl, rfl, G5⟩
  have O5 : Hid (Only (fun _ => False) w3 w5) := G4.out.2.trans G5.out.2 (fun _ _ g => g)
  go_wp2_with fail
  refine (show Calls Tryz.prog 7 _ _ _ from HDo.out w5 O5.out).mono ?_
  rintro e w6 ⟨am, cm, rfl, G6⟩
  have O6 : Hid (Only (fun _ => False) w3 w6) := O5.out.trans G6.out.2 (fun _ _ g => g)
  have hq5 : RiAt w5 w4.heap.size 37 (2 * d + 1 + 2) false (.slice al ls.length cl) ls := by have := G5.out.1; rw [HL.out.1] at this; exact this
  have hq6 : RiAt w6 w5.heap.size 37 (2 * d + 1 + 2) false (.slice am ls.length cm) ls := by have := G6.out.1; rw [HL.out.1] at this; exact this
  obtain ⟨S5, q5, s5⟩ := hq5.pl
  obtain ⟨S6, q6, s6⟩ := hq6.pl
  have HLF : Hid (∀ x ∈ ls, LfT (2 * d + 1 + 2) x) := hq5.lf
  have HTl : Hid (∀ (W : World), Only (fun _ => False) w5 W → Calls Tryz.prog 6 #[.slice al L cl] W fun e w' => ∃ a2 c2, e = .returned (.slice a2 L c2) ∧ Hid (UwAt w' W.heap.size w'.heap.size (2 * d + 1 + 2 + 1) ls (.slice a2 L c2) ∧ Only (fun _ => False) W w')) := fun W o => by
    have := pk_trees q5 (fun b hs => ⟨(s5 b hs).1, (s5 b hs).2.1⟩) HL.out.2.2.2 HL.out.2.2.1 W _ o (fun _ _ _ g => g)
    rw [← HL.out.1] at this
    exact this
  have HTm : Hid (∀ (W : World) (bs : Nat → Prop), Only bs w6 W → (∀ b, w5.heap.size ≤ b → b < w6.heap.size → ¬ bs b) → Calls Tryz.prog 6 #[.slice am L cm] W fun e w' => ∃ a2 c2, e = .returned (.slice a2 L c2) ∧ Hid (UwAt w' W.heap.size w'.heap.size (2 * d + 1 + 2 + 1) ls (.slice a2 L c2) ∧ Only (fun _ => False) W w')) := fun W bs o hb => by
    have := pk_trees q6 (fun b hs => ⟨(s6 b hs).1, (s6 b hs).2.1⟩) HL.out.2.2.2 HL.out.2.2.1 W bs o hb
    rw [← HL.out.1] at this
    exact this
  have HSl : Hid (∀ (W : World) (lo hi lo' hi' : Nat) (va vb : Value), UwAt W lo hi (2 * d + 1 + 2 + 1) ls va → UwAt W lo' hi' (2 * d + 1 + 2 + 1) ls vb → Calls Tryz.prog 8 #[va, vb] W fun e w' => e = .returned (.bool true) ∧ Only (fun _ => False) W w') := fun W lo hi lo' hi' va vb h1 h2 => pk_same h1 h2 HL.out.2.2.2 HL.out.2.1 HLF.out
  have HS5 : Hid ((∀ b, S5 b → w4.heap.size ≤ b ∧ Liv w5 b) ∧ ∀ j, j < L → ∃ g k u, al = some ⟨g, k, none⟩ ∧ S5 g ∧ w5.cell? ⟨g, k + j, none⟩ = some u ∧ SpAt w5 S5 (2 * d + 1 + 2) u) := by
    refine ⟨s5, fun j hj => ?_⟩
    obtain ⟨ao, cp, e, _, hel⟩ := q5
    cases e
    have hj' : j < ls.length := by have := HL.out.1; omega
    obtain ⟨g, k, u, p1, p2, p3, p4⟩ := hel j _ (List.getElem?_eq_getElem hj')
    exact ⟨g, k, u, p1, p2, p3, p4.sp (HL.out.2.1 _ (List.getElem_mem hj'))⟩
  have HW : Hid (UwAt w4 w3.heap.size w4.heap.size (2 * d + 1 + 1) ins (.slice al4 (N + 1) cl4) ∧ Only (fun _ => False) w4 w5 ∧ Only (fun _ => False) w5 w6) := ⟨G4.out.1, G5.out.2, G6.out.2⟩
  have hEE : (E != E) = false := by simp
  have HWz : Hid (w3.heap.size ≤ w4.heap.size) := G4.out.2.size
  have O66 : Hid (Only (fun _ => False) w6 w6) := Only.refl _ _
  clear hq5 hq6 q5 q6 s5 s6 HLF G4 G5 G6 HDo hsl O33
  go_wp2_with fail
  refine (show Calls Tryz.prog 6 _ _ _ from HTi.out w6 (fun _ => False) O6.out (fun _ _ g => g)).mono ?_
  rintro e w7 ⟨a7, c7, rfl, G7⟩
  go_wp2_with fail
  refine (show Calls Tryz.prog 8 _ _ _ from HSi.out w7 _ _ _ _ _ _ G7.out.1 (HW.out.1.keep ((HW.out.2.1.trans HW.out.2.2 (fun _ _ g => g)).trans G7.out.2 (fun _ _ g => g)) (fun _ _ _ g => g))).mono ?_
  rintro e w8 ⟨rfl, o8⟩
  have O8 : Hid (Only (fun _ => False) w6 w8) := G7.out.2.trans o8 (fun _ _ g => g)
  clear G7 o8
  go_wp2_with fail
  refine (show Calls Tryz.prog 6 _ _ _ from HTl.out w8 (HW.out.2.2.trans O8.out (fun _ _ g => g))).mono ?_
  rintro e w9 ⟨a9, c9, rfl, G9⟩
  have O9 : Hid (Only (fun _ => False) w6 w9) := O8.out.trans G9.out.2 (fun _ _ g => g)
  go_wp2_with fail
  refine (show Calls Tryz.prog 6 _ _ _ from HTm.out w9 (fun _ => False) O9.out (fun _ _ _ g => g)).mono ?_
  rintro e w10 ⟨a10, c10, rfl, G10⟩
  have O10 : Hid (Only (fun _ => False) w6 w10) := O9.out.trans G10.out.2 (fun _ _ g => g)
  go_wp2_with fail
  refine (show Calls Tryz.prog 8 _ _ _ from HSl.out w10 _ _ _ _ _ _ (G9.out.1.keep G10.out.2 (fun _ _ _ g => g)) G10.out.1).mono ?_
  rintro e w11 ⟨rfl, o11⟩
  have O11 : Hid (Only (fun _ => False) w6 w11) := O10.out.trans o11 (fun _ _ g => g)
  clear G9 G10 o11 O10 O9 O8 hEE HTl
  go_wp2_with fail
  refine (show Calls Tryz.prog 6 _ _ _ from HTm.out w11 (fun _ => False) O11.out (fun _ _ _ g => g)).mono ?_
  rintro e w12 ⟨a12, c12, rfl, G12⟩
  have O12 : Hid (Only (fun _ => False) w6 w12 ∧ Only (fun _ => False) w5 w12 ∧ Only (fun _ => False) w4 w12 ∧ Only (fun _ => False) w3 w12 ∧ UwAt w12 w11.heap.size w12.heap.size (2 * d + 1 + 2 + 1) ls (.slice a12 L c12) ∧ w6.heap.size ≤ w11.heap.size) := by
    have h6 := O11.out.trans G12.out.2 (fun _ _ g => g)
    have h5 := HW.out.2.2.trans h6 (fun _ _ g => g)
    have h4 := HW.out.2.1.trans h5 (fun _ _ g => g)
    exact ⟨h6, h5, h4, O6.out.trans h6 (fun _ _ g => g), G12.out.1, O11.out.size⟩
  have HWs : Hid (w3.heap.size ≤ w4.heap.size) := HWz.out
  have HE : Hid ((∀ b, S5 b → w4.heap.size ≤ b ∧ b < w5.heap.size) ∧ ∀ W, Spl S5 w12 W → (∀ b, S5 b → Liv W b) ∧ ∀ j, j < L → ∃ g k u, al = some ⟨g, k, none⟩ ∧ S5 g ∧ W.cell? ⟨g, k + j, none⟩ = some u ∧ SpAt W S5 (2 * d + 1 + 2) u) := by
    obtain ⟨h1, h2⟩ := HS5.out
    refine ⟨fun b hb => ⟨(h1 b hb).1, (h1 b hb).2.1⟩, fun W hW => ?_⟩
    have s2 : Spl S5 w5 W := (Spl.of O12.out.2.1).trans hW
    refine ⟨fun b hb => s2.2.1 b hb (h1 b hb).2, fun j hj => ?_⟩
    obtain ⟨g, k, u, p1, p2, p3, p4⟩ := h2 j hj
    obtain ⟨u', r1, r2⟩ := s2.2.2 ⟨g, k + j, none⟩ u p2 p3
    refine ⟨g, k, u', p1, p2, r1, ?_⟩
    rcases r2 with rfl | r2
    · exact p4.keep s2
    · exact sp_leaf r2 _ _ _
  have HLb : Hid (L ≤ 2513169434900) := by have := HL.out.1; have := HL.out.2.2.2; show L ≤ _; omega
  clear G12 O11 HS5 O66 O5
  go_wp2
  go_loopw [12] (fun r wr => ∃ j : Nat, r = .int .i64 (j : Int) ∧ j ≤ L ∧ Hid (Spl S5 w12 wr)) (fun r _ => L - vuOf r)
  case atStart => exact ⟨0, rfl, Nat.zero_le _, Spl.of (Only.refl _ _)⟩
  case round =>
    obtain ⟨j, rfl, hj, HI1⟩ := hrel
    obtain ⟨W1, hW1⟩ : ∃ w1, w1 = wr := ⟨_, rfl⟩
    rw [← hW1] at HI1 ⊢
    clear hW1
    by_cases hjN : j < L
    · obtain ⟨hliv1, hc1⟩ := HE.out.2 W1 HI1.out
      obtain ⟨g, k, u, rfl, hg, hcell, hsp⟩ := hc1 j hjN
      have HJ : Hid (j < L) := hjN
      have HG1 : Hid (∀ b, S5 b → Liv W1 b) := hliv1
      have i1 : (j : Int) < (L : Int) := by omega
      have i0 : (0 : Int) ≤ (j : Int) := by omega
      have i4 : j ≤ 2513169434900 := by have := HLb.out; omega
      clear hc1 hliv1 hjN hj hg
      rcases hsp with rfl | ⟨T, y, rfl, hlist, _⟩
      · have mL := uas_nil 34 37 _ Tryz.underlying34 (by intro m h; cases h) _ zL
        obtain ⟨W2, hW2⟩ : ∃ W2, W2 = W1.alloc (.cells #[.slice none 0 0] 34) := ⟨_, rfl⟩
        have HS2 : Hid (Spl S5 w12 W2) := HI1.out.trans (Spl.of (by rw [hW2]; exact (Only.refl _ _).alloc _))
        go_wp2
        rw [← hW2]
        clear hW2
        go_loopw [15] (fun r W => r = .int .i64 0 ∧ W2 = W) (fun _ _ => 0)
        case atStart => exact ⟨rfl, rfl⟩
        case round =>
          obtain ⟨rfl, rfl⟩ := hrel
          obtain ⟨hliv, hcells⟩ := HE.out.2 W2 HS2.out
          obtain ⟨g', k', u', e1, e2, e3, _⟩ := hcells j HJ.out
          obtain ⟨rfl, rfl⟩ : g = g' ∧ k = k' := by simpa using e1
          have f2 := (hliv g e2).froz (k + j)
          have H3 : Hid (Spl S5 w12 (W2.setCell ⟨g, k + j, none⟩ (.iface 27 (.agg #[.int .i64 98])))) := HS2.out.trans (Spl.set e2 (hliv g e2) e3 (lfv_int 98))
          clear hliv hcells e1 e2
          go_wp2
          go_roundw
          case rel => exact ⟨j + 1, by go_num, by have := HJ.out; omega, H3⟩
          case measure => simp only [vuOf]; have := HJ.out; omega
      by_cases hT4 : T = 34
      · subst hT4
        obtain ⟨ai, n, ci, rfl, hnc, hnb, hel⟩ := hlist (.inl rfl)
        have hHit := va_hit 34 37 _ Tryz.underlying34 (by intro m h; cases h)
        obtain ⟨W2, hW2⟩ : ∃ W2, W2 = W1.alloc (.cells #[.slice ai n ci] 34) := ⟨_, rfl⟩
        obtain ⟨B2, hB2⟩ : ∃ B2, B2 = W1.heap.size := ⟨_, rfl⟩
        have o12 : Only (fun _ => False) W1 W2 := by rw [hW2]; exact (Only.refl _ _).alloc _
        have HS2 : Hid (Spl S5 w12 W2) := HI1.out.trans (Spl.of o12)
        have HIn : Hid (n ≤ 2513169434900 ∧ ∀ W, Spl S5 W2 W → W.heap[B2]? = some (.cells #[.slice ai n ci] 34) ∧ ∀ i, i < n → ∃ q p x, ai = some ⟨q, p, none⟩ ∧ S5 q ∧ Liv W q ∧ W.cell? ⟨q, p + i, none⟩ = some x) := by
          refine ⟨hnb, fun W hW => ⟨?_, fun i hi => ?_⟩⟩
          · rw [hW.1.block B2 (by rw [hW2, hB2]; simp) (fun gb => by have := HE.out.1 _ gb; have := O12.out.2.1.size; have := HI1.out.1.size; omega), hW2]
            exact valloc_at _ _ _ hB2
          · obtain ⟨q, p, x, r1, r2, r3, _⟩ := hel i hi
            have s2 := (Spl.of (S := S5) o12).trans hW
            obtain ⟨x', t1, _⟩ := s2.2.2 ⟨q, p + i, none⟩ x r2 r3
            exact ⟨q, p, x', r1, r2, s2.2.1 q r2 (HG1.out q r2), t1⟩
        clear hlist hel o12 hnb HG1
        go_wp2
        rw [← hW2, ← hB2]
        clear hW2 hB2
        go_loopw [15] (fun r wr => ∃ i : Nat, r = .int .i64 (i : Int) ∧ i ≤ n ∧ Hid (Spl S5 W2 wr)) (fun r _ => n - vuOf r)
        case atStart => exact ⟨0, rfl, Nat.zero_le _, Spl.of (Only.refl _ _)⟩
        case round =>
          obtain ⟨i, rfl, hi, HI2⟩ := hrel
          obtain ⟨W3, hW3⟩ : ∃ w1, w1 = wr := ⟨_, rfl⟩
          rw [← hW3] at HI2 ⊢
          clear hW3
          obtain ⟨hb, he⟩ := HIn.out.2 W3 HI2.out
          have cB := (vblk_cells hb 0).trans rfl
          by_cases hin : i < n
          · obtain ⟨q, p, x, rfl, h2, h3, h4⟩ := he i hin
            have f3 := h3.froz (p + i)
            have H3 : Hid (Spl S5 W2 (W3.setCell ⟨q, p + i, none⟩ (.iface 27 (.agg #[.int .i64 99])))) := HI2.out.trans (Spl.set h2 h3 h4 (lfv_int 99))
            have HJ2 : Hid (i < n) := hin
            have j1 : (i : Int) < (n : Int) := by omega
            have j0 : (0 : Int) ≤ (i : Int) := by omega
            have j4 : i ≤ 2513169434900 := by have := HIn.out.1; omega
            clear he h2 h3 hb hin hi
            go_wp2
            go_roundw
            case rel => exact ⟨i + 1, by go_num, by have := HJ2.out; omega, H3⟩
            case measure => simp only [vuOf]; have := HJ2.out; omega
          · obtain rfl : i = n := by omega
            have j1 : ¬ (i : Int) < (i : Int) := by omega
            have HS3 : Hid (Spl S5 w12 W3) := HS2.out.trans HI2.out
            clear he hb hin hi HI2 HS2
            obtain ⟨hliv, hcells⟩ := HE.out.2 W3 HS3.out
            obtain ⟨g', k', u', e1, e2, e3, _⟩ := hcells j HJ.out
            obtain ⟨rfl, rfl⟩ : g = g' ∧ k = k' := by simpa using e1
            have f2 := (hliv g e2).froz (k + j)
            have H3 : Hid (Spl S5 w12 (W3.setCell ⟨g, k + j, none⟩ (.iface 27 (.agg #[.int .i64 98])))) := HS3.out.trans (Spl.set e2 (hliv g e2) e3 (lfv_int 98))
            clear hliv hcells e1 e2
            go_wp2
            go_roundw
            case rel => exact ⟨j + 1, by go_num, by have := HJ.out; omega, H3⟩
            case measure => simp only [vuOf]; have := HJ.out; omega
      · have mL := va_miss T 34 37 _ Tryz.underlying34 (by intro m h; cases h) hT4 _ zL
        clear hlist
        obtain ⟨W2, hW2⟩ : ∃ W2, W2 = W1.alloc (.cells #[.slice none 0 0] 34) := ⟨_, rfl⟩
        have HS2 : Hid (Spl S5 w12 W2) := HI1.out.trans (Spl.of (by rw [hW2]; exact (Only.refl _ _).alloc _))
        go_wp2
        rw [← hW2]
        clear hW2
        go_loopw [15] (fun r W => r = .int .i64 0 ∧ W2 = W) (fun _ _ => 0)
        case atStart => exact ⟨rfl, rfl⟩
        case round =>
          obtain ⟨rfl, rfl⟩ := hrel
          obtain ⟨hliv, hcells⟩ := HE.out.2 W2 HS2.out
          obtain ⟨g', k', u', e1, e2, e3, _⟩ := hcells j HJ.out
          obtain ⟨rfl, rfl⟩ : g = g' ∧ k = k' := by simpa using e1
          have f2 := (hliv g e2).froz (k + j)
          have H3 : Hid (Spl S5 w12 (W2.setCell ⟨g, k + j, none⟩ (.iface 27 (.agg #[.int .i64 98])))) := HS2.out.trans (Spl.set e2 (hliv g e2) e3 (lfv_int 98))
          clear hliv hcells e1 e2
          go_wp2
          go_roundw
          case rel => exact ⟨j + 1, by go_num, by have := HJ.out; omega, H3⟩
          case measure => simp only [vuOf]; have := HJ.out; omega
    · obtain rfl : j = L := by omega
      have i1 : ¬ (j : Int) < (j : Int) := by omega
      have HF : Hid (Spl S5 w12 W1) := HI1.out
      have O3W : Hid (Only S5 w3 W1) := (O12.out.2.2.2.1.mono (fun _ _ g => g.elim)).trans HF.out.1 (fun _ _ g => g)
      have HB : Hid (w3.heap.size ≤ w4.heap.size ∧ w5.heap.size ≤ w6.heap.size) := by
        obtain ⟨h1, h2, h3⟩ := HW.out
        refine ⟨?_, h3.size⟩
        exact HWs.out
      clear HI1 hjN hj
      go_wp2_with fail
      refine (show Calls Tryz.prog 6 _ _ _ from HTi.out W1 S5 O3W.out (fun b hb g => by have := HE.out.1 b g; have := HB.out.1; omega)).mono ?_
      rintro e x1 ⟨b1, d1, rfl, K1⟩
      go_wp2_with fail
      refine (show Calls Tryz.prog 8 _ _ _ from HSi.out x1 _ _ _ _ _ _ K1.out.1 ((HW.out.1.keep (O12.out.2.2.1.mono (bs' := S5) (fun _ _ g => g.elim) |>.trans HF.out.1 (fun _ _ g => g) |>.trans K1.out.2 (fun _ _ g => g.elim)) (fun b h1 h2 g => by have := HE.out.1 b g; omega)))).mono ?_
      rintro e x2 ⟨rfl, p2⟩
      have P2 : Hid (Only (fun _ => False) W1 x2) := K1.out.2.trans p2 (fun _ _ g => g)
      clear K1 p2
      go_wp2_with fail
      refine (show Calls Tryz.prog 6 _ _ _ from HTm.out x2 S5 (O12.out.1.mono (bs' := S5) (fun _ _ g => g.elim) |>.trans HF.out.1 (fun _ _ g => g) |>.trans P2.out (fun _ _ g => g.elim)) (fun b h1 h2 g => by have := HE.out.1 b g; omega)).mono ?_
      rintro e x3 ⟨b3, d3, rfl, K3⟩
      go_wp2_with fail
      refine (show Calls Tryz.prog 8 _ _ _ from HSl.out x3 _ _ _ _ _ _ K3.out.1 ((O12.out.2.2.2.2.1.keep (HF.out.1.trans (P2.out.trans K3.out.2 (fun _ _ g => g)) (fun _ _ g => g.elim)) (fun b h1 h2 g => by have := HE.out.1 b g; have := HB.out.2; have := O12.out.2.2.2.2.2; omega)))).mono ?_
      rintro e x4 ⟨rfl, p4⟩
      have HEND : Hid (Only (fun _ => False) w x4) := by
        have h1 := (P2.out.trans K3.out.2 (fun _ _ g => g)).trans p4 (fun _ _ g => g)
        exact (O3.out.trans (O3W.out.trans h1 (fun _ _ g => g.elim)) (fun b hb g => by have := HE.out.1 b g; have := HB.out.1; have := O3.out.size; omega))
      clear K3 p4
      go_wp2
      go_ret
      exact ⟨rfl, HEND.out⟩
end Go.Proofs.YtioffjdjnlibgaaGreatDoor
namespace Go.Proofs.YtioffjdjnlibgaaGreatDoor
open Go.RowKit Go.ChangeShapes Go.WideShapes
set_option linter.unusedVariables false
set_option linter.unusedSimpArgs false
theorem vfour {α : Type} : ∀ (l : List α), l.length = 4 → ∃ a b c d, l = [a, b, c, d]
  | [a, b, c, d], _ => ⟨a, b, c, d, rfl⟩
theorem vexists_list {α : Type} : ∀ (len : Nat) (p : Nat → α → Prop), (∀ i, i < len → ∃ x, p i x) → ∃ l : List α, l.length = len ∧ ∀ i (h : i < l.length), p i l[i]
  | 0, _, _ => ⟨[], rfl, fun i h => by simp at h⟩
  | n + 1, p, hp => by
    obtain ⟨l, hl, hq⟩ := vexists_list n p (fun i hi => hp i (by omega))
    obtain ⟨x, hx⟩ := hp n (by omega)
    refine ⟨l ++ [x], by simp [hl], fun i hi => ?_⟩
    by_cases e : i < l.length
    · rw [List.getElem_append_left e]; exact hq i e
    · have : i = l.length := by simp at hi; omega
      subst this
      rw [List.getElem_append_right (by omega)]
      simpa [hl] using hx
theorem vuniform (q : Nat → Nat → Prop) (hm : ∀ i d d', d ≤ d' → q i d → q i d') : ∀ len, (∀ i, i < len → ∃ d, q i d) → ∃ D, ∀ i, i < len → q i D
  | 0, _ => ⟨0, fun i h => by omega⟩
  | n + 1, h => by
    obtain ⟨D, hD⟩ := vuniform q hm n (fun i hi => h i (by omega))
    obtain ⟨d, hd⟩ := h n (by omega)
    refine ⟨max D d, fun i hi => ?_⟩
    by_cases e : i < n
    · exact hm i D _ (by omega) (hD i e)
    · obtain rfl : i = n := by omega
      exact hm i d _ (by omega) hd
theorem vcellsI : Tryz.prog.cellsOf 3 = 1 := by kernel_rfl
theorem vcellsN : Tryz.prog.cellsOf 2 = 1 := by kernel_rfl
theorem vcellsS : Tryz.prog.cellsOf 9 = 1 := by kernel_rfl
theorem vcellsL : Tryz.prog.cellsOf 22 = 1 := by kernel_rfl
theorem vcellsV : Tryz.prog.cellsOf 42 = 4 := by kernel_rfl
section
variable {H : Type} {enc : TypeId × Value → H} {w : World} {base : Nat} {held : Bool}
theorem vcells_get {a : Addr} {n : Nat} {cs : List Value} (h : w.cells? base a n = some cs) : cs.length = n ∧ ∀ j v, cs[j]? = some v → w.cell? (a.add j) = some v := by
  unfold World.cells? at h
  split at h
  · refine ⟨by simpa using mapM_some_length h, fun j v hv => ?_⟩
    have hj : j < n := by
      have := (List.getElem?_eq_some_iff.1 hv).1
      have hl : cs.length = n := by simpa using mapM_some_length h
      omega
    have := mapM_some_get h j j (by simp [hj])
    rw [this]; exact hv
  · cases h
theorem vbulk_mem : ∀ (l : List (DataW H)) (d : DataW H), d ∈ l → Rows.uptoBulk d ≤ Rows.uptoBulkAll l
  | [], _, h => by cases h
  | a :: r, d, h => by
    simp only [Rows.uptoBulkAll]
    rcases List.mem_cons.1 h with rfl | h
    · omega
    · have := vbulk_mem r d h
      omega
theorem vbulk_pos (d : DataW H) : 0 < Rows.uptoBulk d := by
  rcases d with l | _ | _ | _ | _ | _ | _ | _ <;> try simp [Rows.uptoBulk]
  cases l <;> simp [Rows.uptoBulk]
theorem vbulk_len : ∀ (l : List (DataW H)), l.length ≤ Rows.uptoBulkAll l
  | [] => by simp [Rows.uptoBulkAll]
  | d :: r => by
    have := vbulk_len r
    have := vbulk_pos d
    simp only [Rows.uptoBulkAll, List.length_cons]
    omega
theorem vbounds {n : Int} (h : (Lit.int .i64 n).wf = true) : -9223372036854775808 ≤ n ∧ n ≤ 9223372036854775807 := by
  have := h
  simp only [Lit.wf, Bool.and_eq_true, decide_eq_true_eq] at this
  exact this
theorem read_v (fuel : Nat) : ∀ {cs : List Value} {x : DataW H × List MemPlace}, DataW.trod enc Tryz.prog w base (fun _ => true) held fuel 42 cs = some x → Rows.uptoBulk x.1 ≤ 1048576 → ∃ (t : Vt) (lv : Value) (d : Nat), cs = [.int .i64 t.k, .int .i64 t.n, .string t.s, lv] ∧ SmT d t ∧ VsAt w (fun _ => True) d t.l lv := by
  induction fuel using Nat.strongRecOn with
  | ind fuel ih =>
  intro cs x h hb
  obtain ⟨xs, n, hn, rfl, hl, hxl, hf⟩ := DataW.trod_struct Tryz.underlying42 h
  rw [vcellsV] at hl
  obtain ⟨c0, c1, c2, c3, rfl⟩ := vfour cs hl
  obtain ⟨y0, y1, y2, y3, rfl⟩ := vfour xs hxl
  have g0 : DataW.trod enc Tryz.prog w base (fun _ => true) held n 3 (([c0, c1, c2, c3].drop 0).take (Tryz.prog.cellsOf 3)) = some y0 := hf 0 _ rfl
  have g1 : DataW.trod enc Tryz.prog w base (fun _ => true) held n 2 (([c0, c1, c2, c3].drop 1).take (Tryz.prog.cellsOf 2)) = some y1 := hf 1 _ rfl
  have g2 : DataW.trod enc Tryz.prog w base (fun _ => true) held n 9 (([c0, c1, c2, c3].drop 2).take (Tryz.prog.cellsOf 9)) = some y2 := hf 2 _ rfl
  have g3 : DataW.trod enc Tryz.prog w base (fun _ => true) held n 22 (([c0, c1, c2, c3].drop 3).take (Tryz.prog.cellsOf 22)) = some y3 := hf 3 _ rfl
  rw [vcellsI] at g0
  rw [vcellsN] at g1
  rw [vcellsS] at g2
  rw [vcellsL] at g3
  simp only [List.drop_succ_cons, List.drop_zero, List.take_succ_cons, List.take_zero] at g0 g1 g2 g3
  obtain ⟨n0, e0, _, w0⟩ := DataW.trod_int Tryz.underlying3 g0
  obtain ⟨n1, e1, _, w1⟩ := DataW.trod_int Tryz.underlying2 g1
  obtain ⟨s, e2, hs2, _⟩ := DataW.trod_string Tryz.underlying9 g2
  simp only [List.cons.injEq, and_true] at e0 e1 e2
  subst e0 e1 e2
  simp only [List.map_cons, List.map_nil, Rows.uptoBulk, Rows.uptoBulkAll] at hb
  have hs : s.size ≤ 1048576 := by
    rw [hs2] at hb
    simp only [Rows.uptoBulk] at hb
    have : s.data.toList.length = s.size := Array.length_toList
    omega
  rcases DataW.trod_slice Tryz.underlying22 g3 with ⟨hcs, _⟩ | ⟨a, len, cap, elems, rest, m, hm, hcs, hx, _, hlc, _, hel, hget, _, _⟩
  · simp only [List.cons.injEq, and_true] at hcs
    subst hcs
    exact ⟨⟨n0, n1, s, []⟩, _, 1, rfl, ⟨(by dsimp only; omega), Nat.zero_le _, vbounds w0, vbounds w1, fun x hx => by cases hx⟩, none, 0, rfl, Nat.zero_le _, fun i x hx => by simp at hx⟩
  · simp only [List.cons.injEq, and_true] at hcs
    subst hcs
    have hb3 : Rows.uptoBulkAll (elems.map (·.1)) ≤ 1048576 := by
      rw [hx] at hb
      simp only [Rows.uptoBulk] at hb
      omega
    have hlen : len ≤ 1048576 := by
      have := vbulk_len (elems.map (·.1))
      simp at this
      omega
    obtain ⟨ts, htl, hts⟩ := vexists_list len (fun i (t : Vt) => ∃ lv d, (∀ j v, ([.int .i64 t.k, .int .i64 t.n, .string t.s, lv] : List Value)[j]? = some v → w.cell? (a.add (i * 4 + j)) = some v) ∧ SmT d t ∧ VsAt w (fun _ => True) d t.l lv) (fun i hi => by
      have h1 := hget i hi
      rw [vcellsV] at h1
      have hie : i < elems.length := by omega
      rw [List.getElem?_eq_getElem hie] at h1
      obtain ⟨cs', h2, h3⟩ := Option.bind_eq_some_iff.1 h1
      have hbi : Rows.uptoBulk (elems[i]).1 ≤ 1048576 := by
        have := vbulk_mem (elems.map (·.1)) (elems[i]).1 (List.mem_map.2 ⟨_, List.getElem_mem hie, rfl⟩)
        omega
      obtain ⟨t, lv, d, hc, q1, q2⟩ := ih m (by omega) h3 hbi
      refine ⟨t, lv, d, fun j v hv => ?_, q1, q2⟩
      rw [← hc] at hv
      rw [← Deep.add_add]
      exact (vcells_get h2).2 j v hv)
    obtain ⟨D, hD⟩ := vuniform (fun i d => ∀ (h : i < ts.length), ∃ lv, (∀ j v, ([.int .i64 ts[i].k, .int .i64 ts[i].n, .string ts[i].s, lv] : List Value)[j]? = some v → w.cell? (a.add (i * 4 + j)) = some v) ∧ SmT d ts[i] ∧ VsAt w (fun _ => True) d ts[i].l lv) (fun i d d' hd hq h => by
      obtain ⟨lv, q1, q2, q3⟩ := hq h
      exact ⟨lv, q1, q2.mono hd, q3.step (fun _ g => g) (fun _ _ _ g => g) hd⟩) ts.length (fun i hi => by
      obtain ⟨lv, d, q1, q2, q3⟩ := hts i hi
      exact ⟨d, fun _ => ⟨lv, q1, q2, q3⟩⟩)
    refine ⟨⟨n0, n1, s, ts⟩, _, D + 1, rfl, ⟨(by dsimp only; omega), by dsimp only; omega, vbounds w0, vbounds w1, fun x hx => ?_⟩, some a, cap, by dsimp only; rw [htl], by dsimp only; omega, fun i x hx => ?_⟩
    · obtain ⟨i, hi, rfl⟩ := List.getElem_of_mem hx
      obtain ⟨lv, q1, q2, q3⟩ := hD i hi hi
      exact q2
    · dsimp only at hx
      obtain ⟨hi, rfl⟩ := List.getElem?_eq_some_iff.1 hx
      obtain ⟨lv, q1, q2, q3⟩ := hD i hi hi
      have p0 := q1 0 _ rfl
      have p1 := q1 1 _ rfl
      have p2 := q1 2 _ rfl
      have p3 := q1 3 _ rfl
      have h0 : 0 < ts.length := by omega
      obtain ⟨lv0, z1, _, _⟩ := hD 0 h0 h0
      have hsp := World.cell?_spot (z1 0 _ rfl)
      obtain ⟨g, o, spot⟩ := a
      have hs0 : spot = none := by simpa [Addr.add] using hsp
      subst hs0
      rw [Addr.add_mid] at p0 p1 p2 p3
      exact ⟨g, o, lv, rfl, trivial, ⟨p0, by rw [Nat.add_assoc]; exact p1, by rw [Nat.add_assoc]; exact p2, by rw [Nat.add_assoc]; exact p3⟩, q3⟩
end
end Go.Proofs.YtioffjdjnlibgaaGreatDoor
namespace Go.Proofs.YtioffjdjnlibgaaGreatDoor
open Go.RowKit Go.ChangeShapes Go.WideShapes
set_option linter.unusedVariables false
set_option linter.unusedSimpArgs false
theorem vbytesV : Tryz.prog.bytesOf 42 = 56 := by kernel_rfl
section
variable {H : Type} {enc : TypeId × Value → H} {w : World} {base : Nat} {held : Bool}
theorem vweights_mem : ∀ (l : List (DataW H)) (d : DataW H), d ∈ l → (DataW.weightsAll Tryz.prog 42 l).all (· ≤ reachBytes) = true → (d.weights Tryz.prog 42).all (· ≤ reachBytes) = true
  | [], _, h, _ => by cases h
  | a :: r, d, h, g => by
    simp only [DataW.weightsAll, List.all_append, Bool.and_eq_true] at g
    rcases List.mem_cons.1 h with rfl | h
    · exact g.1
    · exact vweights_mem r d h g.2
theorem read_w (fuel : Nat) : ∀ {cs : List Value} {x : DataW H × List MemPlace}, DataW.trod enc Tryz.prog w base (fun _ => true) held fuel 42 cs = some x → (x.1.weights Tryz.prog 42).all (· ≤ reachBytes) = true → ∃ (t : Vt) (lv : Value) (d : Nat), cs = [.int .i64 t.k, .int .i64 t.n, .string t.s, lv] ∧ SmT d t ∧ VsAt w (fun _ => True) d t.l lv := by
  induction fuel using Nat.strongRecOn with
  | ind fuel ih =>
  intro cs x h hb
  obtain ⟨xs, n, hn, rfl, hl, hxl, hf⟩ := DataW.trod_struct Tryz.underlying42 h
  rw [vcellsV] at hl
  obtain ⟨c0, c1, c2, c3, rfl⟩ := vfour cs hl
  obtain ⟨y0, y1, y2, y3, rfl⟩ := vfour xs hxl
  have g0 : DataW.trod enc Tryz.prog w base (fun _ => true) held n 3 (([c0, c1, c2, c3].drop 0).take (Tryz.prog.cellsOf 3)) = some y0 := hf 0 _ rfl
  have g1 : DataW.trod enc Tryz.prog w base (fun _ => true) held n 2 (([c0, c1, c2, c3].drop 1).take (Tryz.prog.cellsOf 2)) = some y1 := hf 1 _ rfl
  have g2 : DataW.trod enc Tryz.prog w base (fun _ => true) held n 9 (([c0, c1, c2, c3].drop 2).take (Tryz.prog.cellsOf 9)) = some y2 := hf 2 _ rfl
  have g3 : DataW.trod enc Tryz.prog w base (fun _ => true) held n 22 (([c0, c1, c2, c3].drop 3).take (Tryz.prog.cellsOf 22)) = some y3 := hf 3 _ rfl
  rw [vcellsI] at g0
  rw [vcellsN] at g1
  rw [vcellsS] at g2
  rw [vcellsL] at g3
  simp only [List.drop_succ_cons, List.drop_zero, List.take_succ_cons, List.take_zero] at g0 g1 g2 g3
  obtain ⟨n0, e0, _, w0⟩ := DataW.trod_int Tryz.underlying3 g0
  obtain ⟨n1, e1, _, w1⟩ := DataW.trod_int Tryz.underlying2 g1
  obtain ⟨s, e2, hs2, _⟩ := DataW.trod_string Tryz.underlying9 g2
  simp only [List.cons.injEq, and_true] at e0 e1 e2
  subst e0 e1 e2
  have hb' : (DataW.weights Tryz.prog 9 y2.1).all (· ≤ reachBytes) = true ∧ (DataW.weights Tryz.prog 22 y3.1).all (· ≤ reachBytes) = true := by
    simp only [DataW.weights, Tryz.underlying42, List.map_cons, List.map_nil, DataW.weightsEach, List.all_append, Bool.and_eq_true] at hb
    exact ⟨hb.2.2.1, hb.2.2.2.1⟩
  have hr : reachBytes = 140737488351232 := rfl
  have hs : s.size ≤ 140737488355328 := by
    have h1 := hb'.1
    rw [hs2] at h1
    simp only [DataW.weights, List.all_cons, List.all_nil, Bool.and_true, decide_eq_true_eq] at h1
    have : s.data.toList.length = s.size := Array.length_toList
    omega
  rcases DataW.trod_slice Tryz.underlying22 g3 with ⟨hcs, _⟩ | ⟨a, len, cap, elems, rest, m, hm, hcs, hx, _, hlc, _, hel, hget, _, _⟩
  · simp only [List.cons.injEq, and_true] at hcs
    subst hcs
    exact ⟨⟨n0, n1, s, []⟩, _, 1, rfl, ⟨(by dsimp only; omega), Nat.zero_le _, vbounds w0, vbounds w1, fun x hx => by cases hx⟩, none, 0, rfl, Nat.zero_le _, fun i x hx => by simp at hx⟩
  · simp only [List.cons.injEq, and_true] at hcs
    subst hcs
    have hb3 : (elems.length + rest.length) * 56 ≤ reachBytes ∧ (DataW.weightsAll Tryz.prog 42 (elems.map (·.1))).all (· ≤ reachBytes) = true := by
      have h1 := hb'.2
      rw [hx] at h1
      simp only [DataW.weights, Tryz.underlying22, List.all_cons, List.all_append, Bool.and_eq_true, decide_eq_true_eq, vbytesV, List.length_map] at h1
      exact ⟨h1.1, h1.2.1⟩
    have hlen : len ≤ 2513169434900 := by omega
    obtain ⟨ts, htl, hts⟩ := vexists_list len (fun i (t : Vt) => ∃ lv d, (∀ j v, ([.int .i64 t.k, .int .i64 t.n, .string t.s, lv] : List Value)[j]? = some v → w.cell? (a.add (i * 4 + j)) = some v) ∧ SmT d t ∧ VsAt w (fun _ => True) d t.l lv) (fun i hi => by
      have h1 := hget i hi
      rw [vcellsV] at h1
      have hie : i < elems.length := by omega
      rw [List.getElem?_eq_getElem hie] at h1
      obtain ⟨cs', h2, h3⟩ := Option.bind_eq_some_iff.1 h1
      have hbi : ((elems[i]).1.weights Tryz.prog 42).all (· ≤ reachBytes) = true := vweights_mem (elems.map (·.1)) (elems[i]).1 (List.mem_map.2 ⟨_, List.getElem_mem hie, rfl⟩) hb3.2
      obtain ⟨t, lv, d, hc, q1, q2⟩ := ih m (by omega) h3 hbi
      refine ⟨t, lv, d, fun j v hv => ?_, q1, q2⟩
      rw [← hc] at hv
      rw [← Deep.add_add]
      exact (vcells_get h2).2 j v hv)
    obtain ⟨D, hD⟩ := vuniform (fun i d => ∀ (h : i < ts.length), ∃ lv, (∀ j v, ([.int .i64 ts[i].k, .int .i64 ts[i].n, .string ts[i].s, lv] : List Value)[j]? = some v → w.cell? (a.add (i * 4 + j)) = some v) ∧ SmT d ts[i] ∧ VsAt w (fun _ => True) d ts[i].l lv) (fun i d d' hd hq h => by
      obtain ⟨lv, q1, q2, q3⟩ := hq h
      exact ⟨lv, q1, q2.mono hd, q3.step (fun _ g => g) (fun _ _ _ g => g) hd⟩) ts.length (fun i hi => by
      obtain ⟨lv, d, q1, q2, q3⟩ := hts i hi
      exact ⟨d, fun _ => ⟨lv, q1, q2, q3⟩⟩)
    refine ⟨⟨n0, n1, s, ts⟩, _, D + 1, rfl, ⟨(by dsimp only; omega), by dsimp only; omega, vbounds w0, vbounds w1, fun x hx => ?_⟩, some a, cap, by dsimp only; rw [htl], by dsimp only; omega, fun i x hx => ?_⟩
    · obtain ⟨i, hi, rfl⟩ := List.getElem_of_mem hx
      obtain ⟨lv, q1, q2, q3⟩ := hD i hi hi
      exact q2
    · dsimp only at hx
      obtain ⟨hi, rfl⟩ := List.getElem?_eq_some_iff.1 hx
      obtain ⟨lv, q1, q2, q3⟩ := hD i hi hi
      have p0 := q1 0 _ rfl
      have p1 := q1 1 _ rfl
      have p2 := q1 2 _ rfl
      have p3 := q1 3 _ rfl
      have h0 : 0 < ts.length := by omega
      obtain ⟨lv0, z1, _, _⟩ := hD 0 h0 h0
      have hsp := World.cell?_spot (z1 0 _ rfl)
      obtain ⟨g, o, spot⟩ := a
      have hs0 : spot = none := by simpa [Addr.add] using hsp
      subst hs0
      rw [Addr.add_mid] at p0 p1 p2 p3
      exact ⟨g, o, lv, rfl, trivial, ⟨p0, by rw [Nat.add_assoc]; exact p1, by rw [Nat.add_assoc]; exact p2, by rw [Nat.add_assoc]; exact p3⟩, q3⟩
end
end Go.Proofs.YtioffjdjnlibgaaGreatDoor
namespace Go.Proofs.YtioffjdjnlibgaaGreatDoor
open Go.RowKit Go.ChangeShapes Go.WideShapes
set_option linter.unusedVariables false
set_option linter.unusedSimpArgs false
section
variable {H : Type} {enc : TypeId × Value → H} {w : World} {base : Nat} {held : Bool}
theorem read_ws50 (fuel : Nat) {aa : Option Addr} {ll cc : Nat} {x : DataW H × List MemPlace} (h : DataW.trod enc Tryz.prog w base (fun _ => true) held fuel 22 [.slice aa ll cc] = some x) (hb : (x.1.weights Tryz.prog 22).all (· ≤ reachBytes) = true) : ∃ (l : List Vt) (d : Nat), l.length + 50 ≤ 2513169434900 ∧ (∀ x ∈ l, SmT d x) ∧ VsAt w (fun _ => True) (d + 1) l (.slice aa ll cc) := by
  have hr : reachBytes = 140737488351232 := rfl
  rcases DataW.trod_slice Tryz.underlying22 h with ⟨hcs, _⟩ | ⟨a, len, cap, elems, rest, m, hm, hcs, hx, _, hlc, _, hel, hget, _, _⟩
  · simp only [List.cons.injEq, and_true] at hcs
    rw [hcs]
    exact ⟨[], 1, by decide, (fun x hx => by cases hx), ⟨none, 0, rfl, Nat.zero_le _, fun i x hx => by simp at hx⟩⟩
  · simp only [List.cons.injEq, and_true] at hcs
    rw [hcs]
    have hb3 : (elems.length + rest.length) * 56 ≤ reachBytes ∧ (DataW.weightsAll Tryz.prog 42 (elems.map (·.1))).all (· ≤ reachBytes) = true := by
      have h1 := hb
      rw [hx] at h1
      simp only [DataW.weights, Tryz.underlying22, List.all_cons, List.all_append, Bool.and_eq_true, decide_eq_true_eq, vbytesV, List.length_map] at h1
      exact ⟨h1.1, h1.2.1⟩
    have hlen : len + 50 ≤ 2513169434900 := by omega
    obtain ⟨ts, htl, hts⟩ := vexists_list len (fun i (t : Vt) => ∃ lv d, (∀ j v, ([.int .i64 t.k, .int .i64 t.n, .string t.s, lv] : List Value)[j]? = some v → w.cell? (a.add (i * 4 + j)) = some v) ∧ SmT d t ∧ VsAt w (fun _ => True) d t.l lv) (fun i hi => by
      have h1 := hget i hi
      rw [vcellsV] at h1
      have hie : i < elems.length := by omega
      rw [List.getElem?_eq_getElem hie] at h1
      obtain ⟨cs', h2, h3⟩ := Option.bind_eq_some_iff.1 h1
      have hbi : ((elems[i]).1.weights Tryz.prog 42).all (· ≤ reachBytes) = true := vweights_mem (elems.map (·.1)) (elems[i]).1 (List.mem_map.2 ⟨_, List.getElem_mem hie, rfl⟩) hb3.2
      obtain ⟨t, lv, d, hc, q1, q2⟩ := read_w m h3 hbi
      refine ⟨t, lv, d, fun j v hv => ?_, q1, q2⟩
      rw [← hc] at hv
      rw [← Deep.add_add]
      exact (vcells_get h2).2 j v hv)
    obtain ⟨D, hD⟩ := vuniform (fun i d => ∀ (h : i < ts.length), ∃ lv, (∀ j v, ([.int .i64 ts[i].k, .int .i64 ts[i].n, .string ts[i].s, lv] : List Value)[j]? = some v → w.cell? (a.add (i * 4 + j)) = some v) ∧ SmT d ts[i] ∧ VsAt w (fun _ => True) d ts[i].l lv) (fun i d d' hd hq h => by
      obtain ⟨lv, q1, q2, q3⟩ := hq h
      exact ⟨lv, q1, q2.mono hd, q3.step (fun _ g => g) (fun _ _ _ g => g) hd⟩) ts.length (fun i hi => by
      obtain ⟨lv, d, q1, q2, q3⟩ := hts i hi
      exact ⟨d, fun _ => ⟨lv, q1, q2, q3⟩⟩)
    refine ⟨ts, D, by omega, fun x hx => ?_, some a, cap, by rw [htl], by omega, fun i x hx => ?_⟩
    · obtain ⟨i, hi, rfl⟩ := List.getElem_of_mem hx
      obtain ⟨lv, q1, q2, q3⟩ := hD i hi hi
      exact q2
    · obtain ⟨hi, rfl⟩ := List.getElem?_eq_some_iff.1 hx
      obtain ⟨lv, q1, q2, q3⟩ := hD i hi hi
      have p0 := q1 0 _ rfl
      have p1 := q1 1 _ rfl
      have p2 := q1 2 _ rfl
      have p3 := q1 3 _ rfl
      have h0 : 0 < ts.length := by omega
      obtain ⟨lv0, z1, _, _⟩ := hD 0 h0 h0
      have hsp := World.cell?_spot (z1 0 _ rfl)
      obtain ⟨g, o, spot⟩ := a
      have hs0 : spot = none := by simpa [Addr.add] using hsp
      subst hs0
      rw [Addr.add_mid] at p0 p1 p2 p3
      exact ⟨g, o, lv, rfl, trivial, ⟨p0, by rw [Nat.add_assoc]; exact p1, by rw [Nat.add_assoc]; exact p2, by rw [Nat.add_assoc]; exact p3⟩, q3⟩
theorem read_ws (fuel : Nat) {aa : Option Addr} {ll cc : Nat} {x : DataW H × List MemPlace} (h : DataW.trod enc Tryz.prog w base (fun _ => true) held fuel 22 [.slice aa ll cc] = some x) (hb : (x.1.weights Tryz.prog 22).all (· ≤ reachBytes) = true) : ∃ (l : List Vt) (d : Nat), l.length ≤ 2513169434900 ∧ (∀ x ∈ l, SmT d x) ∧ VsAt w (fun _ => True) (d + 1) l (.slice aa ll cc) := by
  obtain ⟨l, d, h1, h2⟩ := read_ws50 fuel h hb
  exact ⟨l, d, by omega, h2⟩
end
end Go.Proofs.YtioffjdjnlibgaaGreatDoor
