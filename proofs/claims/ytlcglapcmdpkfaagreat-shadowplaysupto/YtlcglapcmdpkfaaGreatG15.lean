import Derived.Test.YtlcglapcmdpkfaaGreatG14
import Derived.Test.YtlcglapcmdpkfaaGreatA7
namespace Go.Proofs.YtlcglapcmdpkfaaGreat
open Go.RowKit
set_option linter.unusedSimpArgs false
set_option linter.unusedVariables false
structure MidE (w : World) (E : Nat → Prop) (B q K : Nat) (rv : Value) (rs : List RW) (d : DS) (W : World) (rv' : Value) (rs' : List RW) : Prop where
 ref : RefAt W B q K rv' d rs'
 ho : Only (fun b => refB q K rv rs b ∨ E b) w W
 sub : ∀ b, refB q K rv' rs' b → refB q K rv rs b ∨ w.heap.size ≤ b
section
variable {w W : World} {E : Nat → Prop} {B q K : Nat} {rv rv' : Value} {rs rs' : List RW} {d : DS}
theorem MidE.via {W2 : World} {d2 : DS} {rv2 : Value} {rs2 : List RW} (h : MidE w E B q K rv rs d W rv' rs') (h2 : MidR W B q K rv' rs' d2 W2 rv2 rs2) : MidE w E B q K rv rs d2 W2 rv2 rs2 :=
 ⟨h2.ref, h.ho.trans h2.ho (fun b hb e => by
  rcases h.sub b e with e | e
  ·exact .inl e
  ·omega), fun b e => by
  rcases h2.sub b e with e | e
  ·exact h.sub b e
  ·exact .inr (by have := h.ho.size; omega)⟩
theorem MidE.still {W' : World} (h : MidE w E B q K rv rs d W rv' rs') (ho : Only (fun _ => False) W W') : MidE w E B q K rv rs d W' rv' rs' :=
 ⟨h.ref.frame ho (fun _ _ e => e), h.ho.trans ho (fun _ _ e => e.elim), h.sub⟩
theorem MidE.set {W' : World} {bs : Nat → Prop} (h : MidE w E B q K rv rs d W rv' rs') (ho : Only bs W W') (hE : ∀ b, b < w.heap.size → bs b → E b) (hn : ∀ b, refB q K rv' rs' b → ¬ bs b) : MidE w E B q K rv rs d W' rv' rs' :=
 ⟨h.ref.frame ho hn, h.ho.trans ho (fun b hb e => .inr (hE b hb e)), h.sub⟩
end
def refE (E : Nat → Prop) (m q K : Nat) (rv : Value) (rs : List RW) : Nat → Prop := fun k => refB q K rv rs k ∨ (E k ∧ k < m)
structure Und (E : Nat → Prop) (w : World) (B r q K : Nat) (rv nv : Value) (rs : List RW) (d : DS) (x : SS) (W : World) : Prop where
 all : ∃ rv' rs' tv kv lk ln, MidE w (fun b => nv.ownBlock = some b ∨ b = r) B q K rv rs d W rv' rs' ∧ RsAt W (refE E w.heap.size q K rv' rs') B r q tv kv nv x lk ln
theorem Und.still {E : Nat → Prop} {w W W' : World} {B r q K : Nat} {rv nv : Value} {rs : List RW} {d : DS} {x : SS} (h : Und E w B r q K rv nv rs d x W) (ho : Only (fun _ => False) W W') : Und E w B r q K rv nv rs d x W' := by
 obtain ⟨rv', rs', tv, kv, lk, ln, h1, h2⟩ := h.all
 exact ⟨rv', rs', tv, kv, lk, ln, h1.still ho, h2.still ho⟩
theorem Und.disk {E : Nat → Prop} {w W W2 : World} {B r q K : Nat} {rv nv : Value} {rs : List RW} {d d2 : DS} {x : SS} {rv' : Value} {rs' : List RW} {tv kv : Value} {lk ln : List RPg} (h1 : MidE w (fun b => nv.ownBlock = some b ∨ b = r) B q K rv rs d W rv' rs') (h2 : RsAt W (refE E w.heap.size q K rv' rs') B r q tv kv nv x lk ln) (h3 : RfIs W B q K rv' rs' d2 W2) : Und E w B r q K rv nv rs d2 x W2 := by
 obtain ⟨rv2, rs2, hm⟩ := h3
 refine ⟨rv2, rs2, tv, kv, lk, ln, h1.via hm, h2.frame hm.ho (fun _ _ e => .inl e) (fun k hk e => ?_)⟩
 rcases e with e | e
 ·rcases hm.sub k e with e | e
  ·exact .inl e
  ·omega
 ·exact .inr e
theorem Und.wpage {E : Nat → Prop} {w W : World} {B r q K : Nat} {rv nv : Value} {rs : List RW} {d : DS} {x : SS} (h : Und E w B r q K rv nv rs d x W) (hB : B ≤ w.heap.size) (hw : w.heap.size ≤ W.heap.size) (P : Int) (id : Nat) (v : Value) (D : List Nat) (hv : BytesAt W v D) (hid : id < 4294967296) (hp : d.pend.length ≤ 10000000000) (hb : ByteD d) (hg : Good d) :
  Calls Tryz.prog 91 #[.pointer (some ⟨q, 0, none⟩), .int .i64 P, .int .u32 id, v] W fun e W2 => e = .returned (.int .i64 (d.wpage P id D).1) ∧ Hid (Und E w B r q K rv nv rs (d.wpage P id D).2 x W2 ∧ ∀ b o u, (nv.ownBlock = some b ∨ b = r) → W.cell? ⟨b, o, none⟩ = some u → W2.cell? ⟨b, o, none⟩ = some u) := by
 obtain ⟨rv', rs', tv, kv, lk, ln, h1, h2⟩ := h.all
 refine ((MidR.start h1.ref).wpage (by omega) P id v D hv hid hp hb hg).mono ?_
 rintro e W2 ⟨rfl, h3⟩
 refine ⟨rfl, Und.disk h1 h2 h3.out, fun b o u hb' hc => ?_⟩
 obtain ⟨rv2, rs2, hm⟩ := h3.out
 refine hm.ho.cell hc (fun e => ?_)
 rcases hb' with hb' | hb'
 ·exact (h2.k2 b hb').2 (.inl e)
 ·exact h2.k1 (.inl (hb' ▸ e))
theorem Und.barrier {E : Nat → Prop} {w W : World} {B r q K : Nat} {rv nv : Value} {rs : List RW} {d : DS} {x : SS} (h : Und E w B r q K rv nv rs d x W) (hg : Good d) (hp : d.pend.length ≤ 140737488351232) :
  Calls Tryz.prog 72 #[.pointer (some ⟨q, 0, none⟩)] W fun e W2 => e = .returned (.int .i64 d.barrier.1) ∧ Hid (Und E w B r q K rv nv rs d.barrier.2 x W2) := by
 obtain ⟨rv', rs', tv, kv, lk, ln, h1, h2⟩ := h.all
 refine ((MidR.start h1.ref).barrier hg hp).mono ?_
 rintro e W2 ⟨rfl, h3⟩
 exact ⟨rfl, Und.disk h1 h2 h3.out⟩
theorem Und.put {E : Nat → Prop} {w W : World} {B r q K : Nat} {rv nv : Value} {rs : List RW} {d : DS} {x : SS} (h : Und E w B r q K rv nv rs d x W) (hB : B ≤ w.heap.size) (hw : w.heap.size ≤ W.heap.size) (a : Option Addr) (c : Nat) (k : Int) (f : Nat → Int) (hr : RowAt W (.slice a 32 c) 32 1 (fun j => .int .u8 (f j))) (hby : (d.pend.length + 1) * 72 ≤ 140737488355328) :
  Calls Tryz.prog 42 #[.pointer (some ⟨q, 0, none⟩), .int .i64 k, .slice a 32 c] W fun e W2 => e = .returned (.int .i64 (d.write k f 32).1) ∧ Hid (Und E w B r q K rv nv rs (d.write k f 32).2 x W2) := by
 obtain ⟨rv', rs', tv, kv, lk, ln, h1, h2⟩ := h.all
 refine ((MidR.start h1.ref).put (by omega) a 32 c k f hr hby (by omega)).mono ?_
 rintro e W2 ⟨rfl, h3⟩
 exact ⟨rfl, Und.disk h1 h2 h3.out⟩
theorem Und.layAt {E : Nat → Prop} {w W : World} {B r q K : Nat} {rv nv : Value} {rs : List RW} {d : DS} {x : SS} (h : Und E w B r q K rv nv rs d x W) (k a : Nat) (hk : k < x.now.length) (ha : 2 ≤ a ∧ a < x.size) :
  ∃ g c, nv = .slice (some ⟨g, 0, none⟩) x.now.length c ∧ W.cell? ⟨r, 5, none⟩ = some nv ∧ (∃ u, W.cell? ⟨g, k * 3 + 1, none⟩ = some u) ∧ W.frozen? ⟨g, k * 3 + 1, none⟩ = false ∧
    Und E w B r q K rv nv rs d { x with now := x.now.set k ((x.now[k]).1, a, (x.now[k]).2.2) } (W.setCell ⟨g, k * 3 + 1, none⟩ (.int .i64 (a : Nat))) := by
 obtain ⟨rv', rs', tv, kv, lk, ln, h1, h2⟩ := h.all
 obtain ⟨g, c, hnv, hu, hf, hgr, hgk, ln', h3, h4⟩ := h2.layAt (fun k e => by
  rcases e with e | e
  ·exact (h1.ref.lt k e).2
  ·exact Nat.lt_of_lt_of_le e.2 h1.ho.size) k a hk ha
 exact ⟨g, c, hnv, h2.c5, hu, hf, rv', rs', tv, kv, lk, ln', h1.set h4 (fun b _ e => .inl (by rw [hnv, e]; rfl)) (fun b e e' => hgk (.inl (e' ▸ e))), h3⟩
theorem Und.page {E : Nat → Prop} {w W : World} {B r q K : Nat} {rv nv : Value} {rs : List RW} {d : DS} {x : SS} (h : Und E w B r q K rv nv rs d x W) (k : Nat) (hk : k < x.now.length) :
  ∃ g c v, nv = .slice (some ⟨g, 0, none⟩) x.now.length c ∧ W.cell? ⟨r, 0, none⟩ = some (.pointer (some ⟨q, 0, none⟩)) ∧ W.cell? ⟨r, 5, none⟩ = some nv ∧ W.cell? ⟨g, k * 3, none⟩ = some (.int .i64 (x.now[k]).1) ∧ W.cell? ⟨g, k * 3 + 1, none⟩ = some (.int .i64 ((x.now[k]).2.1 : Nat)) ∧ W.cell? ⟨g, k * 3 + 2, none⟩ = some v ∧ BytesAt W v (x.now[k]).2.2 := by
 obtain ⟨rv', rs', tv, kv, lk, ln, h1, h2⟩ := h.all
 obtain ⟨a, c, hnv, _⟩ := h2.now.form
 have hl := h2.nowLen
 have hkl : k < ln.length := by omega
 have hn := h2.now
 rw [hnv] at hn
 obtain ⟨g, rfl, z0, z1, z2⟩ := hn.at k hkl
 have e : x.now[k] = (ln[k]).p := by
  have := h2.nowE
  simp only [← this, List.getElem_map]
 rw [e]
 exact ⟨g, c, _, by rw [hnv, hl], h2.c0, h2.c5, z0, z1, z2, (h2.now.dat _ (List.getElem_mem hkl)).1⟩
theorem Und.size {E : Nat → Prop} {w W : World} {B r q K : Nat} {rv nv : Value} {rs : List RW} {d : DS} {x : SS} (h : Und E w B r q K rv nv rs d x W) : w.heap.size ≤ W.heap.size := by
 obtain ⟨rv', rs', tv, kv, lk, ln, h1, h2⟩ := h.all
 exact h1.ho.size
theorem Und.cells {E : Nat → Prop} {w W : World} {B r q K : Nat} {rv nv : Value} {rs : List RW} {d : DS} {x : SS} (h : Und E w B r q K rv nv rs d x W) : W.cell? ⟨r, 0, none⟩ = some (.pointer (some ⟨q, 0, none⟩)) ∧ W.cell? ⟨r, 1, none⟩ = some (.int .i64 ((x.sector / 4 : Nat) : Int)) ∧ W.cell? ⟨r, 2, none⟩ = some (.int .u64 (x.epoch : Nat)) ∧ W.cell? ⟨r, 5, none⟩ = some nv ∧ (∀ j, j < 7 → W.frozen? ⟨r, j, none⟩ = false) ∧ (∃ a n c, nv = .slice a n c) := by
 obtain ⟨rv', rs', tv, kv, lk, ln, h1, h2⟩ := h.all
 obtain ⟨a, c, hnv, _⟩ := h2.now.form
 exact ⟨h2.c0, h2.c1, h2.c2, h2.c5, fun j hj => h2.fz j hj, a, _, c, hnv⟩
theorem Und.form {E : Nat → Prop} {w W : World} {B r q K : Nat} {rv nv : Value} {rs : List RW} {d : DS} {x : SS} (h : Und E w B r q K rv nv rs d x W) : ∃ a c, nv = .slice a x.now.length c := by
 obtain ⟨rv', rs', tv, kv, lk, ln, h1, h2⟩ := h.all
 exact h2.nowForm
theorem Und.ints {E : Nat → Prop} {w W : World} {B r q K : Nat} {rv nv : Value} {rs : List RW} {d : DS} {x : SS} (h : Und E w B r q K rv nv rs d x W) {v : Value} {A : List Nat} (hv : IntsAt w v A) (hb : ∀ b, v.ownBlock = some b → ¬ refB q K rv rs b ∧ nv.ownBlock ≠ some b ∧ b ≠ r) : IntsAt W v A := by
 obtain ⟨rv', rs', tv, kv, lk, ln, h1, h2⟩ := h.all
 exact RowAt.keep hv h1.ho (fun b e e' => by
  rcases e' with e' | e' | e'
  ·exact (hb b e).1 e'
  ·exact (hb b e).2.1 e'
  ·exact (hb b e).2.2 e')
theorem Und.bytes {E : Nat → Prop} {w W : World} {B r q K : Nat} {rv nv : Value} {rs : List RW} {d : DS} {x : SS} (h : Und E w B r q K rv nv rs d x W) {v : Value} {A : List Nat} (hv : BytesAt w v A) (hb : ∀ b, v.ownBlock = some b → ¬ refB q K rv rs b ∧ nv.ownBlock ≠ some b ∧ b ≠ r) : BytesAt W v A := by
 obtain ⟨rv', rs', tv, kv, lk, ln, h1, h2⟩ := h.all
 exact BytesAt.keep hv h1.ho (fun b e e' => by
  rcases e' with e' | e' | e'
  ·exact (hb b e).1 e'
  ·exact (hb b e).2.1 e'
  ·exact (hb b e).2.2 e')
theorem bytes_mid2 {w : World} {a : Option Addr} {T c : Nat} {zs : List Nat} (h : BytesAt w (.slice a T c) zs) (hT : T = zs.length) (p e : Nat) (hp : p < e) (he : e ≤ T) :
  ∃ g o, a = some ⟨g, o, none⟩ ∧ T ≤ c ∧ BytesAt w (.slice (some ⟨g, o + p, none⟩) (e - p) (c - p)) ((zs.drop p).take (e - p)) := by
 obtain ⟨a', c', hv, hcap, hc⟩ := h.form
 simp only [Value.slice.injEq] at hv
 obtain ⟨rfl, _, rfl⟩ := hv
 obtain ⟨g, o, rfl, _⟩ := hc 0 (by omega)
 have hl : ((zs.drop p).take (e - p)).length = e - p := by simp; omega
 refine ⟨g, o, rfl, by omega, ⟨?_, by rw [hl]; have := h.2.1; omega, fun z hz => h.2.2 z (List.mem_of_mem_drop (List.mem_of_mem_take hz))⟩⟩
 rw [hl]
 refine .inr ⟨⟨g, o + p, none⟩, c - p, rfl, by omega, fun j hj => ?_⟩
 obtain ⟨g', o', he', hcell⟩ := hc (p + j) (by omega)
 simp only [Option.some.injEq, Addr.mk.injEq, and_true] at he'
 obtain ⟨rfl, rfl⟩ := he'
 rw [Addr.add_mid, Nat.add_assoc, hcell]
 have hj' : j < e - p := by omega
 simp [List.getD, hj']
end Go.Proofs.YtlcglapcmdpkfaaGreat
