/- The walk of SumKeeps. -/
import Derived.Test.YtcgcgaafmedkmaaK1
import Derived.Test.YtcgcgaafmedkmaaLists
import Derived.Test.YtcgcgaafmedkmaaBack
namespace Go.Proofs.Ytcgcgaafmedkmaa
open Go.RowKit
set_option linter.unusedSimpArgs false
set_option linter.unusedVariables false

theorem mem_total {L : List (List Nat)} {z : List Nat} (h : z ∈ L) : z.length ≤ total L := by
  induction L with
  | nil => cases h
  | cons y r ih =>
    have e : total (y :: r) = y.length + total r := by simp [total]
    rcases List.mem_cons.1 h with rfl | h
    · omega
    · have := ih h; omega

set_option maxRecDepth 100000 in
set_option maxHeartbeats 8000000 in
theorem keeps_any (vl vb : Value) (L : List (List Nat)) (Z : List Nat) (w : World) (hl : ListsIn w vl L) (hb : BytesAt w vb Z) (hz : Z.length ≤ 1048576) :
    Calls Try.prog 8 #[vl, vb] w fun e w' => e = .returned (.bool true) ∧ Below w.heap.size w w' := by
  obtain ⟨hl, hl1, hl2⟩ := hl
  have HL : Hid (LL w vl L) := hl
  have HBY : Hid (∀ z ∈ L, (∀ y ∈ z, y < 256) ∧ z.length ≤ 140737488355328) := hl.byte
  have HB : Hid (BytesAt w vb Z) := hb
  obtain ⟨ab, cb, hvb, _, _⟩ := hb.form
  obtain ⟨zl, hzl⟩ : ∃ z, z = Z.length := ⟨_, rfl⟩
  rw [← hzl] at hvb
  have HZL : Hid (zl = Z.length) := hzl
  have hzl2 : zl ≤ 1048576 := by omega
  subst hvb
  obtain ⟨M, hM⟩ : ∃ M, M = (split Z).getD [] := ⟨_, rfl⟩
  have hMl : M.length ≤ 1048576 := by
    rw [hM]
    cases hs : split Z with
    | none => simp
    | some M => have := split_len hs; simp; omega
  have HM : Hid (M = (split Z).getD []) := hM
  obtain ⟨xe, hxe⟩ : ∃ x, x = errOf (split Z) := ⟨_, rfl⟩
  have HXE : Hid (xe = errOf (split Z)) := hxe
  clear hl hb hzl hz hM hxe
  go_enter Try.func8, Try.ntmps8
  go_wp2_with fail
  refine (awake_any w).mono ?_
  rintro e w1 ⟨rfl, ho⟩
  have O1 : Hid (Only (fun _ => False) w w1) := ho
  clear ho
  go_wp2_with fail
  refine (owns_any vl L w1 (HL.out.frame O1.out) hl1).mono ?_
  rintro e w2 ⟨u2, us2, rfl, hf2, ho⟩
  have O2 : Hid (Only (fun _ => False) w w2) := O1.out.trans ho (fun _ _ e => e)
  have HF2 : Hid (FL w2 w1.heap.size u2 us2 L) := hf2
  have HFS2 : Hid (Fss w2 (fun b => w1.heap.size ≤ b ∧ b < w2.heap.size) us2 L) := hf2.fs
  have HS12 : Hid (w.heap.size ≤ w1.heap.size ∧ w1.heap.size ≤ w2.heap.size) := ⟨O1.out.size, ho.size⟩
  clear ho hf2 O1
  go_wp2_with fail
  refine (own_any _ Z w2 (HB.out.frame O2.out)).mono ?_
  rintro e w3 ⟨u3, rfl, hf3, ho⟩
  have oA : Only (fun _ => False) w3 (w3.alloc (.cells #[.int .u8 71, .int .u8 72] 5)) := (Only.refl _ w3).alloc _
  have o3 : Only (fun _ => False) w2 (w3.alloc (.cells #[.int .u8 71, .int .u8 72] 5)) := ho.trans oA (fun _ _ e => e)
  obtain ⟨a4, c4, w4, hr4, hf4, hg4⟩ := app_fresh (hf3.frame oA) (two_bytes w3) (by have := o3.size; omega) (by have := HZL.out; simp; omega)
  have o4 : Only (fun _ => False) w2 w4 := o3.grown hg4 (fun q e hq => by have h1 := (own_lt hf3 q e).1; omega)
  rw [← HZL.out] at hr4 hf4
  obtain ⟨fl, hfl⟩ : ∃ x, x = zl + [71, 72].length := ⟨_, rfl⟩
  rw [← hfl] at hr4 hf4
  have hfl2 : fl = zl + 2 := hfl
  have HR4 : Hid _ := hr4
  obtain ⟨gF, cF, hvF, hgF, hgF2⟩ := hf4.1.form (by simp)
  have hcF : fl ≤ cF := by
    obtain ⟨a, c, hv, hk, _⟩ := hf4.bytes.form
    rw [hvF] at hv
    simp only [Value.slice.injEq] at hv
    have : (Z ++ [71, 72]).length = fl := by rw [hfl2, HZL.out]; simp
    omega
  have hlF : (Z ++ [71, 72]).length = fl := by rw [hfl2, HZL.out]; simp
  rw [hlF] at hvF
  simp only [Value.slice.injEq] at hvF
  obtain ⟨rfl, _, rfl⟩ := hvF
  have HF4 : Hid (Fresh w4 w2.heap.size (.slice (some ⟨gF, 0, none⟩) fl c4) (Z ++ [71, 72])) := hf4
  have O4 : Hid (Only (fun _ => False) w w4) := O2.out.trans o4 (fun _ _ e => e)
  have HF2' : Hid (FL w4 w1.heap.size u2 us2 L) := HF2.out.frame o4
  have HS24 : Hid (w2.heap.size ≤ w4.heap.size) := o4.size
  have O24 : Hid (Only (fun _ => False) w2 w4) := o4
  have HFL : Hid (fl = zl + 2) := hfl2
  have f0 : (zl : Int) ≤ (c4 : Int) := by omega
  have f1 : (0 : Int) ≤ (zl : Int) := by omega
  have f2 : (zl : Int) < (fl : Int) := by omega
  have f3 : (zl : Int) + 1 < (fl : Int) := by omega
  have f4 : IntKind.i64.wrap ((zl : Int) + 1) = (zl : Int) + 1 := by rw [IntKind.wrap_i64]; omega
  have f5 : ((zl : Int) + 1).toNat = zl + 1 := by omega
  have f6 : (0 : Int) ≤ (zl : Int) + 1 := by omega
  clear ho oA o3 hf3 hf4 hg4 hr4 o4 hfl hfl2 hgF hgF2 hlF O2 HF2 hcF
  go_wp2_with (at_builtin; refine wpList_append_run rfl _ _ 22 rfl _ _ (.slice (some ⟨gF, 0, none⟩) fl c4) rfl rfl HR4.out ?_)
  refine (join_any u2 L w4 HF2'.out.lists hl1 hl2).mono ?_
  rintro e w5 ⟨u5, rfl, hf5, ho⟩
  have O5 : Hid (Only (fun _ => False) w w5) := O4.out.trans ho (fun _ _ e => e)
  have HF25 : Hid (FL w5 w1.heap.size u2 us2 L) := HF2'.out.frame ho
  have O25 : Hid (Only (fun _ => False) w2 w5) := O24.out.trans ho (fun _ _ e => e)
  have HF45 : Hid (Fresh w5 w2.heap.size (.slice (some ⟨gF, 0, none⟩) fl c4) (Z ++ [71, 72])) := Fresh.frame HF4.out ho
  have HP4 : Hid (gF < w4.heap.size ∧ w2.heap.size ≤ gF) := by have := own_lt HF4.out gF rfl; exact ⟨this.2, this.1⟩
  have HF5 : Hid (Fresh w5 w4.heap.size u5 (join L)) := hf5
  have HS45 : Hid (w4.heap.size ≤ w5.heap.size) := ho.size
  clear ho hf5 O4 HF2' HF4 HR4
  go_wp2_with fail
  refine (join_any u2 L w5 HF25.out.lists hl1 hl2).mono ?_
  rintro e w6 ⟨u6, rfl, hf6, ho⟩
  have O6 : Hid (Only (fun _ => False) w w6) := O5.out.trans ho (fun _ _ e => e)
  have HF26 : Hid (FL w6 w1.heap.size u2 us2 L) := HF25.out.frame ho
  have HFS6 : Hid (Fss w6 (fun b => w1.heap.size ≤ b ∧ b < w2.heap.size) us2 L) := Fss.frame HFS2.out (O25.out.trans ho (fun _ _ e => e))
  have HF46 : Hid (Fresh w6 w2.heap.size (.slice (some ⟨gF, 0, none⟩) fl c4) (Z ++ [71, 72])) := Fresh.frame HF45.out ho
  have HF56 : Hid (Fresh w6 w4.heap.size u5 (join L)) := Fresh.frame HF5.out ho
  have HP5 : Hid (∀ b, u5.ownBlock = some b → w4.heap.size ≤ b ∧ b < w5.heap.size) := fun b hb => own_lt HF5.out b hb
  have HP6 : Hid (∀ b, u6.ownBlock = some b → w5.heap.size ≤ b ∧ b < w6.heap.size) := fun b hb => own_lt hf6 b hb
  have HF6 : Hid (Fresh w6 w5.heap.size u6 (join L)) := hf6
  have HS56 : Hid (w5.heap.size ≤ w6.heap.size) := ho.size
  obtain ⟨a5, c5, hu5⟩ := Fresh.form HF5.out
  obtain ⟨a6, c6, hu6⟩ := Fresh.form HF6.out
  obtain ⟨jl, hjl⟩ : ∃ x, x = (join L).length := ⟨_, rfl⟩
  rw [← hjl] at hu5 hu6
  subst hu5 hu6
  have HJL : Hid (jl = (join L).length) := hjl
  have htk : (Z ++ [71, 72]).take zl = Z := by rw [HZL.out, List.take_left]
  have HB6 : Hid (BytesAt w6 (.slice (some ⟨gF, 0, none⟩) zl c4) Z) := by
    have := BytesAt.take (Fresh.bytes HF46.out) (n := zl) (by have := HFL.out; omega)
    rwa [htk] at this
  clear ho hf6 O5 HF25 HF45 HF5 hjl htk
  go_wp2_with fail
  refine (sum_any _ Z w6 HB6.out).mono ?_
  rintro e w7 ⟨rfl, hw7⟩
  have hw7' := hw7.symm
  clear hw7
  subst hw7'
  go_wp2_with fail
  refine (read_any _ 0 Z w6 HB6.out (Nat.zero_le _)).mono ?_
  rintro e w8 ⟨rfl, ho⟩
  have O8 : Hid (Only (fun _ => False) w6 w8) := ho
  have HB8 : Hid (BytesAt w8 (.slice (some ⟨gF, 0, none⟩) zl c4) Z) := HB6.out.frame ho
  clear ho HB6
  go_wp2_with fail
  refine (split_any _ Z w8 HB8.out (by have := HZL.out; omega)).mono ?_
  rintro e w9 ⟨hs, ho⟩
  obtain ⟨u9, us9, rfl, hf9⟩ := split_form hs
  rw [← HXE.out]
  rw [← HM.out] at hf9
  have O9 : Hid (Only (fun _ => False) w6 w9) := O8.out.trans ho (fun _ _ e => e)
  have HF9 : Hid (FL w9 w8.heap.size u9 us9 M) := hf9
  have HFS9 : Hid (Fss w9 (fun b => w8.heap.size ≤ b ∧ b < w9.heap.size) us9 M) := hf9.fs
  have HB9 : Hid (BytesAt w9 (.slice (some ⟨gF, 0, none⟩) zl c4) Z) := HB8.out.frame ho
  have HS69 : Hid (w6.heap.size ≤ w8.heap.size ∧ w8.heap.size ≤ w9.heap.size) := ⟨O8.out.size, ho.size⟩
  clear ho hs hf9 HB8 O8
  go_wp2_with fail
  refine (split_any _ Z w9 HB9.out (by have := HZL.out; omega)).mono ?_
  rintro e w10 ⟨hs, ho⟩
  obtain ⟨u10, us10, rfl, hf10⟩ := split_form hs
  rw [← HXE.out]
  rw [← HM.out] at hf10
  have O10 : Hid (Only (fun _ => False) w6 w10) := O9.out.trans ho (fun _ _ e => e)
  have OW10 : Hid (Only (fun _ => False) w w10) := O6.out.trans O10.out (fun _ _ e => e)
  have HF10 : Hid (FL w10 w9.heap.size u10 us10 M) := hf10
  have HFS10 : Hid (Fss w10 (fun b => w9.heap.size ≤ b ∧ b < w10.heap.size) us10 M) := hf10.fs
  have HFS910 : Hid (Fss w10 (fun b => w8.heap.size ≤ b ∧ b < w9.heap.size) us9 M) := Fss.frame HFS9.out ho
  have HF910 : Hid (FL w10 w8.heap.size u9 us9 M) := HF9.out.frame ho
  have HB10 : Hid (BytesAt w10 (.slice (some ⟨gF, 0, none⟩) zl c4) Z) := HB9.out.frame ho
  have HS910 : Hid (w9.heap.size ≤ w10.heap.size) := ho.size
  clear ho hs hf10 HB9 O9
  go_wp2_with fail
  refine (samel_any u2 vl L w10 (HF26.out.frame O10.out).lists (HL.out.frame OW10.out) (by omega)).mono ?_
  rintro e w11 ⟨rfl, ho⟩
  have O11 : Hid (Only (fun _ => False) w10 w11) := ho
  clear ho
  go_wp2_with fail
  refine (same_any _ _ Z w11 (HB10.out.frame O11.out) (HB.out.frame (OW10.out.trans O11.out (fun _ _ e => e)))).mono ?_
  rintro e w12 ⟨rfl, ho⟩
  have O12 : Hid (Only (fun _ => False) w10 w12) := O11.out.trans ho (fun _ _ e => e)
  have o12 : Only (fun _ => False) w6 w12 := O10.out.trans O12.out (fun _ _ e => e)
  have hF12 := (Fresh.frame HF46.out o12).1
  have hlen12 : (Z ++ [71, 72]).length = fl := by rw [HFL.out, HZL.out]; simp
  rw [hlen12] at hF12
  have y71 : w12.cell? ⟨gF, zl, none⟩ = some (.int .u8 71) := by
    have := hF12.cellAt zl (by omega)
    rw [this, BL_append, List.getElem?_append_right (by rw [BL_length, HZL.out]; omega), BL_length, HZL.out]
    simp [BL]
  have y72 : w12.cell? ⟨gF, zl + 1, none⟩ = some (.int .u8 72) := by
    have := hF12.cellAt (zl + 1) (by omega)
    rw [this, BL_append, List.getElem?_append_right (by rw [BL_length, HZL.out]; omega), BL_length, HZL.out]
    simp [BL]
  clear ho hF12 o12 O11 HB10 hlen12
  go_wp2_with fail
  refine (same_any _ _ (join L) w12 (Fresh.bytes (Fresh.frame HF56.out (O10.out.trans O12.out (fun _ _ e => e)))) (Fresh.bytes (Fresh.frame HF6.out (O10.out.trans O12.out (fun _ _ e => e))))).mono ?_
  rintro e w13 ⟨rfl, ho⟩
  have O13 : Hid (Only (fun _ => False) w10 w13) := O12.out.trans ho (fun _ _ e => e)
  clear ho O12 y71 y72
  go_wp2_with fail
  refine (samel_any u9 u10 M w13 (HF910.out.frame O13.out).lists (HF10.out.frame O13.out).lists (by omega)).mono ?_
  rintro e w14 ⟨rfl, ho⟩
  have O14 : Hid (Only (fun _ => False) w10 w14) := O13.out.trans ho (fun _ _ e => e)
  clear ho O13
  have o614 : Only (fun _ => False) w6 w14 := O10.out.trans O14.out (fun _ _ e => e)
  have s1 := HS12.out
  have s2 := HS24.out
  have s3 := HS45.out
  have s4 := HS56.out
  have s5 := HS69.out
  have s6 := HS910.out
  have s7 := O14.out.size
  have hp4 := HP4.out
  have hfs : Fss w14 (fun b => w.heap.size ≤ b ∧ b < w14.heap.size) ([.slice a5 jl c5, .slice a6 jl c6, .slice (some ⟨gF, 0, none⟩) fl c4] ++ us2 ++ us9 ++ us10) ([join L, join L, Z ++ [71, 72]] ++ L ++ M ++ M) := by
    have fx : Fss w14 (fun b => w4.heap.size ≤ b ∧ b < w5.heap.size) [.slice a5 jl c5] [join L] := Fss.one (Fresh.frame HF56.out o614) HP5.out
    have fy : Fss w14 (fun b => w5.heap.size ≤ b ∧ b < w6.heap.size) [.slice a6 jl c6] [join L] := Fss.one (Fresh.frame HF6.out o614) HP6.out
    have ff : Fss w14 (fun b => w2.heap.size ≤ b ∧ b < w4.heap.size) [.slice (some ⟨gF, 0, none⟩) fl c4] [Z ++ [71, 72]] := Fss.one (Fresh.frame HF46.out o614) (fun b hb => by simp [Value.ownBlock] at hb; omega)
    have fin := Fss.frame HFS6.out o614
    have fp := Fss.frame HFS910.out O14.out
    have fq := Fss.frame HFS10.out O14.out
    refine Fss.mono (((((fx.append fy (fun b h1 h2 => by omega)).append ff (fun b h1 h2 => by omega)).append fin (fun b h1 h2 => by omega)).append fp (fun b h1 h2 => by omega)).append fq (fun b h1 h2 => by omega)) (fun b h => by omega)
  have hlens : ∀ z ∈ [join L, join L, Z ++ [71, 72]] ++ L ++ M ++ M, z.length ≤ 140737488351232 := by
    have hj := join_le L hl1 hl2 (fun z hz => (HBY.out z hz).2)
    have hmL : ∀ z ∈ L, z.length ≤ 1048576 := fun z hz => by have := mem_total hz; omega
    have hmM : ∀ z ∈ M, z.length ≤ 1048576 := fun z hz => by
      rw [HM.out] at hz
      cases hs : split Z with
      | none => rw [hs] at hz; cases hz
      | some M' =>
        rw [hs] at hz
        have h1 := (join_split HB.out.2.2 hs).1
        have h2 := join_ge M'
        have h3 := mem_total (L := M') hz
        rw [h1] at h2
        have h4 := HZL.out
        omega
    have hF : (Z ++ [71, 72]).length = zl + 2 := by rw [List.length_append, ← HZL.out]; rfl
    intro z hz
    simp only [List.mem_append, List.mem_cons, List.not_mem_nil, or_false] at hz
    rcases hz with ((((rfl | rfl | rfl) | hz) | hz) | hz)
    · omega
    · omega
    · omega
    · have := hmL z hz; omega
    · have := hmM z hz; omega
    · have := hmM z hz; omega
  have B1 := BookAt.start (W := w14) (x := .slice a5 jl c5) (y := .slice a6 jl c6) (z := .slice (some ⟨gF, 0, none⟩) fl c4)
  have r2 := (HF26.out.frame o614).frame B1.only
  have n2 := HF26.out.len
  obtain ⟨aA, cA, wA, hrA, yA, fA, B2⟩ := B1.more r2.row r2.ones (by simp; omega)
  have r9 := ((HF910.out.frame O14.out)).frame B2.only
  have n9 := HF910.out.len
  obtain ⟨aB, cB, wB, hrB, yB, fB, B3⟩ := B2.more r9.row r9.ones (by simp; omega)
  have r10 := ((HF10.out.frame O14.out)).frame B3.only
  have n10 := HF10.out.len
  obtain ⟨aC, cC, wC, hrC, yC, fC, B4⟩ := B3.more r10.row r10.ones (by simp; omega)
  have HAP := B4.apart hfs hlens (fun b h => h) (by simp; omega)
  have x1 := B1.c2
  have x2 := B2.c2
  have x3 := B3.c2
  obtain ⟨qA, hqA⟩ : ∃ q, q = ([Value.slice a5 jl c5, .slice a6 jl c6, .slice (some ⟨gF, 0, none⟩) fl c4] : List Value).length + us2.length := ⟨_, rfl⟩
  obtain ⟨qB, hqB⟩ : ∃ q, q = ([Value.slice a5 jl c5, .slice a6 jl c6, .slice (some ⟨gF, 0, none⟩) fl c4] ++ us2 : List Value).length + us9.length := ⟨_, rfl⟩
  obtain ⟨qC, hqC⟩ : ∃ q, q = ([Value.slice a5 jl c5, .slice a6 jl c6, .slice (some ⟨gF, 0, none⟩) fl c4] ++ us2 ++ us9 : List Value).length + us10.length := ⟨_, rfl⟩
  rw [← hqA] at hrA x2 hrB
  rw [← hqB] at hrB x3 hrC
  rw [← hqC] at hrC HAP
  have HRA : Hid _ := hrA
  have HRB : Hid _ := hrB
  have HRC : Hid _ := hrC
  have HOW14 : Hid (Only (fun _ => False) w w14) := OW10.out.trans O14.out (fun _ _ e => e)
  obtain ⟨a9, c9, hu9⟩ := HF910.out.slice
  obtain ⟨ml, hml⟩ : ∃ x, x = M.length := ⟨_, rfl⟩
  rw [← hml] at hu9
  subst hu9
  have hxm : xe = 0 ∨ (xe = 9 ∧ ml = 0) := by
    rw [HXE.out, hml, HM.out]
    cases hs : split Z with
    | none => exact .inr ⟨rfl, rfl⟩
    | some M' => exact .inl rfl
  clear B1 B2 B3 B4 r2 r9 r10 n2 n9 n10 hfs hlens hrA hrB hrC hqA hqB hqC hml HF26 HF910 HF10 HF9 HFS2 HFS6 HFS9 HFS10 HFS910 HF56 HF6 HF46 HP4 HP5 HP6 O14 o614 O24 O25 O6 O10 OW10 HS12 HS24 HS45 HS56 HS69 HS910 s1 s2 s3 s4 s5 s6 s7 hp4 HB HL HBY HXE HM f0 f1 f2 f3 f4 f5 f6
  go_wp2_with (at_builtin; first
    | (refine wpList_append_run rfl _ _ 34 rfl _ _ (.slice aA qA cA) rfl rfl HRA.out ?_)
    | (refine wpList_append_run rfl _ _ 34 rfl _ _ (.slice aB qB cB) rfl rfl HRB.out ?_)
    | (refine wpList_append_run rfl _ _ 34 rfl _ _ (.slice aC qC cC) rfl rfl HRC.out ?_))
  refine HAP.mono ?_
  rintro e w18 ⟨rfl, ho⟩
  have HE : Hid (Below w.heap.size w w18) := (HOW14.out.trans ho (fun i hi e => by omega)).below (fun _ h => h.elim) (Nat.le_refl _)
  clear HAP ho HOW14 HRA HRB HRC x1 x2 x3 yA yB yC fA fB fC
  rcases hxm with rfl | ⟨rfl, rfl⟩
  · go_wp2
    go_ret
    exact ⟨rfl, HE.out⟩
  · go_wp2
    go_ret
    exact ⟨rfl, HE.out⟩
end Go.Proofs.Ytcgcgaafmedkmaa
