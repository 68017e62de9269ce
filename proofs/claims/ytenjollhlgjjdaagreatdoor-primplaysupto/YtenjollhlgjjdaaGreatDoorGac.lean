import Derived.Test.YtenjollhlgjjdaaGreatDoorGaa
import Derived.Shelf.Strings.Builder1
import Derived.Shelf.Strings.BuilderF
import Derived.Shelf.Strings.BuilderK
import Derived.Shelf.Strings.BuilderRune
import Derived.Shelf.Strconv.Itoa0
import Derived.Shelf.Strconv.Itoa1
import Derived.Shelf.LaysM
import Derived.Shelf.Unicode.Latin
import Derived.Shelf.Unicode.Is16White
import Derived.Shelf.Unicode.IsSpaceAny
import Derived.Shelf.Unicode.Is16Any
import Derived.Shelf.Unicode.Is32Any
import Derived.Shelf.Unicode.ExclAny
import Derived.Test.YtenjollhlgjjdaaGreatDoorProg
import Derived.Test.YtenjollhlgjjdaaGreatDoorGab
set_option linter.unusedSimpArgs false
set_option linter.unusedVariables false
set_option maxRecDepth 100000
set_option maxHeartbeats 40000000
/-          -/
namespace Go.Proofs
open Go.Shelf
def Tryz.lays170_ren : Go.Shelf.Ren := ⟨fun | 170 => 160 | n => n, fun | 70 => 180 | 3 => 3 | 0 => 0 | 72 => 183 | 37 => 181 | 5 => 5 | n => n, fun | n => n⟩
theorem Tryz.lays170 : Go.Proofs.Lays.n170 Tryz.prog Tryz.lays170_ren := {
 mixed := by kernel_rfl
 f170 := Tryz.func160.trans (congrArg some (by kernel_rfl))
 t0 := Tryz.underlying0
 a0 := Tryz.isAgg0
 z0 := Tryz.sizeOf0
 v0 := Tryz.zeroValue0
 t3 := Tryz.underlying3
 a3 := Tryz.isAgg3
 z3 := Tryz.sizeOf3
 v3 := Tryz.zeroValue3
 t37 := Tryz.underlying181
 a37 := Tryz.isAgg181
 z37 := Tryz.sizeOf181
 v37 := Tryz.zeroValue181
 t70 := Tryz.underlying180
 a70 := Tryz.isAgg180
 z70 := Tryz.sizeOf180
 v70 := Tryz.zeroValue180
 t72 := Tryz.underlying183
 a72 := Tryz.isAgg183
 z72 := Tryz.sizeOf183
 v72 := Tryz.zeroValue183 }
open Go.RowKit in
theorem Tryz.Builder_Len (B b : Nat) (bs : List Value) (w : World) (h : Lib.IsBuilder 183 5 B b bs w) :
  Calls Tryz.prog 160 #[.pointer (some ⟨b, 0, none⟩)] w fun e w' => e = .returned (.int .i64 bs.length) ∧ w' = w := Any.Builder_Len Tryz.lays170 B b bs w h
def Tryz.lays169_ren : Go.Shelf.Ren := ⟨fun | 169 => 117 | n => n, fun | 70 => 180 | 9 => 9 | 0 => 0 | 72 => 183 | 37 => 181 | 127 => 221 | 3 => 3 | 5 => 5 | n => n, fun | n => n⟩
theorem Tryz.lays169 : Go.Proofs.Lays.n169 Tryz.prog Tryz.lays169_ren := {
 mixed := by kernel_rfl
 f169 := Tryz.func117.trans (congrArg some (by kernel_rfl))
 t0 := Tryz.underlying0
 a0 := Tryz.isAgg0
 z0 := Tryz.sizeOf0
 v0 := Tryz.zeroValue0
 t3 := Tryz.underlying3
 a3 := Tryz.isAgg3
 z3 := Tryz.sizeOf3
 v3 := Tryz.zeroValue3
 t9 := Tryz.underlying9
 a9 := Tryz.isAgg9
 z9 := Tryz.sizeOf9
 v9 := Tryz.zeroValue9
 t37 := Tryz.underlying181
 a37 := Tryz.isAgg181
 z37 := Tryz.sizeOf181
 v37 := Tryz.zeroValue181
 t70 := Tryz.underlying180
 a70 := Tryz.isAgg180
 z70 := Tryz.sizeOf180
 v70 := Tryz.zeroValue180
 t72 := Tryz.underlying183
 a72 := Tryz.isAgg183
 z72 := Tryz.sizeOf183
 v72 := Tryz.zeroValue183
 t127 := Tryz.underlying221
 a127 := Tryz.isAgg221
 z127 := Tryz.sizeOf221
 v127 := Tryz.zeroValue221 }
theorem Tryz.Builder_Extra_169 : Builder.Extra Tryz.prog Tryz.lays169_ren := {
 sizeBuilder := by kernel_rfl
 liesBuilder := by kernel_rfl
 t5 := Tryz.underlying5
 a5 := Tryz.isAgg5
 z5 := Tryz.sizeOf5
 v5 := Tryz.zeroValue5
 infoByte := by kernel_rfl
 cellsByte := by kernel_rfl
 sizeByte := by kernel_rfl
 neB5 := by decide }
open Go.RowKit in
theorem Tryz.Builder_String (B b : Nat) (l : List UInt8) (w : World) (h : Lib.IsBuilder 183 5 B b (Lib.byteCells l) w) (h0 : l ≠ []) :
  Calls Tryz.prog 117 #[.pointer (some ⟨b, 0, none⟩)] w fun e w' => e = .returned (.string ⟨l.toArray⟩) ∧ Below B w w' := Any.Builder_String Tryz.lays169 Tryz.Builder_Extra_169 B b l w h h0
open Go.RowKit in
theorem Tryz.Builder_String_empty (B b : Nat) (w : World) (h : Lib.IsBuilder 183 5 B b [] w) (hBw : B ≤ w.heap.size) :
  Calls Tryz.prog 117 #[.pointer (some ⟨b, 0, none⟩)] w fun e w' => e = .returned (.string ⟨#[]⟩) ∧ Below B w w' := Any.Builder_String_empty Tryz.lays169 Tryz.Builder_Extra_169 B b w h hBw
open Go.RowKit in
theorem Tryz.Builder_String_any (B b : Nat) (l : List UInt8) (w : World) (h : Lib.IsBuilder 183 5 B b (Lib.byteCells l) w) (hBw : B ≤ w.heap.size) :
  Calls Tryz.prog 117 #[.pointer (some ⟨b, 0, none⟩)] w fun e w' => e = .returned (.string ⟨l.toArray⟩) ∧ Below B w w' := Any.Builder_String_any Tryz.lays169 Tryz.Builder_Extra_169 B b l w h hBw
open Go.RowKit in
theorem Tryz.Builder_Len_f (B b : Nat) (bs : List Value) (w : World) (h : Lib.IsBuilderF 183 5 B b bs w) :
  Calls Tryz.prog 160 #[.pointer (some ⟨b, 0, none⟩)] w fun e w' => e = .returned (.int .i64 bs.length) ∧ w' = w := Any.Builder_Len_f Tryz.lays170 B b bs w h
open Go.RowKit in
theorem Tryz.Builder_String_f (B b : Nat) (l : List UInt8) (w : World) (h : Lib.IsBuilderF 183 5 B b (Lib.byteCells l) w) (h0 : l ≠ []) :
  Calls Tryz.prog 117 #[.pointer (some ⟨b, 0, none⟩)] w fun e w' => e = .returned (.string ⟨l.toArray⟩) ∧ (Lib.IsBuilderF 183 5 B b (Lib.byteCells l) w' ∧ Below B w w') := Any.Builder_String_f Tryz.lays169 Tryz.Builder_Extra_169 B b l w h h0
open Go.RowKit in
theorem Tryz.Builder_String_empty_f (B b : Nat) (w : World) (h : Lib.IsBuilderF 183 5 B b [] w) (hBw : B ≤ w.heap.size) :
  Calls Tryz.prog 117 #[.pointer (some ⟨b, 0, none⟩)] w fun e w' => e = .returned (.string ⟨#[]⟩) ∧ (Lib.IsBuilderF 183 5 B b [] w' ∧ Below B w w') := Any.Builder_String_empty_f Tryz.lays169 Tryz.Builder_Extra_169 B b w h hBw
open Go.RowKit in
theorem Tryz.Builder_String_any_f (B b : Nat) (l : List UInt8) (w : World) (h : Lib.IsBuilderF 183 5 B b (Lib.byteCells l) w) (hBw : B ≤ w.heap.size) :
  Calls Tryz.prog 117 #[.pointer (some ⟨b, 0, none⟩)] w fun e w' => e = .returned (.string ⟨l.toArray⟩) ∧ (Lib.IsBuilderF 183 5 B b (Lib.byteCells l) w' ∧ Below B w w') := Any.Builder_String_any_f Tryz.lays169 Tryz.Builder_Extra_169 B b l w h hBw
open Go.RowKit in
theorem Tryz.Builder_String_k (B b : Nat) (l : List UInt8) (w : World) (h : Lib.IsBuilderF 183 5 B b (Lib.byteCells l) w) (h0 : l ≠ []) :
  Calls Tryz.prog 117 #[.pointer (some ⟨b, 0, none⟩)] w fun e w' => e = .returned (.string ⟨l.toArray⟩) ∧ (Lib.IsBuilderF 183 5 B b (Lib.byteCells l) w' ∧ Below B w w' ∧ Lib.OthersKept 5 (some b) w w') := Any.Builder_String_k Tryz.lays169 Tryz.Builder_Extra_169 B b l w h h0
open Go.RowKit in
theorem Tryz.Builder_String_empty_k (B b : Nat) (w : World) (h : Lib.IsBuilderF 183 5 B b [] w) (hBw : B ≤ w.heap.size) :
  Calls Tryz.prog 117 #[.pointer (some ⟨b, 0, none⟩)] w fun e w' => e = .returned (.string ⟨#[]⟩) ∧ (Lib.IsBuilderF 183 5 B b [] w' ∧ Below B w w' ∧ Lib.OthersKept 5 (some b) w w') := Any.Builder_String_empty_k Tryz.lays169 Tryz.Builder_Extra_169 B b w h hBw
open Go.RowKit in
theorem Tryz.Builder_String_any_k (B b : Nat) (l : List UInt8) (w : World) (h : Lib.IsBuilderF 183 5 B b (Lib.byteCells l) w) (hBw : B ≤ w.heap.size) :
  Calls Tryz.prog 117 #[.pointer (some ⟨b, 0, none⟩)] w fun e w' => e = .returned (.string ⟨l.toArray⟩) ∧ (Lib.IsBuilderF 183 5 B b (Lib.byteCells l) w' ∧ Below B w w' ∧ Lib.OthersKept 5 (some b) w w') := Any.Builder_String_any_k Tryz.lays169 Tryz.Builder_Extra_169 B b l w h hBw
def Tryz.lays129_ren : Go.Shelf.Ren := ⟨fun | 129 => 184 | n => n, fun | 53 => 154 | 3 => 3 | 4 => 4 | 46 => 225 | 5 => 5 | 9 => 9 | n => n, fun | n => n⟩
theorem Tryz.lays129 : Go.Proofs.Lays.n129 Tryz.prog Tryz.lays129_ren := {
 mixed := by kernel_rfl
 f129 := Tryz.func184.trans (congrArg some (by kernel_rfl))
 t3 := Tryz.underlying3
 a3 := Tryz.isAgg3
 z3 := Tryz.sizeOf3
 v3 := Tryz.zeroValue3
 t4 := Tryz.underlying4
 a4 := Tryz.isAgg4
 z4 := Tryz.sizeOf4
 v4 := Tryz.zeroValue4
 t5 := Tryz.underlying5
 a5 := Tryz.isAgg5
 z5 := Tryz.sizeOf5
 v5 := Tryz.zeroValue5
 t9 := Tryz.underlying9
 a9 := Tryz.isAgg9
 z9 := Tryz.sizeOf9
 v9 := Tryz.zeroValue9
 t46 := Tryz.underlying225
 a46 := Tryz.isAgg225
 z46 := Tryz.sizeOf225
 v46 := Tryz.zeroValue225
 t53 := Tryz.underlying154
 a53 := Tryz.isAgg154
 z53 := Tryz.sizeOf154
 v53 := Tryz.zeroValue154 }
theorem Tryz.bits_Len64 (x : Int) (w : World) (h0 : 0 ≤ x) (h1 : x ≤ 18446744073709551615) :
  Calls Tryz.prog 184 #[.int .u64 x] w fun e w' => e = .returned (.int .i64 (Lib.bitLen x.toNat)) ∧ w' = w := Any.bits_Len64 Tryz.lays129 x w h0 h1
def Tryz.lays317_ren : Go.Shelf.Ren := ⟨fun | 317 => 183 | n => n, fun | 3 => 3 | 46 => 225 | n => n, fun | n => n⟩
theorem Tryz.lays317 : Go.Proofs.Lays.n317 Tryz.prog Tryz.lays317_ren := {
 mixed := by kernel_rfl
 f317 := Tryz.func183.trans (congrArg some (by kernel_rfl))
 t3 := Tryz.underlying3
 a3 := Tryz.isAgg3
 z3 := Tryz.sizeOf3
 v3 := Tryz.zeroValue3
 t46 := Tryz.underlying225
 a46 := Tryz.isAgg225
 z46 := Tryz.sizeOf225
 v46 := Tryz.zeroValue225 }
open Go.Lib in
theorem Tryz.internal_strconv_log10Pow2 (x : Nat) (h : x ≤ 64) (w : World) :
  Calls Tryz.prog 183 #[.int .i64 x] w fun e w' => e = .returned (.int .i64 (Lib.l10 x)) ∧ w' = w := Any.internal_strconv_log10Pow2 Tryz.lays317 x h w
def Tryz.lays318_ren : Go.Shelf.Ren := ⟨fun | 318 => 185 | n => n, fun | 3 => 3 | 4 => 4 | n => n, fun | n => n⟩
theorem Tryz.lays318 : Go.Proofs.Lays.n318 Tryz.prog Tryz.lays318_ren := {
 mixed := by kernel_rfl
 f318 := Tryz.func185.trans (congrArg some (by kernel_rfl))
 t3 := Tryz.underlying3
 a3 := Tryz.isAgg3
 z3 := Tryz.sizeOf3
 v3 := Tryz.zeroValue3
 t4 := Tryz.underlying4
 a4 := Tryz.isAgg4
 z4 := Tryz.sizeOf4
 v4 := Tryz.zeroValue4 }
open Go.Lib in
theorem Tryz.internal_strconv_bool2_int (b : Bool) (w : World) :
  Calls Tryz.prog 185 #[.bool b] w fun e w' => e = .returned (.int .i64 (if b then 1 else 0)) ∧ w' = w := Any.internal_strconv_bool2_int Tryz.lays318 b w
def Tryz.lays283_ren : Go.Shelf.Ren := ⟨fun | 283 => 176 | n => n, fun | 3 => 3 | 9 => 9 | 4 => 4 | n => n, fun | n => n⟩
theorem Tryz.lays283 : Go.Proofs.Lays.n283 Tryz.prog Tryz.lays283_ren := {
 mixed := by kernel_rfl
 f283 := Tryz.func176.trans (congrArg some (by kernel_rfl))
 t3 := Tryz.underlying3
 a3 := Tryz.isAgg3
 z3 := Tryz.sizeOf3
 v3 := Tryz.zeroValue3
 t4 := Tryz.underlying4
 a4 := Tryz.isAgg4
 z4 := Tryz.sizeOf4
 v4 := Tryz.zeroValue4
 t9 := Tryz.underlying9
 a9 := Tryz.isAgg9
 z9 := Tryz.sizeOf9
 v9 := Tryz.zeroValue9 }
open Go.Lib in
theorem Tryz.internal_strconv_small (i : Nat) (h : i < 100) (w : World) :
  Calls Tryz.prog 176 #[.int .i64 i] w fun e w' => e = .returned (.string ⟨(Lib.decDigits i).toArray⟩) ∧ w' = w := Any.internal_strconv_small Tryz.lays283 i h w
def Tryz.laysM284_ren : Go.Shelf.Ren := ⟨fun | 284 => 177 | 129 => 184 | 317 => 183 | 318 => 185 | n => n, fun | 53 => 154 | 3 => 3 | 212 => 268 | 0 => 0 | 4 => 4 | 46 => 225 | 5 => 5 | 9 => 9 | n => n, fun | 17 => 6 | n => n⟩
theorem Tryz.laysM284 : Go.Proofs.LaysM.n284 Tryz.prog Tryz.laysM284_ren := {
 mixed := by kernel_rfl
 f129 := Tryz.func184.trans (congrArg some (by kernel_rfl))
 f284 := Tryz.func177.trans (congrArg some (by kernel_rfl))
 f317 := Tryz.func183.trans (congrArg some (by kernel_rfl))
 f318 := Tryz.func185.trans (congrArg some (by kernel_rfl))
 t0 := Tryz.underlying0
 a0 := Tryz.isAgg0
 z0 := Tryz.sizeOf0
 v0 := Tryz.zeroValue0
 t3 := Tryz.underlying3
 a3 := Tryz.isAgg3
 z3 := Tryz.sizeOf3
 v3 := Tryz.zeroValue3
 t4 := Tryz.underlying4
 a4 := Tryz.isAgg4
 z4 := Tryz.sizeOf4
 v4 := Tryz.zeroValue4
 t5 := Tryz.underlying5
 a5 := Tryz.isAgg5
 z5 := Tryz.sizeOf5
 v5 := Tryz.zeroValue5
 t9 := Tryz.underlying9
 a9 := Tryz.isAgg9
 z9 := Tryz.sizeOf9
 v9 := Tryz.zeroValue9
 t46 := Tryz.underlying225
 a46 := Tryz.isAgg225
 z46 := Tryz.sizeOf225
 v46 := Tryz.zeroValue225
 t53 := Tryz.underlying154
 a53 := Tryz.isAgg154
 z53 := Tryz.sizeOf154
 v53 := Tryz.zeroValue154
 t212 := Tryz.underlying268
 a212 := Tryz.isAgg268
 z212 := Tryz.sizeOf268
 v212 := Tryz.zeroValue268
 g17 := by kernel_rfl
 i0 := by kernel_rfl
 i3 := by kernel_rfl
 i4 := by kernel_rfl
 i5 := by kernel_rfl
 i9 := by kernel_rfl
 i46 := by kernel_rfl
 i53 := by kernel_rfl
 i212 := by kernel_rfl
 m17 := by kernel_rfl }
open Go.Lib in
theorem Tryz.internal_strconv_numDigits (u : Nat) (h1 : 1 ≤ u) (h2 : u < 18446744073709551616) (w : World) (htab : Lib.TabIs Tryz.prog w "internal/strconv.uint64pow10" .u64 Lib.pow10Tab) :
  Calls Tryz.prog 177 #[.int .u64 u] w fun e w' => e = .returned (.int .i64 (Lib.nDigits u)) ∧ w' = w := Any.internal_strconv_numDigits Tryz.laysM284 u h1 h2 w htab
def Tryz.lays199_ren : Go.Shelf.Ren := ⟨fun | 199 => 75 | 261 => 103 | 311 => 128 | 312 => 129 | n => n, fun | 21 => 21 | 4 => 4 | 51 => 169 | 141 => 171 | 0 => 0 | 196 => 204 | 193 => 201 | 3 => 3 | 198 => 207 | 49 => 205 | 194 => 202 | 201 => 210 | 226 => 224 | 46 => 225 | 227 => 226 | n => n, fun | 6 => 1 | n => n⟩
theorem Tryz.lays199 : Go.Proofs.Lays.n199 Tryz.prog Tryz.lays199_ren := {
 mixed := by kernel_rfl
 f199 := Tryz.func75.trans (congrArg some (by kernel_rfl))
 f261 := Tryz.func103.trans (congrArg some (by kernel_rfl))
 f311 := Tryz.func128.trans (congrArg some (by kernel_rfl))
 f312 := Tryz.func129.trans (congrArg some (by kernel_rfl))
 t0 := Tryz.underlying0
 a0 := Tryz.isAgg0
 z0 := Tryz.sizeOf0
 v0 := Tryz.zeroValue0
 t3 := Tryz.underlying3
 a3 := Tryz.isAgg3
 z3 := Tryz.sizeOf3
 v3 := Tryz.zeroValue3
 t4 := Tryz.underlying4
 a4 := Tryz.isAgg4
 z4 := Tryz.sizeOf4
 v4 := Tryz.zeroValue4
 t21 := Tryz.underlying21
 a21 := Tryz.isAgg21
 z21 := Tryz.sizeOf21
 v21 := Tryz.zeroValue21
 t46 := Tryz.underlying225
 a46 := Tryz.isAgg225
 z46 := Tryz.sizeOf225
 v46 := Tryz.zeroValue225
 t49 := Tryz.underlying205
 a49 := Tryz.isAgg205
 z49 := Tryz.sizeOf205
 v49 := Tryz.zeroValue205
 t51 := Tryz.underlying169
 a51 := Tryz.isAgg169
 z51 := Tryz.sizeOf169
 v51 := Tryz.zeroValue169
 t141 := Tryz.underlying171
 a141 := Tryz.isAgg171
 z141 := Tryz.sizeOf171
 v141 := Tryz.zeroValue171
 t193 := Tryz.underlying201
 a193 := Tryz.isAgg201
 z193 := Tryz.sizeOf201
 v193 := Tryz.zeroValue201
 t194 := Tryz.underlying202
 a194 := Tryz.isAgg202
 z194 := Tryz.sizeOf202
 v194 := Tryz.zeroValue202
 t196 := Tryz.underlying204
 a196 := Tryz.isAgg204
 z196 := Tryz.sizeOf204
 v196 := Tryz.zeroValue204
 t198 := Tryz.underlying207
 a198 := Tryz.isAgg207
 z198 := Tryz.sizeOf207
 v198 := Tryz.zeroValue207
 t201 := Tryz.underlying210
 a201 := Tryz.isAgg210
 z201 := Tryz.sizeOf210
 v201 := Tryz.zeroValue210
 t226 := Tryz.underlying224
 a226 := Tryz.isAgg224
 z226 := Tryz.sizeOf224
 v226 := Tryz.zeroValue224
 t227 := Tryz.underlying226
 a227 := Tryz.isAgg226
 z227 := Tryz.sizeOf226
 v227 := Tryz.zeroValue226
 g6 := by kernel_rfl }
open Go.RowKit Go.Lib in
theorem Tryz.unicode_IsSpace (r : Int) (w : World) (h0 : 0 ≤ r) (h : r ≤ 255) :
  Calls Tryz.prog 75 #[.int .i32 r] w fun e w' => e = .returned (.bool (Lib.isSpaceL r)) ∧ w' = w := Any.unicode_IsSpace Tryz.lays199 r w h0 h
def Tryz.lays311_ren : Go.Shelf.Ren := ⟨fun | 311 => 128 | n => n, fun | 193 => 201 | 49 => 205 | 4 => 4 | 3 => 3 | 0 => 0 | 226 => 224 | 198 => 207 | 46 => 225 | n => n, fun | n => n⟩
theorem Tryz.lays311 : Go.Proofs.Lays.n311 Tryz.prog Tryz.lays311_ren := {
 mixed := by kernel_rfl
 f311 := Tryz.func128.trans (congrArg some (by kernel_rfl))
 t0 := Tryz.underlying0
 a0 := Tryz.isAgg0
 z0 := Tryz.sizeOf0
 v0 := Tryz.zeroValue0
 t3 := Tryz.underlying3
 a3 := Tryz.isAgg3
 z3 := Tryz.sizeOf3
 v3 := Tryz.zeroValue3
 t4 := Tryz.underlying4
 a4 := Tryz.isAgg4
 z4 := Tryz.sizeOf4
 v4 := Tryz.zeroValue4
 t46 := Tryz.underlying225
 a46 := Tryz.isAgg225
 z46 := Tryz.sizeOf225
 v46 := Tryz.zeroValue225
 t49 := Tryz.underlying205
 a49 := Tryz.isAgg205
 z49 := Tryz.sizeOf205
 v49 := Tryz.zeroValue205
 t193 := Tryz.underlying201
 a193 := Tryz.isAgg201
 z193 := Tryz.sizeOf201
 v193 := Tryz.zeroValue201
 t198 := Tryz.underlying207
 a198 := Tryz.isAgg207
 z198 := Tryz.sizeOf207
 v198 := Tryz.zeroValue207
 t226 := Tryz.underlying224
 a226 := Tryz.isAgg224
 z226 := Tryz.sizeOf224
 v226 := Tryz.zeroValue224 }
open Go.RowKit Go.Lib in
theorem Tryz.unicode_is16_white (R oR : Nat) (z : Nat) (w : World) (hz : z < 65536) (hz0 : 255 < z) (c6 : w.cell? ⟨R, oR + 6, none⟩ = some (.int .u16 160)) (c7 : w.cell? ⟨R, oR + 7, none⟩ = some (.int .u16 5760)) (c8 : w.cell? ⟨R, oR + 8, none⟩ = some (.int .u16 5600)) (c9 : w.cell? ⟨R, oR + 9, none⟩ = some (.int .u16 8192)) (c10 : w.cell? ⟨R, oR + 10, none⟩ = some (.int .u16 8202)) (c11 : w.cell? ⟨R, oR + 11, none⟩ = some (.int .u16 1)) (c12 : w.cell? ⟨R, oR + 12, none⟩ = some (.int .u16 8232)) (c13 : w.cell? ⟨R, oR + 13, none⟩ = some (.int .u16 8233)) (c14 : w.cell? ⟨R, oR + 14, none⟩ = some (.int .u16 1)) (c15 : w.cell? ⟨R, oR + 15, none⟩ = some (.int .u16 8239)) (c16 : w.cell? ⟨R, oR + 16, none⟩ = some (.int .u16 8287)) (c17 : w.cell? ⟨R, oR + 17, none⟩ = some (.int .u16 48)) (c18 : w.cell? ⟨R, oR + 18, none⟩ = some (.int .u16 12288)) (c19 : w.cell? ⟨R, oR + 19, none⟩ = some (.int .u16 12288)) (c20 : w.cell? ⟨R, oR + 20, none⟩ = some (.int .u16 1)) :
  Calls Tryz.prog 128 #[.slice (some ⟨R, oR + 6, none⟩) 5 5, .int .u16 z] w fun e w' => e = .returned (.bool (Lib.isSpaceR z)) ∧ Below w.heap.size w w' := Any.unicode_is16_white Tryz.lays311 R oR z w hz hz0 c6 c7 c8 c9 c10 c11 c12 c13 c14 c15 c16 c17 c18 c19 c20
def Tryz.lays261_ren : Go.Shelf.Ren := ⟨fun | 261 => 103 | 311 => 128 | 312 => 129 | n => n, fun | 141 => 171 | 21 => 21 | 4 => 4 | 0 => 0 | 196 => 204 | 193 => 201 | 3 => 3 | 51 => 169 | 198 => 207 | 49 => 205 | 194 => 202 | 201 => 210 | 226 => 224 | 46 => 225 | 227 => 226 | n => n, fun | n => n⟩
theorem Tryz.lays261 : Go.Proofs.Lays.n261 Tryz.prog Tryz.lays261_ren := {
 mixed := by kernel_rfl
 f261 := Tryz.func103.trans (congrArg some (by kernel_rfl))
 f311 := Tryz.func128.trans (congrArg some (by kernel_rfl))
 f312 := Tryz.func129.trans (congrArg some (by kernel_rfl))
 t0 := Tryz.underlying0
 a0 := Tryz.isAgg0
 z0 := Tryz.sizeOf0
 v0 := Tryz.zeroValue0
 t3 := Tryz.underlying3
 a3 := Tryz.isAgg3
 z3 := Tryz.sizeOf3
 v3 := Tryz.zeroValue3
 t4 := Tryz.underlying4
 a4 := Tryz.isAgg4
 z4 := Tryz.sizeOf4
 v4 := Tryz.zeroValue4
 t21 := Tryz.underlying21
 a21 := Tryz.isAgg21
 z21 := Tryz.sizeOf21
 v21 := Tryz.zeroValue21
 t46 := Tryz.underlying225
 a46 := Tryz.isAgg225
 z46 := Tryz.sizeOf225
 v46 := Tryz.zeroValue225
 t49 := Tryz.underlying205
 a49 := Tryz.isAgg205
 z49 := Tryz.sizeOf205
 v49 := Tryz.zeroValue205
 t51 := Tryz.underlying169
 a51 := Tryz.isAgg169
 z51 := Tryz.sizeOf169
 v51 := Tryz.zeroValue169
 t141 := Tryz.underlying171
 a141 := Tryz.isAgg171
 z141 := Tryz.sizeOf171
 v141 := Tryz.zeroValue171
 t193 := Tryz.underlying201
 a193 := Tryz.isAgg201
 z193 := Tryz.sizeOf201
 v193 := Tryz.zeroValue201
 t194 := Tryz.underlying202
 a194 := Tryz.isAgg202
 z194 := Tryz.sizeOf202
 v194 := Tryz.zeroValue202
 t196 := Tryz.underlying204
 a196 := Tryz.isAgg204
 z196 := Tryz.sizeOf204
 v196 := Tryz.zeroValue204
 t198 := Tryz.underlying207
 a198 := Tryz.isAgg207
 z198 := Tryz.sizeOf207
 v198 := Tryz.zeroValue207
 t201 := Tryz.underlying210
 a201 := Tryz.isAgg210
 z201 := Tryz.sizeOf210
 v201 := Tryz.zeroValue210
 t226 := Tryz.underlying224
 a226 := Tryz.isAgg224
 z226 := Tryz.sizeOf224
 v226 := Tryz.zeroValue224
 t227 := Tryz.underlying226
 a227 := Tryz.isAgg226
 z227 := Tryz.sizeOf226
 v227 := Tryz.zeroValue226 }
open Go.RowKit Go.Lib in
theorem Tryz.unicode_isExcludingLatin_white (T oT R oR : Nat) (r : Int) (w : World) (hlo : -2147483648 ≤ r) (hhi : r ≤ 2147483647) (hr : r < 0 ∨ 255 < r) (h2 : w.cell? ⟨T, oT, none⟩ = some (.slice (some ⟨R, oR, none⟩) 7 7)) (h3 : w.cell? ⟨T, oT + 1, none⟩ = some (.slice none 0 0)) (h4 : w.cell? ⟨T, oT + 2, none⟩ = some (.int .i64 2)) (h5 : ∀ i, i < 21 → w.cell? ⟨R, oR + i, none⟩ = some (.int .u16 (whiteT.getD i 0))) :
  Calls Tryz.prog 103 #[.pointer (some ⟨T, oT, none⟩), .int .i32 r] w fun e w' => e = .returned (.bool (Lib.isSpaceZ r)) ∧ Below w.heap.size w w' := Any.unicode_isExcludingLatin_white Tryz.lays261 T oT R oR r w hlo hhi hr h2 h3 h4 h5
open Go.RowKit Go.Lib in
theorem Tryz.unicode_IsSpace_any (r : Int) (w : World) (hlo : -2147483648 ≤ r) (hhi : r ≤ 2147483647) (hW : Lib.WhiteTab 1 w) :
  Calls Tryz.prog 75 #[.int .i32 r] w fun e w' => e = .returned (.bool (Lib.isSpaceZ r)) ∧ Below w.heap.size w w' := Any.unicode_IsSpace_any Tryz.lays199 r w hlo hhi hW
open Go.RowKit Go.Lib in
theorem Tryz.unicode_is16_any (T : Array Rg) (R oR cap : Nat) (z : Nat) (w : World) (hz : z < 65536) (hT : RgTab .u16 R oR T w) (hok : RgOk 65536 T) (hn : T.size ≤ 1000000000) :
  Calls Tryz.prog 128 #[.slice (some ⟨R, oR, none⟩) T.size cap, .int .u16 z] w fun e w' => e = .returned (.bool (is16Go T z)) ∧ ∃ q, w' = w.drewN q := Any.unicode_is16_any Tryz.lays311 T R oR cap z w hz hT hok hn
def Tryz.lays312_ren : Go.Shelf.Ren := ⟨fun | 312 => 129 | n => n, fun | 194 => 202 | 51 => 169 | 4 => 4 | 3 => 3 | 0 => 0 | 227 => 226 | 201 => 210 | 46 => 225 | n => n, fun | n => n⟩
theorem Tryz.lays312 : Go.Proofs.Lays.n312 Tryz.prog Tryz.lays312_ren := {
 mixed := by kernel_rfl
 f312 := Tryz.func129.trans (congrArg some (by kernel_rfl))
 t0 := Tryz.underlying0
 a0 := Tryz.isAgg0
 z0 := Tryz.sizeOf0
 v0 := Tryz.zeroValue0
 t3 := Tryz.underlying3
 a3 := Tryz.isAgg3
 z3 := Tryz.sizeOf3
 v3 := Tryz.zeroValue3
 t4 := Tryz.underlying4
 a4 := Tryz.isAgg4
 z4 := Tryz.sizeOf4
 v4 := Tryz.zeroValue4
 t46 := Tryz.underlying225
 a46 := Tryz.isAgg225
 z46 := Tryz.sizeOf225
 v46 := Tryz.zeroValue225
 t51 := Tryz.underlying169
 a51 := Tryz.isAgg169
 z51 := Tryz.sizeOf169
 v51 := Tryz.zeroValue169
 t194 := Tryz.underlying202
 a194 := Tryz.isAgg202
 z194 := Tryz.sizeOf202
 v194 := Tryz.zeroValue202
 t201 := Tryz.underlying210
 a201 := Tryz.isAgg210
 z201 := Tryz.sizeOf210
 v201 := Tryz.zeroValue210
 t227 := Tryz.underlying226
 a227 := Tryz.isAgg226
 z227 := Tryz.sizeOf226
 v227 := Tryz.zeroValue226 }
open Go.RowKit Go.Lib in
theorem Tryz.unicode_is32_any (T : Array Rg) (R oR cap : Nat) (z : Nat) (w : World) (hz : z < 4294967296) (hT : RgTab .u32 R oR T w) (hok : RgOk 4294967296 T) (hn : T.size ≤ 1000000000) :
  Calls Tryz.prog 129 #[.slice (some ⟨R, oR, none⟩) T.size cap, .int .u32 z] w fun e w' => e = .returned (.bool (is32Go T z)) ∧ Below w.heap.size w w' := Any.unicode_is32_any Tryz.lays312 T R oR cap z w hz hT hok hn
open Go.RowKit Go.Lib in
theorem Tryz.unicode_isExcludingLatin_any (Tb oT : Nat) (T : RTab) (r : Int) (w : World) (hlo : -2147483648 ≤ r) (hhi : r ≤ 2147483647) (hA : RTabAt Tb oT T w) (hok : RTabOk T) :
  Calls Tryz.prog 103 #[.pointer (some ⟨Tb, oT, none⟩), .int .i32 r] w fun e w' => e = .returned (.bool (exclGo T r)) ∧ Below w.heap.size w w' := Any.unicode_isExcludingLatin_any Tryz.lays261 Tb oT T r w hlo hhi hA hok
end Go.Proofs
namespace Go.Proofs.YtenjollhlgjjdaaGreatDoor
open Go.RowKit
theorem below_only {w w' : World} (h : Below w.heap.size w w') : Only (fun _ => False) w w' := ⟨h.os, h.tape, h.output, h.size, fun k hk _ => h.block k hk⟩
theorem blk_cells {w : World} {B : Nat} {c : Array Value} {t : TypeId} (h : w.heap[B]? = some (.cells c t)) (j : Nat) : w.cell? ⟨B, j, none⟩ = c[j]? := by
 simp [World.cell?, h]
theorem blk_froz {w : World} {B : Nat} {c : Array Value} {t : TypeId} (h : w.heap[B]? = some (.cells c t)) (j : Nat) : w.frozen? ⟨B, j, none⟩ = false := by
 simp [World.frozen?, h]
structure Tok where
 k : Int
 t : ByteArray
 n : Int
 a : Int
def Tok.v (x : Tok) : Value := .agg #[.int .i64 x.k, .string x.t, .int .i64 x.n, .int .i64 x.a]
theorem set4 {w : World} {B : Nat} {c : Array Value} {t : TypeId} (h : w.heap[B]? = some (.cells c t)) (hc : c.size = 4) (x y z r : Value) :
  ((((w.setCell ⟨B, 0, none⟩ x).setCell ⟨B, 1, none⟩ y).setCell ⟨B, 2, none⟩ z).setCell ⟨B, 3, none⟩ r).cell? ⟨B, 0, none⟩ = some x ∧ ((((w.setCell ⟨B, 0, none⟩ x).setCell ⟨B, 1, none⟩ y).setCell ⟨B, 2, none⟩ z).setCell ⟨B, 3, none⟩ r).cell? ⟨B, 1, none⟩ = some y ∧ ((((w.setCell ⟨B, 0, none⟩ x).setCell ⟨B, 1, none⟩ y).setCell ⟨B, 2, none⟩ z).setCell ⟨B, 3, none⟩ r).cell? ⟨B, 2, none⟩ = some z ∧ ((((w.setCell ⟨B, 0, none⟩ x).setCell ⟨B, 1, none⟩ y).setCell ⟨B, 2, none⟩ z).setCell ⟨B, 3, none⟩ r).cell? ⟨B, 3, none⟩ = some r := by
 have c0 : (w.cell? ⟨B, 0, none⟩).isSome = true := by rw [blk_cells h]; simp [hc]
 have c1 : (w.cell? ⟨B, 1, none⟩).isSome = true := by rw [blk_cells h]; simp [hc]
 have c2 : (w.cell? ⟨B, 2, none⟩).isSome = true := by rw [blk_cells h]; simp [hc]
 have c3 : (w.cell? ⟨B, 3, none⟩).isSome = true := by rw [blk_cells h]; simp [hc]
 have ne : ∀ (W : World) (i j : Nat) (v : Value), i ≠ j → (W.setCell ⟨B, i, none⟩ v).cell? ⟨B, j, none⟩ = W.cell? ⟨B, j, none⟩ := fun W i j v g => by apply World.cell?_setCell_other; intro e; exact g (by injection e)
 refine ⟨?_, ?_, ?_, ?_⟩
 ·rw [ne _ 3 0 _ (by omega), ne _ 2 0 _ (by omega), ne _ 1 0 _ (by omega)]
  exact World.cell?_setCell_same' _ _ _ c0
 ·rw [ne _ 3 1 _ (by omega), ne _ 2 1 _ (by omega)]
  exact World.cell?_setCell_same' _ _ _ (by rw [ne _ 0 1 _ (by omega)]; exact c1)
 ·rw [ne _ 3 2 _ (by omega)]
  exact World.cell?_setCell_same' _ _ _ (by rw [ne _ 1 2 _ (by omega), ne _ 0 2 _ (by omega)]; exact c2)
 ·exact World.cell?_setCell_same' _ _ _ (by rw [ne _ 2 3 _ (by omega), ne _ 1 3 _ (by omega), ne _ 0 3 _ (by omega)]; exact c3)
end Go.Proofs.YtenjollhlgjjdaaGreatDoor
namespace Go.Proofs.YtenjollhlgjjdaaGreatDoor
open Go.RowKit Go.Lib
theorem byte_info : ∃ i, Tryz.prog.info? 5 = some i ∧ i.zero = some (.int .u8 0) ∧ i.size = 1 ∧ i.bytes = 1 := ⟨_, rfl, rfl, rfl, rfl⟩
theorem check_used (b : Nat) (w : World) (h0 : w.cell? ⟨b, 0, none⟩ = some (.pointer (some ⟨b, 0, none⟩))) :
  Calls Tryz.prog 141 #[.pointer (some ⟨b, 0, none⟩)] w fun e w' => e = .returned (.tuple #[]) ∧ w' = w := by
 obtain ⟨j, hj⟩ : ∃ j, Tryz.prog.info? 183 = some j := ⟨_, rfl⟩
 go_enter Tryz.func141, Tryz.ntmps141
 go_wp2
 rw [run_neq_ptr_same w _ Tryz.underlying180 hj]
 go_wp2
 go_end0
 exact ⟨rfl, rfl⟩
theorem check_fresh (b : Nat) (w : World) (h0 : w.cell? ⟨b, 0, none⟩ = some (.pointer none)) (hsh : w.shape? b = some (183, 2)) (hfz : w.frozen? ⟨b, 0, none⟩ = false) :
  Calls Tryz.prog 141 #[.pointer (some ⟨b, 0, none⟩)] w fun e w' => e = .returned (.tuple #[]) ∧ w' = w.setCell ⟨b, 0, none⟩ (.pointer (some ⟨b, 0, none⟩)) := by
 obtain ⟨j, hj, hjs⟩ : ∃ j, Tryz.prog.info? 183 = some j ∧ j.size = 2 := ⟨_, rfl, rfl⟩
 have lies : liesAt Tryz.prog Tryz.prog.depth 183 (2 / Tryz.prog.cellsOf 183) 0 183 1 = true := by kernel_rfl
 go_enter Tryz.func141, Tryz.ntmps141
 go_wp2
 rw [run_to_unsafe w ⟨b, 0, none⟩ Tryz.underlying180 Tryz.underlying232 hj (by rw [hjs]; decide) hsh (Nat.zero_lt_succ 1)]
 simp only [Result.andThen]
 rw [Oper.upon_value]
 go_wp2
 rw [run_callFunc_extern Tryz.func147 (by kernel_rfl) (by kernel_rfl) (by kernel_rfl) (e := Extern.AbiNoEscape.same) (by kernel_rfl)]
 rw [run_noEscape]
 simp only [Result.andThen]
 rw [Oper.upon_value]
 go_wp2
 rw [run_from_unsafe w ⟨b, 0, none⟩ Tryz.underlying232 Tryz.underlying180 hj hsh lies]
 simp only [Result.andThen]
 rw [Oper.upon_value]
 go_wp2
 go_end0
 exact ⟨rfl, rfl⟩
def Bu (B b : Nat) (bs : List Value) (w : World) : Prop := IsBuilderF 183 5 B b bs w
def Kept (B b : Nat) (w w' : World) : Prop := Below B w w' ∧ OthersKept 5 (some b) w w'
theorem check_any (B b : Nat) (bs : List Value) (w : World) (h : Bu B b bs w) :
  Calls Tryz.prog 141 #[.pointer (some ⟨b, 0, none⟩)] w fun e w' => e = .returned (.tuple #[]) ∧ BuilderAtF 183 5 B b (.pointer (some ⟨b, 0, none⟩)) bs w' ∧ Kept B b w w' := by
 rcases h with h | h
 ·refine (check_fresh b w h.cell0 h.shape h.frozen0).mono ?_
  rintro e w' ⟨rfl, rfl⟩
  exact ⟨rfl, h.used _, (Below.refl B w).setCell (p := ⟨b, 0, none⟩) h.1 _, (OthersKept.refl _ _ w).setCell ⟨b, 0, none⟩ rfl _⟩
 ·refine (check_used b w h.cell0).mono ?_
  rintro e w' ⟨rfl, rfl⟩
  exact ⟨rfl, h, Below.refl B _, OthersKept.refl _ _ _⟩
theorem rune_two (B : Nat) (v : Value) (n : Nat) (xs : List Value) (r : Int) (h0 : 128 ≤ r) (h1 : r ≤ 2047) (w : World) (hown : w.ownsRowF B 5 1 v n xs) (hlen : n + 4 ≤ 140737488355328) (hBw : B ≤ w.heap.size) :
  Calls Tryz.prog 188 #[v, .int .i32 r] w fun e w' => ∃ v', e = .returned v' ∧ w'.ownsRowF B 5 1 v' (n + 2) (xs ++ [.int .u8 (192 + r / 64), .int .u8 (128 + r % 64)]) ∧ ∃ o, (w.alloc o).grownBy w' v.ownBlock := by
 obtain ⟨i0, hi, hz0, hz1, hz2⟩ := byte_info
 go_enter Tryz.func188, Tryz.ntmps188
 go_wp2_with (at_builtin; refine wpList_append_ownF _ rfl _ _ 181 rfl B 5 i0 (.int .u8 0) 1 1 Tryz.underlying181 hi hz0 hz1 hz2 rfl (by decide) _ _ _ rfl (hown.alloc _) ⟨w.heap.size, 0, none⟩ 2 2 [.int .u8 (192 + r / 64), .int .u8 (128 + r % 64)] rfl rfl ?c1 ?c2 ?c3 ?c4 ?c5 ?_)
 case c1 =>
  intro j u hj
  rcases j with _ | _ | _ | _ | j <;> simp at hj <;> subst hj <;> simp [Addr.add]
 case c2 =>
  intro u hu
  simp only [List.mem_cons, List.not_mem_nil, or_false] at hu
  rcases hu with rfl | rfl <;> rfl
 case c3 => unfold maxLen; omega
 case c4 => omega
 case c5 => simp; omega
 intro v' w2 hown' hgrow _
 go_wp2
 go_ret
 exact ⟨_, rfl, hown', _, hgrow⟩
theorem rune_lo (B : Nat) (v : Value) (n : Nat) (xs : List Value) (r : Int) (h0 : 2048 ≤ r) (h1 : r < 55296) (w : World) (hown : w.ownsRowF B 5 1 v n xs) (hlen : n + 4 ≤ 140737488355328) (hBw : B ≤ w.heap.size) :
  Calls Tryz.prog 188 #[v, .int .i32 r] w fun e w' => ∃ v', e = .returned v' ∧ w'.ownsRowF B 5 1 v' (n + 3) (xs ++ [.int .u8 (224 + r / 4096), .int .u8 (128 + r / 64 % 64), .int .u8 (128 + r % 64)]) ∧ ∃ o, (w.alloc o).grownBy w' v.ownBlock := by
 obtain ⟨i0, hi, hz0, hz1, hz2⟩ := byte_info
 go_enter Tryz.func188, Tryz.ntmps188
 go_wp2_with (at_builtin; refine wpList_append_ownF _ rfl _ _ 181 rfl B 5 i0 (.int .u8 0) 1 1 Tryz.underlying181 hi hz0 hz1 hz2 rfl (by decide) _ _ _ rfl (hown.alloc _) ⟨w.heap.size, 0, none⟩ 3 3 [.int .u8 (224 + r / 4096), .int .u8 (128 + r / 64 % 64), .int .u8 (128 + r % 64)] rfl rfl ?c1 ?c2 ?c3 ?c4 ?c5 ?_)
 case c1 =>
  intro j u hj
  rcases j with _ | _ | _ | _ | j <;> simp at hj <;> subst hj <;> simp [Addr.add]
 case c2 =>
  intro u hu
  simp only [List.mem_cons, List.not_mem_nil, or_false] at hu
  rcases hu with rfl | rfl | rfl <;> rfl
 case c3 => unfold maxLen; omega
 case c4 => omega
 case c5 => simp; omega
 intro v' w2 hown' hgrow _
 go_wp2
 go_ret
 exact ⟨_, rfl, hown', _, hgrow⟩
theorem rune_hi (B : Nat) (v : Value) (n : Nat) (xs : List Value) (r : Int) (h0 : 57343 < r) (h1 : r ≤ 65535) (w : World) (hown : w.ownsRowF B 5 1 v n xs) (hlen : n + 4 ≤ 140737488355328) (hBw : B ≤ w.heap.size) :
  Calls Tryz.prog 188 #[v, .int .i32 r] w fun e w' => ∃ v', e = .returned v' ∧ w'.ownsRowF B 5 1 v' (n + 3) (xs ++ [.int .u8 (224 + r / 4096), .int .u8 (128 + r / 64 % 64), .int .u8 (128 + r % 64)]) ∧ ∃ o, (w.alloc o).grownBy w' v.ownBlock := by
 obtain ⟨i0, hi, hz0, hz1, hz2⟩ := byte_info
 go_enter Tryz.func188, Tryz.ntmps188
 go_wp2_with (at_builtin; refine wpList_append_ownF _ rfl _ _ 181 rfl B 5 i0 (.int .u8 0) 1 1 Tryz.underlying181 hi hz0 hz1 hz2 rfl (by decide) _ _ _ rfl (hown.alloc _) ⟨w.heap.size, 0, none⟩ 3 3 [.int .u8 (224 + r / 4096), .int .u8 (128 + r / 64 % 64), .int .u8 (128 + r % 64)] rfl rfl ?c1 ?c2 ?c3 ?c4 ?c5 ?_)
 case c1 =>
  intro j u hj
  rcases j with _ | _ | _ | _ | j <;> simp at hj <;> subst hj <;> simp [Addr.add]
 case c2 =>
  intro u hu
  simp only [List.mem_cons, List.not_mem_nil, or_false] at hu
  rcases hu with rfl | rfl | rfl <;> rfl
 case c3 => unfold maxLen; omega
 case c4 => omega
 case c5 => simp; omega
 intro v' w2 hown' hgrow _
 go_wp2
 go_ret
 exact ⟨_, rfl, hown', _, hgrow⟩
theorem rune_four (B : Nat) (v : Value) (n : Nat) (xs : List Value) (r : Int) (h0 : 65536 ≤ r) (h1 : r ≤ 1114111) (w : World) (hown : w.ownsRowF B 5 1 v n xs) (hlen : n + 4 ≤ 140737488355328) (hBw : B ≤ w.heap.size) :
  Calls Tryz.prog 188 #[v, .int .i32 r] w fun e w' => ∃ v', e = .returned v' ∧ w'.ownsRowF B 5 1 v' (n + 4) (xs ++ [.int .u8 (240 + r / 262144), .int .u8 (128 + r / 4096 % 64), .int .u8 (128 + r / 64 % 64), .int .u8 (128 + r % 64)]) ∧ ∃ o, (w.alloc o).grownBy w' v.ownBlock := by
 obtain ⟨i0, hi, hz0, hz1, hz2⟩ := byte_info
 go_enter Tryz.func188, Tryz.ntmps188
 go_wp2_with (at_builtin; refine wpList_append_ownF _ rfl _ _ 181 rfl B 5 i0 (.int .u8 0) 1 1 Tryz.underlying181 hi hz0 hz1 hz2 rfl (by decide) _ _ _ rfl (hown.alloc _) ⟨w.heap.size, 0, none⟩ 4 4 [.int .u8 (240 + r / 262144), .int .u8 (128 + r / 4096 % 64), .int .u8 (128 + r / 64 % 64), .int .u8 (128 + r % 64)] rfl rfl ?c1 ?c2 ?c3 ?c4 ?c5 ?_)
 case c1 =>
  intro j u hj
  rcases j with _ | _ | _ | _ | j <;> simp at hj <;> subst hj <;> simp [Addr.add]
 case c2 =>
  intro u hu
  simp only [List.mem_cons, List.not_mem_nil, or_false] at hu
  rcases hu with rfl | rfl | rfl | rfl <;> rfl
 case c3 => unfold maxLen; omega
 case c4 => omega
 case c5 => simp; omega
 intro v' w2 hown' hgrow _
 go_wp2
 go_ret
 exact ⟨_, rfl, hown', _, hgrow⟩
def Vr (r : Nat) : Prop := r < 55296 ∨ (57343 < r ∧ r ≤ 1114111)
theorem appendRune_any (B : Nat) (v : Value) (n : Nat) (xs : List Value) (r : Nat) (hr : Vr r) (w : World) (hown : w.ownsRowF B 5 1 v n xs) (hlen : n + 4 ≤ 140737488355328) (hBw : B ≤ w.heap.size) :
  Calls Tryz.prog 181 #[v, .int .i32 (r : Int)] w fun e w' => ∃ v', e = .returned v' ∧ w'.ownsRowF B 5 1 v' (n + (runeCells r).length) (xs ++ runeCells r) ∧ ∃ o, (w.alloc o).grownBy w' v.ownBlock := by
 by_cases h1 : r ≤ 127
 ·have e : runeCells (r : Int) = [.int .u8 (r : Int)] := by rw [runeCells, encodeRuneZ_one (by omega) (by omega)]; rfl
  rw [e]
  obtain ⟨i0, hi, hz0, hz1, hz2⟩ := byte_info
  go_enter Tryz.func181, Tryz.ntmps181
  go_wp2_with (at_builtin; refine wpList_append_ownF _ rfl _ _ 181 rfl B 5 i0 (.int .u8 0) 1 1 Tryz.underlying181 hi hz0 hz1 hz2 rfl (by decide) _ _ _ rfl (hown.alloc _) ⟨w.heap.size, 0, none⟩ 1 1 [.int .u8 (r : Int)] rfl rfl ?c1 ?c2 ?c3 ?c4 ?c5 ?_)
  case c1 =>
   intro j u hj
   rcases j with _ | j <;> simp at hj <;> subst hj <;> simp [Addr.add]
  case c2 =>
   intro u hu
   simp only [List.mem_cons, List.not_mem_nil, or_false] at hu
   subst hu
   rfl
  case c3 => unfold maxLen; omega
  case c4 => omega
  case c5 => simp; omega
  intro v' w2 hown' hgrow _
  go_wp2
  go_ret
  exact ⟨_, rfl, hown', _, hgrow⟩
 ·have key : Hid (Calls Tryz.prog 188 #[v, .int .i32 (r : Int)] w fun e w' => ∃ v', e = .returned v' ∧ w'.ownsRowF B 5 1 v' (n + (runeCells r).length) (xs ++ runeCells r) ∧ ∃ o, (w.alloc o).grownBy w' v.ownBlock) := by
   show Calls _ _ _ _ _
   by_cases h2 : r ≤ 2047
   ·have e : runeCells (r : Int) = [.int .u8 (192 + r / 64), .int .u8 (128 + r % 64)] := by rw [runeCells, encodeRuneZ_two (by omega) (by omega)]; rfl
    rw [e]
    exact rune_two B v n xs r (by omega) (by omega) w hown hlen hBw
   ·by_cases h3 : r ≤ 65535
    ·have e : runeCells (r : Int) = [.int .u8 (224 + r / 4096), .int .u8 (128 + r / 64 % 64), .int .u8 (128 + r % 64)] := by rw [runeCells, encodeRuneZ_three (by unfold Vr at hr; omega)]; rfl
     rw [e]
     by_cases h4 : r < 55296
     ·exact rune_lo B v n xs r (by omega) (by omega) w hown hlen hBw
     ·exact rune_hi B v n xs r (by unfold Vr at hr; omega) (by omega) w hown hlen hBw
    ·have e : runeCells (r : Int) = [.int .u8 (240 + r / 262144), .int .u8 (128 + r / 4096 % 64), .int .u8 (128 + r / 64 % 64), .int .u8 (128 + r % 64)] := by rw [runeCells, encodeRuneZ_four (by omega) (by unfold Vr at hr; omega)]; rfl
     rw [e]
     exact rune_four B v n xs r (by omega) (by unfold Vr at hr; omega) w hown hlen hBw
  have hr2 : (r : Int) ≤ 1114111 := by unfold Vr at hr; omega
  have hr1 : ¬ (r : Int) ≤ 127 := by omega
  clear hr h1
  go_enter Tryz.func181, Tryz.ntmps181
  go_wp2_with fail
  refine (show Calls Tryz.prog 188 _ _ _ from key.out).mono ?_
  rintro e w2 ⟨v', rfl, g⟩
  go_wp2
  go_ret
  exact ⟨_, rfl, g⟩
theorem writeRune_any (B b : Nat) (bs : List Value) (r : Nat) (hr : Vr r) (w : World) (h : Bu B b bs w) (hlen : bs.length + 4 ≤ 140737488355328) (hBw : B ≤ w.heap.size) :
  Calls Tryz.prog 174 #[.pointer (some ⟨b, 0, none⟩), .int .i32 (r : Int)] w fun e w' => ∃ q, e = .returned (.tuple #[q, .nilIface]) ∧ Bu B b (bs ++ runeCells r) w' ∧ Kept B b w w' := by
 have hk4 := runeCells_le r
 go_enter Tryz.func174, Tryz.ntmps174
 go_wp2_with fail
 refine (show Calls Tryz.prog 141 _ _ _ from check_any B b bs _ h).mono ?_
 rintro e w1 ⟨rfl, h1, hb1, hk1⟩
 obtain ⟨hB, v, hbk, hown, hne⟩ := h1
 obtain ⟨ao, cap, rfl⟩ : ∃ ao cap, v = .slice ao bs.length cap := by
  rcases hown.2 with ⟨hv, h0⟩ | ⟨g, cap, cur, fz, hv, _⟩
  ·exact ⟨none, 0, by rw [hv, h0]⟩
  ·exact ⟨_, _, hv⟩
 have c1 : w1.cell? ⟨b, 1, none⟩ = some (.slice ao bs.length cap) := by rw [cell_of_heap hbk]; rfl
 have hs1 := hb1.size
 go_wp2_with fail
 refine (show Calls Tryz.prog 181 _ _ _ from appendRune_any B _ bs.length bs r hr _ hown hlen (by omega)).mono ?_
 rintro e w2 ⟨v', rfl, hown', o, hgrow⟩
 have hlt : b < w1.heap.size := (Array.getElem?_eq_some_iff.1 hbk).1
 have hb2 : w2.heap[b]? = some (.cells #[.pointer (some ⟨b, 0, none⟩), .slice ao bs.length cap] 183 (0, 0)) := by
  rw [hgrow.block b (by simp; omega) (fun e => hne e.symm), alloc_old w1 _ b hlt]
  exact hbk
 have d1 : w2.cell? ⟨b, 1, none⟩ = some (.slice ao bs.length cap) := by rw [cell_of_heap hb2]; rfl
 have f1 : w2.frozen? ⟨b, 1, none⟩ = false := frozen_of_heap hb2 1
 obtain ⟨g, cap', rfl⟩ : ∃ g cap', v' = .slice (some ⟨g, 0, none⟩) (bs.length + (runeCells r).length) cap' := by
  rcases hown'.2 with ⟨_, h0⟩ | ⟨g, cap', cur, fz, hv, _⟩
  ·omega
  ·exact ⟨g, cap', hv⟩
 go_wp2
 go_ret2
 refine ⟨_, rfl, .inr ?_, ?_, ((hk1.alloc _).grown hgrow (ownsRowF_kind (hown.alloc _))).setCell ⟨b, 1, none⟩ rfl _⟩
 ·exact BuilderAtF.put (T := 183) (e := 5) hB hb2 (bs' := bs ++ runeCells r) (by simpa using hown') (by decide)
 ·exact ((hb1.alloc (by omega) _).grown hgrow (by simp; omega) (fun k hk => (hown.lt k hk).1)).setCell (p := ⟨b, 1, none⟩) hB _
theorem writeString_any (B b : Nat) (bs : List Value) (s : ByteArray) (w : World) (h : Bu B b bs w) (hlen : bs.length + s.size ≤ 140737488355328) (hBw : B ≤ w.heap.size) :
  Calls Tryz.prog 116 #[.pointer (some ⟨b, 0, none⟩), .string s] w fun e w' => ∃ q, e = .returned (.tuple #[q, .nilIface]) ∧ Bu B b (bs ++ strCells s) w' ∧ Kept B b w w' := by
 obtain ⟨i0, hi, hz0, hz1, hz2⟩ := byte_info
 go_enter Tryz.func116, Tryz.ntmps116
 go_wp2_with fail
 refine (show Calls Tryz.prog 141 _ _ _ from check_any B b bs _ h).mono ?_
 rintro e w1 ⟨rfl, h1, hb1, hk1⟩
 obtain ⟨hB, v, hbk, hown, hne⟩ := h1
 have c1 : w1.cell? ⟨b, 1, none⟩ = some v := by rw [cell_of_heap hbk]; rfl
 have hs1 := hb1.size
 go_wp2_with (at_builtin; refine wpList_append_own_stringF _ rfl _ _ 181 9 rfl B 5 i0 Tryz.underlying181 Tryz.underlying9 hi hz0 hz1 hz2 _ _ _ rfl hown s rfl ?c3 ?c4 ?c5 ?_)
 case c3 => unfold maxLen; omega
 case c4 => omega
 case c5 => omega
 intro v' w2 hown' hgrow _
 have hlt : b < w1.heap.size := (Array.getElem?_eq_some_iff.1 hbk).1
 have hb2 : w2.heap[b]? = some (.cells #[.pointer (some ⟨b, 0, none⟩), v] 183 (0, 0)) := by
  rw [hgrow.block b hlt (fun e => hne e.symm)]
  exact hbk
 have d1 : w2.cell? ⟨b, 1, none⟩ = some v := by rw [cell_of_heap hb2]; rfl
 have f1 : w2.frozen? ⟨b, 1, none⟩ = false := frozen_of_heap hb2 1
 obtain ⟨ao, n', cap, rfl⟩ : ∃ ao n' cap, v' = .slice ao n' cap := by
  rcases hown'.2 with ⟨hv, _⟩ | ⟨g, cap, cur, fz, hv, _⟩
  ·exact ⟨_, _, _, hv⟩
  ·exact ⟨_, _, _, hv⟩
 go_wp2
 go_ret2
 refine ⟨_, rfl, .inr ?_, ?_, (hk1.grown hgrow (ownsRowF_kind hown)).setCell ⟨b, 1, none⟩ rfl _⟩
 ·exact BuilderAtF.put (T := 183) (e := 5) hB hb2 (bs' := bs ++ strCells s) (by simpa [strCells_length] using hown') (by decide)
 ·exact (hb1.grown hgrow (by omega) (fun k hk => (hown.lt k hk).1)).setCell (p := ⟨b, 1, none⟩) hB _
def WrU (B b : Nat) (bs : List Value) (bg : Bool) (w : World) : Prop := B ≤ b ∧ ∃ p v, w.heap[b]? = some (.cells #[p, v, .bool bg] 237) ∧ (p = .pointer none ∨ p = .pointer (some ⟨b, 0, none⟩)) ∧ w.ownsRowF B 5 1 v bs.length bs ∧ v.ownBlock ≠ some b
theorem wr_cell {w : World} {b : Nat} {c : Array Value} {T : TypeId} (h : w.heap[b]? = some (.cells c T)) (j : Nat) : w.cell? ⟨b, j, none⟩ = c[j]? := by
 simp [World.cell?, h]
theorem wr_froz {w : World} {b : Nat} {c : Array Value} {T : TypeId} (h : w.heap[b]? = some (.cells c T)) (j : Nat) : w.frozen? ⟨b, j, none⟩ = false := by
 simp [World.frozen?, h]
theorem wcheck_used (b : Nat) (w : World) (h0 : w.cell? ⟨b, 0, none⟩ = some (.pointer (some ⟨b, 0, none⟩))) :
  Calls Tryz.prog 141 #[.pointer (some ⟨b, 0, none⟩)] w fun e w' => e = .returned (.tuple #[]) ∧ w' = w := by
 obtain ⟨j, hj⟩ : ∃ j, Tryz.prog.info? 183 = some j := ⟨_, rfl⟩
 go_enter Tryz.func141, Tryz.ntmps141
 go_wp2
 rw [run_neq_ptr_same w _ Tryz.underlying180 hj]
 go_wp2
 go_end0
 exact ⟨rfl, rfl⟩
theorem wcheck_fresh (b : Nat) (w : World) (h0 : w.cell? ⟨b, 0, none⟩ = some (.pointer none)) (hsh : w.shape? b = some (237, 3)) (hfz : w.frozen? ⟨b, 0, none⟩ = false) :
  Calls Tryz.prog 141 #[.pointer (some ⟨b, 0, none⟩)] w fun e w' => e = .returned (.tuple #[]) ∧ w' = w.setCell ⟨b, 0, none⟩ (.pointer (some ⟨b, 0, none⟩)) := by
 obtain ⟨j, hj, hjs⟩ : ∃ j, Tryz.prog.info? 183 = some j ∧ j.size = 2 := ⟨_, rfl, rfl⟩
 have lies : liesAt Tryz.prog Tryz.prog.depth 237 (3 / Tryz.prog.cellsOf 237) 0 183 1 = true := by kernel_rfl
 go_enter Tryz.func141, Tryz.ntmps141
 go_wp2
 rw [run_to_unsafe w ⟨b, 0, none⟩ Tryz.underlying180 Tryz.underlying232 hj (by rw [hjs]; decide) hsh (Nat.zero_lt_succ 2)]
 simp only [Result.andThen]
 rw [Oper.upon_value]
 go_wp2
 rw [run_callFunc_extern Tryz.func147 (by kernel_rfl) (by kernel_rfl) (by kernel_rfl) (e := Extern.AbiNoEscape.same) (by kernel_rfl)]
 rw [run_noEscape]
 simp only [Result.andThen]
 rw [Oper.upon_value]
 go_wp2
 rw [run_from_unsafe w ⟨b, 0, none⟩ Tryz.underlying232 Tryz.underlying180 hj hsh lies]
 simp only [Result.andThen]
 rw [Oper.upon_value]
 go_wp2
 go_end0
 exact ⟨rfl, rfl⟩
theorem ownsF_keep {w w' : World} {B : Nat} {e : TypeId} {sz : Nat} {v : Value} {n : Nat} {xs : List Value} {bs : Nat → Prop} (h : w.ownsRowF B e sz v n xs) (o : Only bs w w') (hb : ∀ k, v.ownBlock = some k → ¬ bs k) : w'.ownsRowF B e sz v n xs := by
 refine ⟨h.1, ?_⟩
 rcases h.2 with h0 | ⟨g, cap, cur, fz, e1, hB, hg, r⟩
 ·exact .inl h0
 ·refine .inr ⟨g, cap, cur, fz, e1, hB, ?_, r⟩
  exact (o.block g (Array.getElem?_eq_some_iff.1 hg).1 (hb g (by rw [e1]; rfl))).trans hg
theorem WrU.only {B b : Nat} {bs : List Value} {bg : Bool} {w w' : World} (h : WrU B b bs bg w) (o : Only (fun _ => False) w w') : WrU B b bs bg w' := by
 obtain ⟨h1, p, v, h2, h3, h4, h5⟩ := h
 exact ⟨h1, p, v, (o.block b (Array.getElem?_eq_some_iff.1 h2).1 (fun g => g)).trans h2, h3, ownsF_keep h4 o (fun _ _ g => g), h5⟩
theorem wcheck_any (B b : Nat) (p v : Value) (bg : Bool) (w : World) (hb : w.heap[b]? = some (.cells #[p, v, .bool bg] 237)) (hp : p = .pointer none ∨ p = .pointer (some ⟨b, 0, none⟩)) :
  Calls Tryz.prog 141 #[.pointer (some ⟨b, 0, none⟩)] w fun e w' => e = .returned (.tuple #[]) ∧ w'.heap[b]? = some (.cells #[.pointer (some ⟨b, 0, none⟩), v, .bool bg] 237) ∧ Only (fun k => k = b) w w' := by
 have c0 := wr_cell hb 0
 simp only [List.getElem?_toArray, List.getElem?_cons_zero] at c0
 rcases hp with rfl | rfl
 ·refine (wcheck_fresh b w c0 (by simp [World.shape?, hb]) (wr_froz hb 0)).mono fun e w' g => ?_
  obtain ⟨g1, rfl⟩ := g
  exact ⟨g1, (heap_setCell_same _ _ _ _ _ _ hb).trans rfl, (Only.refl (fun k => k = b) w).setCell _ _ (fun _ => rfl)⟩
 ·refine (wcheck_used b w c0).mono fun e w' g => ?_
  obtain ⟨g1, rfl⟩ := g
  exact ⟨g1, hb, Only.refl _ _⟩
theorem wwrite_any (B b : Nat) (bs : List Value) (bg : Bool) (s : ByteArray) (w : World) (h : WrU B b bs bg w) (hlen : bs.length + s.size ≤ 140737488355328) (hBw : B ≤ w.heap.size) :
  Calls Tryz.prog 116 #[.pointer (some ⟨b, 0, none⟩), .string s] w fun e w' => ∃ q, e = .returned (.tuple #[q, .nilIface]) ∧ WrU B b (bs ++ strCells s) bg w' ∧ Only (fun k => B ≤ k) w w' := by
 obtain ⟨i0, hi, hz0, hz1, hz2⟩ := byte_info
 obtain ⟨hB, p, v, hbk, hp, hown, hne⟩ := h
 go_enter Tryz.func116, Tryz.ntmps116
 go_wp2_with fail
 refine (show Calls Tryz.prog 141 _ _ _ from wcheck_any B b p v bg _ hbk hp).mono ?_
 rintro e w1 ⟨rfl, h1, o1⟩
 have hown1 := ownsF_keep hown o1 (fun k hk e => hne (by rw [hk, e]))
 have c1 := wr_cell h1 1
 simp only [List.getElem?_toArray, List.getElem?_cons_zero, List.getElem?_cons_succ] at c1
 have hs1 := o1.size
 go_wp2_with (at_builtin; refine wpList_append_own_stringF _ rfl _ _ 181 9 rfl B 5 i0 Tryz.underlying181 Tryz.underlying9 hi hz0 hz1 hz2 _ _ _ rfl hown1 s rfl ?c3 ?c4 ?c5 ?_)
 case c3 => unfold maxLen; omega
 case c4 => omega
 case c5 => omega
 intro v' w2 hown' hgrow hat
 have hlt : b < w1.heap.size := (Array.getElem?_eq_some_iff.1 h1).1
 have hb2 : w2.heap[b]? = some (.cells #[.pointer (some ⟨b, 0, none⟩), v, .bool bg] 237) := by
  rw [hgrow.block b hlt (fun e => hne e.symm)]
  exact h1
 have d1 := wr_cell hb2 1
 simp only [List.getElem?_toArray, List.getElem?_cons_zero, List.getElem?_cons_succ] at d1
 have f1 := wr_froz hb2 1
 obtain ⟨ao, n', cap, rfl⟩ : ∃ ao n' cap, v' = .slice ao n' cap := by
  rcases hown'.2 with ⟨hv, _⟩ | ⟨g, cap, cur, fz, hv, _⟩
  ·exact ⟨_, _, _, hv⟩
  ·exact ⟨_, _, _, hv⟩
 have o2 : Only (fun k => v.ownBlock = some k) w1 w2 := (Only.refl _ w1).grown hgrow (fun k e _ => e)
 have hne' : (Value.slice ao n' cap).ownBlock ≠ some b := fun e => by
  rcases hown'.2 with ⟨hv, _⟩ | ⟨g, cap', cur, fz, hv, _, hg, _⟩
  ·rw [hv] at e; simp [Value.ownBlock] at e
  ·rw [hv] at e
   simp only [Value.ownBlock, Option.some.injEq] at e
   rw [e] at hg
   rw [hb2] at hg
   simp at hg
 go_wp2
 go_ret2
 have o3 : Only (fun k => k = b) w2 (w2.setCell ⟨b, 1, none⟩ (.slice ao n' cap)) := (Only.refl (fun k => k = b) w2).setCell _ _ (fun _ => rfl)
 refine ⟨_, rfl, ⟨hB, .pointer (some ⟨b, 0, none⟩), .slice ao n' cap, (heap_setCell_same _ _ _ _ _ _ hb2).trans rfl, .inr rfl, ?_, hne'⟩, ?_⟩
 ·have h4 := ownsF_keep hown' o3 (fun k hk e => hne' (by rw [hk, e]))
  rw [show (bs ++ strCells s).length = bs.length + s.size by rw [List.length_append, strCells_length]]
  exact h4
 ·exact ((o1.mono (bs' := fun k => B ≤ k) (fun k _ e => by omega)).trans o2 (fun k hk e => (hown1.lt k e).1)).trans o3 (fun k hk e => by omega)
theorem wlen_any (B b : Nat) (bs : List Value) (bg : Bool) (w : World) (h : WrU B b bs bg w) :
  Calls Tryz.prog 160 #[.pointer (some ⟨b, 0, none⟩)] w fun e w' => e = .returned (.int .i64 (bs.length : Int)) ∧ w' = w := by
 obtain ⟨hB, p, v, hbk, hp, hown, hne⟩ := h
 obtain ⟨ao, cap, rfl⟩ : ∃ ao cap, v = .slice ao bs.length cap := by
  rcases hown.2 with ⟨hv, h0⟩ | ⟨g, cap, cur, fz, hv, _⟩
  ·exact ⟨none, 0, by rw [hv, h0]⟩
  ·exact ⟨_, _, hv⟩
 have c1 := wr_cell hbk 1
 simp only [List.getElem?_toArray, List.getElem?_cons_zero, List.getElem?_cons_succ] at c1
 clear hbk hown hne hp
 obtain ⟨L, hL⟩ : ∃ L, L = bs.length := ⟨_, rfl⟩
 rw [← hL] at c1 ⊢
 clear hL
 go_enter Tryz.func160, Tryz.ntmps160
 go_wp2
 go_ret
 exact ⟨rfl, rfl⟩
theorem wfull_any (B b : Nat) (bs : List Value) (bg : Bool) (w : World) (h : WrU B b bs bg w) :
  Calls Tryz.prog 156 #[.pointer (some ⟨b, 0, none⟩)] w fun e w' => e = .returned (.bool (decide (65536 < (bs.length : Int)))) ∧ w' = w := by
 have HL : Hid (Calls Tryz.prog 160 #[.pointer (some ⟨b, 0, none⟩)] w fun e w' => e = .returned (.int .i64 (bs.length : Int)) ∧ w' = w) := wlen_any B b bs bg w h
 clear h
 obtain ⟨L, hL⟩ : ∃ L : Int, L = (bs.length : Int) := ⟨_, rfl⟩
 rw [← hL] at HL ⊢
 clear hL
 go_enter Tryz.func156, Tryz.ntmps156
 go_wp2_with fail
 refine (show Calls Tryz.prog 160 _ _ _ from HL.out).mono ?_
 rintro e w1 ⟨rfl, rfl⟩
 clear HL
 go_wp2
 go_ret
 exact ⟨rfl, rfl⟩
theorem wadd_any (B b : Nat) (bs : List Value) (bg : Bool) (s : ByteArray) (w : World) (h : WrU B b bs bg w) (hf : bs.length ≤ 65536) (hs : s.size ≤ 1000000) (hBw : B ≤ w.heap.size) :
  Calls Tryz.prog 167 #[.pointer (some ⟨b, 0, none⟩), .string s] w fun e w' => e = .returned (.tuple #[]) ∧ Hid (WrU B b (bs ++ strCells s) bg w' ∧ Only (fun k => B ≤ k) w w') := by
 have HF : Hid (Calls Tryz.prog 156 #[.pointer (some ⟨b, 0, none⟩)] w fun e w' => e = .returned (.bool false) ∧ w' = w) := by
  have := wfull_any B b bs bg w h
  rwa [show decide (65536 < (bs.length : Int)) = false by simp; omega] at this
 have HW : Hid (Calls Tryz.prog 116 #[.pointer (some ⟨b, 0, none⟩), .string s] w fun e w' => ∃ q, e = .returned (.tuple #[q, .nilIface]) ∧ WrU B b (bs ++ strCells s) bg w' ∧ Only (fun k => B ≤ k) w w') := wwrite_any B b bs bg s w h (by omega) hBw
 clear h hf hs hBw
 go_enter Tryz.func167, Tryz.ntmps167
 go_wp2_with fail
 refine (show Calls Tryz.prog 156 _ _ _ from HF.out).mono ?_
 rintro e w1 ⟨rfl, rfl⟩
 clear HF
 go_wp2_with fail
 refine (show Calls Tryz.prog 116 _ _ _ from HW.out).mono ?_
 rintro e w2 ⟨q, rfl, g1, g2⟩
 have G : Hid (WrU B b (bs ++ strCells s) bg w2 ∧ Only (fun k => B ≤ k) w1 w2) := ⟨g1, g2⟩
 clear HW g1 g2
 go_wp2
 go_end0
 exact ⟨rfl, G⟩
theorem wstring_any (B b : Nat) (l : List UInt8) (bg : Bool) (w : World) (h : WrU B b (Lib.byteCells l) bg w) (h0 : l ≠ []) :
  Calls Tryz.prog 117 #[.pointer (some ⟨b, 0, none⟩)] w fun e w' => e = .returned (.string ⟨l.toArray⟩) ∧ Below B w w' := by
 obtain ⟨hB, p, v, hbk, hp, hown, hne⟩ := h
 have hl0 : l.length ≠ 0 := by simpa using h0
 rw [Lib.byteCells_length] at hown
 obtain ⟨g, cap, cur, fz, rfl, hbg, hg, hfz, hnc, hcm, hcs, htake⟩ : ∃ g cap cur fz, v = .slice (some ⟨g, 0, none⟩) l.length cap ∧ B ≤ g ∧ w.heap[g]? = some (.cells cur 5 fz) ∧ fz.2 ≤ l.length * 1 ∧ l.length ≤ cap ∧ cap ≤ maxLen ∧ cur.size = cap * 1 ∧ cur.toList.take (l.length * 1) = Lib.byteCells l := by
  rcases hown.2 with ⟨_, hz⟩ | ⟨g, cap, cur, fz, hv, r⟩
  ·exact absurd hz hl0
  ·exact ⟨g, cap, cur, fz, hv, r⟩
 have hbk' : w.drew.heap[b]? = some (.cells #[p, .slice (some ⟨g, 0, none⟩) l.length cap, .bool bg] 237) := hbk
 have c1 := wr_cell hbk' 1
 simp only [List.getElem?_toArray, List.getElem?_cons_zero, List.getElem?_cons_succ] at c1
 have hSD : (Builtin.unsafeSliceData_ #[181] 221 #[.slice (some ⟨g, 0, none⟩) l.length cap]).run Tryz.prog w.drew = .ok (.pointer (some ⟨g, 0, none⟩)) w.drew :=
  run_unsafeSliceData_row _ _ _ _ _ _ (by omega)
 have hUS : (Builtin.unsafeString_ #[221, 3] 9 #[.pointer (some ⟨g, 0, none⟩), .int .i64 l.length]).run Tryz.prog w.drew = .ok (.string ⟨l.toArray⟩) (w.drew.freeze ⟨g, 0, none⟩ l.length) := by
  refine run_unsafeString_row w.drew 221 3 9 5 Tryz.underlying221 (by kernel_rfl) g cur.size (by have hg' : w.drew.heap[g]? = some (.cells cur 5 fz) := hg; simp [World.shape?, hg']) l h0 (by omega) (by unfold maxLen at hcm; omega) ?_
  intro j x hx
  have := hown.cells (g := g) rfl j (.int .u8 x.toNat) (by simp [Lib.byteCells, hx])
  exact this
 go_enter Tryz.func117, Tryz.ntmps117
 go_wp2
 go_region
 all_goals (go_wp2; go_ret; exact ⟨rfl, below_freeze (Below.drew (Below.refl B w)) (p := ⟨g, 0, none⟩) hbg _⟩)
theorem wwhole_any (B b : Nat) (l : List UInt8) (bg : Bool) (w : World) (h : WrU B b (Lib.byteCells l) bg w) (h0 : l ≠ []) (h1 : l.length ≤ 65536) :
  Calls Tryz.prog 151 #[.pointer (some ⟨b, 0, none⟩)] w fun e w' => e = .returned (.tuple #[.string ⟨l.toArray⟩, .int .i64 0]) ∧ Below B w w' := by
 have HF : Hid (Calls Tryz.prog 156 #[.pointer (some ⟨b, 0, none⟩)] w fun e w' => e = .returned (.bool false) ∧ w' = w) := by
  have := wfull_any B b _ bg w h
  rwa [show decide (65536 < ((Lib.byteCells l).length : Int)) = false by rw [Lib.byteCells_length]; simp; omega] at this
 have HS : Hid (Calls Tryz.prog 117 #[.pointer (some ⟨b, 0, none⟩)] w fun e w' => e = .returned (.string ⟨l.toArray⟩) ∧ Below B w w') := wstring_any B b l bg w h h0
 clear h h0 h1
 go_enter Tryz.func151, Tryz.ntmps151
 go_wp2_with fail
 refine (show Calls Tryz.prog 156 _ _ _ from HF.out).mono ?_
 rintro e w1 ⟨rfl, rfl⟩
 clear HF
 go_wp2_with fail
 refine (show Calls Tryz.prog 117 _ _ _ from HS.out).mono ?_
 rintro e w2 ⟨rfl, b2⟩
 have B2 : Hid (Below B w1 w2) := b2
 clear HS b2
 go_wp2
 go_ret2
 exact ⟨rfl, B2.out⟩
theorem WrU.begun {B b : Nat} {bs : List Value} {bg : Bool} {w : World} (h : WrU B b bs bg w) (y : Bool) : WrU B b bs y (w.setCell ⟨b, 2, none⟩ (.bool y)) ∧ Only (fun k => k = b) w (w.setCell ⟨b, 2, none⟩ (.bool y)) := by
 obtain ⟨h1, p, v, h2, h3, h4, h5⟩ := h
 have o : Only (fun k => k = b) w (w.setCell ⟨b, 2, none⟩ (.bool y)) := (Only.refl (fun k => k = b) w).setCell _ _ (fun _ => rfl)
 exact ⟨⟨h1, p, v, (heap_setCell_same _ _ _ _ _ _ h2).trans rfl, h3, ownsF_keep h4 o (fun k hk e => h5 (by rw [hk, e])), h5⟩, o⟩
theorem wword_first (B b : Nat) (bs : List Value) (s : ByteArray) (w : World) (h : WrU B b bs false w) (hf : bs.length ≤ 65536) (hs : s.size ≤ 1000000) (hBw : B ≤ w.heap.size) :
  Calls Tryz.prog 159 #[.pointer (some ⟨b, 0, none⟩), .string s] w fun e w' => e = .returned (.tuple #[]) ∧ Hid (WrU B b (bs ++ strCells s) true w' ∧ Only (fun k => B ≤ k) w w') := by
 have HA : Hid (Calls Tryz.prog 167 #[.pointer (some ⟨b, 0, none⟩), .string s] w fun e w' => e = .returned (.tuple #[]) ∧ Hid (WrU B b (bs ++ strCells s) false w' ∧ Only (fun k => B ≤ k) w w')) := wadd_any B b bs false s w h hf hs hBw
 obtain ⟨hB, p, v, hbk, _, _, _⟩ := h
 have c2 := wr_cell hbk 2
 simp only [List.getElem?_toArray, List.getElem?_cons_zero, List.getElem?_cons_succ] at c2
 have HB : Hid (B ≤ b) := hB
 clear hbk hf hs hBw hB
 go_enter Tryz.func159, Tryz.ntmps159
 go_wp2_with fail
 refine (show Calls Tryz.prog 167 _ _ _ from HA.out).mono ?_
 rintro e w1 ⟨rfl, g1⟩
 obtain ⟨_, p1, v1, hb1, _, _, _⟩ := id g1.out.1
 have d2 := wr_cell hb1 2
 have f2 := wr_froz hb1 2
 simp only [List.getElem?_toArray, List.getElem?_cons_zero, List.getElem?_cons_succ] at d2
 clear HA c2 hb1
 go_wp2
 go_end0
 obtain ⟨q1, q2⟩ := g1.out.1.begun true
 exact ⟨rfl, q1, g1.out.2.trans q2 (fun k hk e => by have : B ≤ b := HB.out; omega)⟩
theorem va_hit (T xt : TypeId) (D : TypeDesc) (hD : Tryz.prog.underlying T = some D) (hn : ∀ m, D ≠ .interface m) (x : Value) (W : World) : (Instr.typeAssert (.iface T x) xt T true).run Tryz.prog W = .ok (.tuple #[x, .bool true]) W := by
 simp only [Instr.typeAssert, Sem.run_bind, run_underlying hD, Result.andThen_ok]
 cases D <;> simp_all
theorem va_miss (T U xt : TypeId) (D : TypeDesc) (hD : Tryz.prog.underlying U = some D) (hn : ∀ m, D ≠ .interface m) (hT : T ≠ U) (z : Value) (hz : ∀ W : World, (zeroValue U).run Tryz.prog W = .ok z W) (x : Value) (W : World) : (Instr.typeAssert (.iface T x) xt U true).run Tryz.prog W = .ok (.tuple #[z, .bool false]) W := by
 simp only [Instr.typeAssert, Sem.run_bind, run_underlying hD, Result.andThen_ok]
 cases D <;> simp_all
theorem va_at (W : World) (o : Obj) (n : Nat) (h : n = W.heap.size) : (W.alloc o).heap[n]? = some o := by
 subst h
 exact Array.getElem?_push_size ..
abbrev i7 : Value := .iface 35 (.agg #[.int .i64 7])
def MlB (w : World) (M : Nat) (k : Int) : Prop := w.heap[M]? = some (.cells #[.int .i64 k] 249)
theorem pmore_any (M : Nat) (k : Int) (w : World) (h : MlB w M k) (h1 : 1 ≤ k) (h2 : k ≤ 1024) : Calls Tryz.prog 162 #[.pointer (some ⟨M, 0, none⟩)] w fun e w' => e = .returned (.bool true) ∧ Only (fun b => b = M) w w' ∧ MlB w' M (k - 1) := by
 have c0 := wr_cell h 0
 have f0 := wr_froz h 0
 simp only [List.getElem?_toArray, List.getElem?_cons_zero] at c0
 have HM : Hid (MlB w M k) := h
 have i1 : (0 : Int) ≤ k - 1 := by omega
 clear h
 go_enter Tryz.func162, Tryz.ntmps162
 go_wp2
 go_ret
 exact ⟨by simp [i1], (Only.refl (fun b => b = M) w).setCell _ _ (fun _ => rfl), (heap_setCell_same _ _ _ _ _ _ HM.out).trans rfl⟩
theorem WrU.alloc {B b : Nat} {bs : List Value} {bg : Bool} {w : World} (h : WrU B b bs bg w) (o : Obj) : WrU B b bs bg (w.alloc o) := h.only ((Only.refl _ w).alloc _)
end Go.Proofs.YtenjollhlgjjdaaGreatDoor
