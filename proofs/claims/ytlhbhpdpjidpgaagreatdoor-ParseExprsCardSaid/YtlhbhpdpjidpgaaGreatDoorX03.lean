/-
  DERIVED: THE SHELF's CONTRACTS AT THIS DUMP, IN PLAIN WORDS (tools/lay-plain.mjs out of 'TryzShelf.lean', which tools/lay-shelf.mjs wrote): THE SAME DECLARATIONS UNDER THE SAME NAMES: 'import', 'namespace', 'open', 'def', 'theorem' AND NOTHING ELSE: no command of the shelf's: FOR A HAND-IN. Each laying: the table of numbers ('.._ren') and one theorem, a field a fact of the dump's own or the kernel's comparison; each contract: ONE APPLICATION.
-/
import Derived.Test.YtlhbhpdpjidpgaaGreatDoorX02
import Derived.Shelf.LaysM
import Derived.Shelf.Strconv.Clone
import Derived.Shelf.Strings.Search1
import Derived.Shelf.Strings.Search2
import Derived.Shelf.Strings.Cut
import Derived.Shelf.Strings.Shaped
import Derived.Shelf.Strings.Prefix
import Derived.Test.YtlhbhpdpjidpgaaGreatDoorProg
import Derived.WalkKit
import Derived.BigQuiet
import Derived.Deep.QuietTactic
namespace Go.Proofs
open Go.Shelf
def Tryz.laysM316_ren : Go.Shelf.Ren := ⟨fun | 316 => 147 | n => n, fun | 9 => 9 | 3 => 3 | 4 => 4 | 37 => 151 | 0 => 0 | 127 => 152 | 5 => 5 | n => n, fun | n => n⟩
theorem Tryz.laysM316 : Go.Proofs.LaysM.n316 Tryz.prog Tryz.laysM316_ren := {
  mixed := by kernel_rfl
  f316 := Tryz.func147.trans (congrArg some (by kernel_rfl))
  t0 := Tryz.underlying0
  a0 := Tryz.isAgg0
  z0 := Tryz.sizeOf0
  v0 := Tryz.zeroValue0
  t3 := Tryz.underlying3
  a3 := Tryz.isAgg3
  z3 := Tryz.sizeOf3
  v3 := Tryz.zeroValue3
  t4 := Tryz.underlying4
  a4 := Tryz.isAgg4
  z4 := Tryz.sizeOf4
  v4 := Tryz.zeroValue4
  t9 := Tryz.underlying9
  a9 := Tryz.isAgg9
  z9 := Tryz.sizeOf9
  v9 := Tryz.zeroValue9
  t37 := Tryz.underlying151
  a37 := Tryz.isAgg151
  z37 := Tryz.sizeOf151
  v37 := Tryz.zeroValue151
  t127 := Tryz.underlying152
  a127 := Tryz.isAgg152
  z127 := Tryz.sizeOf152
  v127 := Tryz.zeroValue152
  t5 := Tryz.underlying5
  a5 := Tryz.isAgg5
  z5 := Tryz.sizeOf5
  v5 := Tryz.zeroValue5
  i0 := by kernel_rfl
  i3 := by kernel_rfl
  i4 := by kernel_rfl
  i5 := by kernel_rfl
  i9 := by kernel_rfl
  i37 := by kernel_rfl
  i127 := by kernel_rfl }
open Go.RowKit in
/-- internal/stringslite.Clone (what strings.Clone calls): "Clone returns a fresh copy of s.": THE SAME BYTES. Of what was there nothing has turned (a new row is laid, and frozen, where s is not empty). (LAID: no walk: one application.) -/
theorem Tryz.stringslite_Clone (s : ByteArray) (w : World) (hlim : s.size ≤ 281474976710656) :
    Calls Tryz.prog 147 #[.string s] w fun e w' => e = .returned (.string s) ∧ Below w.heap.size w w' := Any.stringslite_Clone Tryz.laysM316 s w hlim
def Tryz.lays217_ren : Go.Shelf.Ren := ⟨fun | 217 => 150 | 266 => 154 | n => n, fun | 9 => 9 | 5 => 5 | 3 => 3 | n => n, fun | n => n⟩
theorem Tryz.lays217 : Go.Proofs.Lays.n217 Tryz.prog Tryz.lays217_ren := {
  mixed := by kernel_rfl
  f217 := Tryz.func150.trans (congrArg some (by kernel_rfl))
  f266 := Tryz.func154.trans (congrArg some (by kernel_rfl))
  t3 := Tryz.underlying3
  a3 := Tryz.isAgg3
  z3 := Tryz.sizeOf3
  v3 := Tryz.zeroValue3
  t5 := Tryz.underlying5
  a5 := Tryz.isAgg5
  z5 := Tryz.sizeOf5
  v5 := Tryz.zeroValue5
  t9 := Tryz.underlying9
  a9 := Tryz.isAgg9
  z9 := Tryz.sizeOf9
  v9 := Tryz.zeroValue9 }
open Go.RowKit Go.Lib in
/-- internal/stringslite.IndexByte (what strings.IndexByte calls): IT RETURNS 'Lib.indexByte s c'; the world is as it was. (LAID: no walk: one application.) -/
theorem Tryz.stringslite_IndexByte (s : ByteArray) (c : Int) (w : World) :
    Calls Tryz.prog 150 #[.string s, .int .u8 c] w fun e w' => e = .returned (.int .i64 (Lib.indexByte s.data.toList c.toNat.toUInt8)) ∧ w' = w := Any.stringslite_IndexByte Tryz.lays217 s c w
def Tryz.lays224_ren : Go.Shelf.Ren := ⟨fun | 224 => 152 | n => n, fun | 3 => 3 | n => n, fun | n => n⟩
theorem Tryz.lays224 : Go.Proofs.Lays.n224 Tryz.prog Tryz.lays224_ren := {
  mixed := by kernel_rfl
  f224 := Tryz.func152.trans (congrArg some (by kernel_rfl))
  t3 := Tryz.underlying3
  a3 := Tryz.isAgg3
  z3 := Tryz.sizeOf3
  v3 := Tryz.zeroValue3 }
open Go.RowKit Go.Lib in
/-- internal/bytealg.Cutover: "Cutover reports the number of failures of IndexByte we should tolerate before switching over to Index. n is the number of bytes processed so far.": on amd64: (n + 16) / 8. (LAID: no walk: one application.) -/
theorem Tryz.bytealg_Cutover (n : Int) (h0 : 0 ≤ n) (h1 : n < 4611686018427387904) (w : World) :
    Calls Tryz.prog 152 #[.int .i64 n] w fun e w' => e = .returned (.int .i64 ((n + 16) / 8)) ∧ w' = w := Any.bytealg_Cutover Tryz.lays224 n h0 h1 w
def Tryz.lays314_ren : Go.Shelf.Ren := ⟨fun | 314 => 155 | n => n, fun | 9 => 9 | 51 => 155 | 3 => 3 | 4 => 4 | 5 => 5 | 46 => 154 | n => n, fun | n => n⟩
theorem Tryz.lays314 : Go.Proofs.Lays.n314 Tryz.prog Tryz.lays314_ren := {
  mixed := by kernel_rfl
  f314 := Tryz.func155.trans (congrArg some (by kernel_rfl))
  t3 := Tryz.underlying3
  a3 := Tryz.isAgg3
  z3 := Tryz.sizeOf3
  v3 := Tryz.zeroValue3
  t4 := Tryz.underlying4
  a4 := Tryz.isAgg4
  z4 := Tryz.sizeOf4
  v4 := Tryz.zeroValue4
  t5 := Tryz.underlying5
  a5 := Tryz.isAgg5
  z5 := Tryz.sizeOf5
  v5 := Tryz.zeroValue5
  t9 := Tryz.underlying9
  a9 := Tryz.isAgg9
  z9 := Tryz.sizeOf9
  v9 := Tryz.zeroValue9
  t46 := Tryz.underlying154
  a46 := Tryz.isAgg154
  z46 := Tryz.sizeOf154
  v46 := Tryz.zeroValue154
  t51 := Tryz.underlying155
  a51 := Tryz.isAgg155
  z51 := Tryz.sizeOf155
  v51 := Tryz.zeroValue155 }
open Go.RowKit Go.Lib in
/-- hashStr: "returns the hash and the appropriate multiplicative factor for use in Rabin-Karp algorithm": THE HASH OF ALL OF sep, AND 16777619 ^ len(sep), both in uint32. (LAID: no walk: one application.) -/
theorem Tryz.bytealg_hashStr (sep : ByteArray) (hs : sep.size < 4294967281) (w : World) :
    Calls Tryz.prog 155 #[.string sep] w fun e w' => e = .returned (.tuple #[.int .u32 (RK.H sep.data.toList % 4294967296), .int .u32 (16777619 ^ sep.size % 4294967296)]) ∧ w' = w := Any.bytealg_hashStr Tryz.lays314 sep hs w
def Tryz.lays267_ren : Go.Shelf.Ren := ⟨fun | 267 => 153 | 314 => 155 | n => n, fun | 9 => 9 | 3 => 3 | 146 => 156 | 51 => 155 | 4 => 4 | 5 => 5 | 46 => 154 | n => n, fun | n => n⟩
theorem Tryz.lays267 : Go.Proofs.Lays.n267 Tryz.prog Tryz.lays267_ren := {
  mixed := by kernel_rfl
  f267 := Tryz.func153.trans (congrArg some (by kernel_rfl))
  f314 := Tryz.func155.trans (congrArg some (by kernel_rfl))
  t3 := Tryz.underlying3
  a3 := Tryz.isAgg3
  z3 := Tryz.sizeOf3
  v3 := Tryz.zeroValue3
  t4 := Tryz.underlying4
  a4 := Tryz.isAgg4
  z4 := Tryz.sizeOf4
  v4 := Tryz.zeroValue4
  t5 := Tryz.underlying5
  a5 := Tryz.isAgg5
  z5 := Tryz.sizeOf5
  v5 := Tryz.zeroValue5
  t9 := Tryz.underlying9
  a9 := Tryz.isAgg9
  z9 := Tryz.sizeOf9
  v9 := Tryz.zeroValue9
  t46 := Tryz.underlying154
  a46 := Tryz.isAgg154
  z46 := Tryz.sizeOf154
  v46 := Tryz.zeroValue154
  t51 := Tryz.underlying155
  a51 := Tryz.isAgg155
  z51 := Tryz.sizeOf155
  v51 := Tryz.zeroValue155
  t146 := Tryz.underlying156
  a146 := Tryz.isAgg156
  z146 := Tryz.sizeOf156
  v146 := Tryz.zeroValue156 }
open Go.RowKit Go.Lib in
theorem Tryz.bytealg_IndexRabinKarp (s sep : ByteArray) (h1 : 1 ≤ sep.size) (h2 : sep.size ≤ s.size) (hs : s.size < 4294967281) (w : World) :
    Calls Tryz.prog 153 #[.string s, .string sep] w fun e w' => e = .returned (.int .i64 (Lib.index s.data.toList sep.data.toList)) ∧ w' = w := Any.bytealg_IndexRabinKarp Tryz.lays267 s sep h1 h2 hs w
def Tryz.lays219_ren : Go.Shelf.Ren := ⟨fun | 219 => 149 | 217 => 150 | 225 => 151 | 224 => 152 | 267 => 153 | 266 => 154 | 314 => 155 | n => n, fun | 9 => 9 | 3 => 3 | 4 => 4 | 5 => 5 | 46 => 154 | 146 => 156 | 51 => 155 | n => n, fun | 1 => 2 | n => n⟩
theorem Tryz.lays219 : Go.Proofs.Lays.n219 Tryz.prog Tryz.lays219_ren := {
  mixed := by kernel_rfl
  f217 := Tryz.func150.trans (congrArg some (by kernel_rfl))
  f219 := Tryz.func149.trans (congrArg some (by kernel_rfl))
  f224 := Tryz.func152.trans (congrArg some (by kernel_rfl))
  f225 := Tryz.func151.trans (congrArg some (by kernel_rfl))
  f266 := Tryz.func154.trans (congrArg some (by kernel_rfl))
  f267 := Tryz.func153.trans (congrArg some (by kernel_rfl))
  f314 := Tryz.func155.trans (congrArg some (by kernel_rfl))
  t3 := Tryz.underlying3
  a3 := Tryz.isAgg3
  z3 := Tryz.sizeOf3
  v3 := Tryz.zeroValue3
  t4 := Tryz.underlying4
  a4 := Tryz.isAgg4
  z4 := Tryz.sizeOf4
  v4 := Tryz.zeroValue4
  t5 := Tryz.underlying5
  a5 := Tryz.isAgg5
  z5 := Tryz.sizeOf5
  v5 := Tryz.zeroValue5
  t9 := Tryz.underlying9
  a9 := Tryz.isAgg9
  z9 := Tryz.sizeOf9
  v9 := Tryz.zeroValue9
  t46 := Tryz.underlying154
  a46 := Tryz.isAgg154
  z46 := Tryz.sizeOf154
  v46 := Tryz.zeroValue154
  t51 := Tryz.underlying155
  a51 := Tryz.isAgg155
  z51 := Tryz.sizeOf155
  v51 := Tryz.zeroValue155
  t146 := Tryz.underlying156
  a146 := Tryz.isAgg156
  z146 := Tryz.sizeOf156
  v146 := Tryz.zeroValue156
  g1 := by kernel_rfl }
open Go.RowKit Go.Lib in
/-- internal/stringslite.Index (what strings.Index calls) AT A substr OF ONE BYTE c: IT RETURNS 'Lib.indexByte s c'; the world is as it was. (LAID: no walk: one application.) -/
theorem Tryz.stringslite_Index_one (s : ByteArray) (c : UInt8) (w : World) :
    Calls Tryz.prog 149 #[.string s, .string ⟨#[c]⟩] w fun e w' => e = .returned (.int .i64 (Lib.indexByte s.data.toList c)) ∧ w' = w := Any.stringslite_Index_one Tryz.lays219 s c w
open Go.RowKit Go.Lib in
/-- internal/stringslite.Index (what strings.Index calls) AT A substr OF WHATEVER LENGTH: IT RETURNS 'Lib.index s substr'; the world is as it was. 'm': what internal/bytealg.MaxLen holds: whatever. (LAID: no walk: one application.) -/
theorem Tryz.stringslite_Index (s sub : ByteArray) (m : Int) (w : World) (hs : s.size < 4294967281) (hm : w.cell? ⟨2, 0, none⟩ = some (.int .i64 m)) :
    Calls Tryz.prog 149 #[.string s, .string sub] w fun e w' => e = .returned (.int .i64 (Lib.index s.data.toList sub.data.toList)) ∧ w' = w := Any.stringslite_Index Tryz.lays219 s sub m w hs hm
def Tryz.lays220_ren : Go.Shelf.Ren := ⟨fun | 220 => 146 | 219 => 149 | 217 => 150 | 225 => 151 | 224 => 152 | 267 => 153 | 266 => 154 | 314 => 155 | n => n, fun | 9 => 9 | 4 => 4 | 3 => 3 | 5 => 5 | 46 => 154 | 146 => 156 | 51 => 155 | n => n, fun | 1 => 2 | n => n⟩
theorem Tryz.lays220 : Go.Proofs.Lays.n220 Tryz.prog Tryz.lays220_ren := {
  mixed := by kernel_rfl
  f217 := Tryz.func150.trans (congrArg some (by kernel_rfl))
  f219 := Tryz.func149.trans (congrArg some (by kernel_rfl))
  f220 := Tryz.func146.trans (congrArg some (by kernel_rfl))
  f224 := Tryz.func152.trans (congrArg some (by kernel_rfl))
  f225 := Tryz.func151.trans (congrArg some (by kernel_rfl))
  f266 := Tryz.func154.trans (congrArg some (by kernel_rfl))
  f267 := Tryz.func153.trans (congrArg some (by kernel_rfl))
  f314 := Tryz.func155.trans (congrArg some (by kernel_rfl))
  t3 := Tryz.underlying3
  a3 := Tryz.isAgg3
  z3 := Tryz.sizeOf3
  v3 := Tryz.zeroValue3
  t4 := Tryz.underlying4
  a4 := Tryz.isAgg4
  z4 := Tryz.sizeOf4
  v4 := Tryz.zeroValue4
  t5 := Tryz.underlying5
  a5 := Tryz.isAgg5
  z5 := Tryz.sizeOf5
  v5 := Tryz.zeroValue5
  t9 := Tryz.underlying9
  a9 := Tryz.isAgg9
  z9 := Tryz.sizeOf9
  v9 := Tryz.zeroValue9
  t46 := Tryz.underlying154
  a46 := Tryz.isAgg154
  z46 := Tryz.sizeOf154
  v46 := Tryz.zeroValue154
  t51 := Tryz.underlying155
  a51 := Tryz.isAgg155
  z51 := Tryz.sizeOf155
  v51 := Tryz.zeroValue155
  t146 := Tryz.underlying156
  a146 := Tryz.isAgg156
  z146 := Tryz.sizeOf156
  v146 := Tryz.zeroValue156
  g1 := by kernel_rfl }
open Go.RowKit Go.Lib in
/-- internal/stringslite.Cut (what strings.Cut calls): IT RETURNS 'Lib.cut s sep'; the world is as it was but for the count of draws. (LAID: no walk: one application.) -/
theorem Tryz.stringslite_Cut (s sep : ByteArray) (m : Int) (w : World) (hs : s.size < 4294967281) (hm : w.cell? ⟨2, 0, none⟩ = some (.int .i64 m)) :
    Calls Tryz.prog 146 #[.string s, .string sep] w fun e w' => e = .returned (.tuple #[.string ⟨(Lib.cut s.data.toList sep.data.toList).1.toArray⟩, .string ⟨(Lib.cut s.data.toList sep.data.toList).2.1.toArray⟩, .bool (Lib.cut s.data.toList sep.data.toList).2.2]) ∧ ∃ n, w' = w.drewN n := Any.stringslite_Cut Tryz.lays220 s sep m w hs hm
def Tryz.lays145_ren : Go.Shelf.Ren := ⟨fun | 145 => 133 | 220 => 146 | 219 => 149 | 217 => 150 | 225 => 151 | 224 => 152 | 267 => 153 | 266 => 154 | 314 => 155 | n => n, fun | 9 => 9 | 4 => 4 | 59 => 143 | 3 => 3 | 5 => 5 | 46 => 154 | 146 => 156 | 51 => 155 | n => n, fun | 1 => 2 | n => n⟩
theorem Tryz.lays145 : Go.Proofs.Lays.n145 Tryz.prog Tryz.lays145_ren := {
  mixed := by kernel_rfl
  f145 := Tryz.func133.trans (congrArg some (by kernel_rfl))
  f217 := Tryz.func150.trans (congrArg some (by kernel_rfl))
  f219 := Tryz.func149.trans (congrArg some (by kernel_rfl))
  f220 := Tryz.func146.trans (congrArg some (by kernel_rfl))
  f224 := Tryz.func152.trans (congrArg some (by kernel_rfl))
  f225 := Tryz.func151.trans (congrArg some (by kernel_rfl))
  f266 := Tryz.func154.trans (congrArg some (by kernel_rfl))
  f267 := Tryz.func153.trans (congrArg some (by kernel_rfl))
  f314 := Tryz.func155.trans (congrArg some (by kernel_rfl))
  t3 := Tryz.underlying3
  a3 := Tryz.isAgg3
  z3 := Tryz.sizeOf3
  v3 := Tryz.zeroValue3
  t4 := Tryz.underlying4
  a4 := Tryz.isAgg4
  z4 := Tryz.sizeOf4
  v4 := Tryz.zeroValue4
  t5 := Tryz.underlying5
  a5 := Tryz.isAgg5
  z5 := Tryz.sizeOf5
  v5 := Tryz.zeroValue5
  t9 := Tryz.underlying9
  a9 := Tryz.isAgg9
  z9 := Tryz.sizeOf9
  v9 := Tryz.zeroValue9
  t46 := Tryz.underlying154
  a46 := Tryz.isAgg154
  z46 := Tryz.sizeOf154
  v46 := Tryz.zeroValue154
  t51 := Tryz.underlying155
  a51 := Tryz.isAgg155
  z51 := Tryz.sizeOf155
  v51 := Tryz.zeroValue155
  t59 := Tryz.underlying143
  a59 := Tryz.isAgg143
  z59 := Tryz.sizeOf143
  v59 := Tryz.zeroValue143
  t146 := Tryz.underlying156
  a146 := Tryz.isAgg156
  z146 := Tryz.sizeOf156
  v146 := Tryz.zeroValue156
  g1 := by kernel_rfl }
open Go.RowKit Go.Lib in
/-- strings.Cut: "Cut slices s around the first instance of sep, returning the text before and after sep. The found result reports whether sep appears in s. If sep does not appear in s, cut returns s, "", false.": IT RETURNS 'Lib.cut s sep'; the world is as it was but for the count of draws. (LAID: no walk: one application.) -/
theorem Tryz.strings_Cut (s sep : ByteArray) (m : Int) (w : World) (hs : s.size < 4294967281) (hm : w.cell? ⟨2, 0, none⟩ = some (.int .i64 m)) :
    Calls Tryz.prog 133 #[.string s, .string sep] w fun e w' => e = .returned (.tuple #[.string ⟨(Lib.cut s.data.toList sep.data.toList).1.toArray⟩, .string ⟨(Lib.cut s.data.toList sep.data.toList).2.1.toArray⟩, .bool (Lib.cut s.data.toList sep.data.toList).2.2]) ∧ ∃ n, w' = w.drewN n := Any.strings_Cut Tryz.lays145 s sep m w hs hm
def Tryz.laysM219_ren : Go.Shelf.Ren := ⟨fun | 219 => 149 | 217 => 150 | 225 => 151 | 224 => 152 | 267 => 153 | 266 => 154 | 314 => 155 | n => n, fun | 9 => 9 | 3 => 3 | 4 => 4 | 5 => 5 | 46 => 154 | 146 => 156 | 51 => 155 | n => n, fun | 1 => 2 | n => n⟩
theorem Tryz.laysM219 : Go.Proofs.LaysM.n219 Tryz.prog Tryz.laysM219_ren := {
  mixed := by kernel_rfl
  f217 := Tryz.func150.trans (congrArg some (by kernel_rfl))
  f219 := Tryz.func149.trans (congrArg some (by kernel_rfl))
  f224 := Tryz.func152.trans (congrArg some (by kernel_rfl))
  f225 := Tryz.func151.trans (congrArg some (by kernel_rfl))
  f266 := Tryz.func154.trans (congrArg some (by kernel_rfl))
  f267 := Tryz.func153.trans (congrArg some (by kernel_rfl))
  f314 := Tryz.func155.trans (congrArg some (by kernel_rfl))
  t3 := Tryz.underlying3
  a3 := Tryz.isAgg3
  z3 := Tryz.sizeOf3
  v3 := Tryz.zeroValue3
  t4 := Tryz.underlying4
  a4 := Tryz.isAgg4
  z4 := Tryz.sizeOf4
  v4 := Tryz.zeroValue4
  t5 := Tryz.underlying5
  a5 := Tryz.isAgg5
  z5 := Tryz.sizeOf5
  v5 := Tryz.zeroValue5
  t9 := Tryz.underlying9
  a9 := Tryz.isAgg9
  z9 := Tryz.sizeOf9
  v9 := Tryz.zeroValue9
  t46 := Tryz.underlying154
  a46 := Tryz.isAgg154
  z46 := Tryz.sizeOf154
  v46 := Tryz.zeroValue154
  t51 := Tryz.underlying155
  a51 := Tryz.isAgg155
  z51 := Tryz.sizeOf155
  v51 := Tryz.zeroValue155
  t146 := Tryz.underlying156
  a146 := Tryz.isAgg156
  z146 := Tryz.sizeOf156
  v146 := Tryz.zeroValue156
  g1 := by kernel_rfl
  i3 := by kernel_rfl
  i4 := by kernel_rfl
  i5 := by kernel_rfl
  i9 := by kernel_rfl
  i46 := by kernel_rfl
  i51 := by kernel_rfl
  i146 := by kernel_rfl
  m1 := by kernel_rfl
  s1_3 := fun w h => Go.Proofs.cell_of_shapedOpen_int (zero := #[.int .i64 0]) (t := 3) h (of_decide_eq_true (by kernel_rfl)) (by kernel_rfl) rfl (by kernel_rfl) (by kernel_rfl) Tryz.underlying3 }
open Go.RowKit Go.Lib in
theorem Tryz.stringslite_Index_shaped (s sub : ByteArray) (w : World) (h : w.ShapedOpen Tryz.prog) (hs : s.size < 4294967281) :
    Calls Tryz.prog 149 #[.string s, .string sub] w fun e w' => e = .returned (.int .i64 (Lib.index s.data.toList sub.data.toList)) ∧ w' = w := Any.stringslite_Index_shaped Tryz.laysM219 s sub w h hs
def Tryz.laysM220_ren : Go.Shelf.Ren := ⟨fun | 220 => 146 | 219 => 149 | 217 => 150 | 225 => 151 | 224 => 152 | 267 => 153 | 266 => 154 | 314 => 155 | n => n, fun | 9 => 9 | 4 => 4 | 3 => 3 | 5 => 5 | 46 => 154 | 146 => 156 | 51 => 155 | n => n, fun | 1 => 2 | n => n⟩
theorem Tryz.laysM220 : Go.Proofs.LaysM.n220 Tryz.prog Tryz.laysM220_ren := {
  mixed := by kernel_rfl
  f217 := Tryz.func150.trans (congrArg some (by kernel_rfl))
  f219 := Tryz.func149.trans (congrArg some (by kernel_rfl))
  f220 := Tryz.func146.trans (congrArg some (by kernel_rfl))
  f224 := Tryz.func152.trans (congrArg some (by kernel_rfl))
  f225 := Tryz.func151.trans (congrArg some (by kernel_rfl))
  f266 := Tryz.func154.trans (congrArg some (by kernel_rfl))
  f267 := Tryz.func153.trans (congrArg some (by kernel_rfl))
  f314 := Tryz.func155.trans (congrArg some (by kernel_rfl))
  t3 := Tryz.underlying3
  a3 := Tryz.isAgg3
  z3 := Tryz.sizeOf3
  v3 := Tryz.zeroValue3
  t4 := Tryz.underlying4
  a4 := Tryz.isAgg4
  z4 := Tryz.sizeOf4
  v4 := Tryz.zeroValue4
  t5 := Tryz.underlying5
  a5 := Tryz.isAgg5
  z5 := Tryz.sizeOf5
  v5 := Tryz.zeroValue5
  t9 := Tryz.underlying9
  a9 := Tryz.isAgg9
  z9 := Tryz.sizeOf9
  v9 := Tryz.zeroValue9
  t46 := Tryz.underlying154
  a46 := Tryz.isAgg154
  z46 := Tryz.sizeOf154
  v46 := Tryz.zeroValue154
  t51 := Tryz.underlying155
  a51 := Tryz.isAgg155
  z51 := Tryz.sizeOf155
  v51 := Tryz.zeroValue155
  t146 := Tryz.underlying156
  a146 := Tryz.isAgg156
  z146 := Tryz.sizeOf156
  v146 := Tryz.zeroValue156
  g1 := by kernel_rfl
  i3 := by kernel_rfl
  i4 := by kernel_rfl
  i5 := by kernel_rfl
  i9 := by kernel_rfl
  i46 := by kernel_rfl
  i51 := by kernel_rfl
  i146 := by kernel_rfl
  m1 := by kernel_rfl
  s1_3 := fun w h => Go.Proofs.cell_of_shapedOpen_int (zero := #[.int .i64 0]) (t := 3) h (of_decide_eq_true (by kernel_rfl)) (by kernel_rfl) rfl (by kernel_rfl) (by kernel_rfl) Tryz.underlying3 }
open Go.RowKit Go.Lib in
theorem Tryz.stringslite_Cut_shaped (s sep : ByteArray) (w : World) (h : w.ShapedOpen Tryz.prog) (hs : s.size < 4294967281) :
    Calls Tryz.prog 146 #[.string s, .string sep] w fun e w' => e = .returned (.tuple #[.string ⟨(Lib.cut s.data.toList sep.data.toList).1.toArray⟩, .string ⟨(Lib.cut s.data.toList sep.data.toList).2.1.toArray⟩, .bool (Lib.cut s.data.toList sep.data.toList).2.2]) ∧ ∃ n, w' = w.drewN n := Any.stringslite_Cut_shaped Tryz.laysM220 s sep w h hs
def Tryz.laysM145_ren : Go.Shelf.Ren := ⟨fun | 145 => 133 | 220 => 146 | 219 => 149 | 217 => 150 | 225 => 151 | 224 => 152 | 267 => 153 | 266 => 154 | 314 => 155 | n => n, fun | 9 => 9 | 4 => 4 | 59 => 143 | 3 => 3 | 5 => 5 | 46 => 154 | 146 => 156 | 51 => 155 | n => n, fun | 1 => 2 | n => n⟩
theorem Tryz.laysM145 : Go.Proofs.LaysM.n145 Tryz.prog Tryz.laysM145_ren := {
  mixed := by kernel_rfl
  f145 := Tryz.func133.trans (congrArg some (by kernel_rfl))
  f217 := Tryz.func150.trans (congrArg some (by kernel_rfl))
  f219 := Tryz.func149.trans (congrArg some (by kernel_rfl))
  f220 := Tryz.func146.trans (congrArg some (by kernel_rfl))
  f224 := Tryz.func152.trans (congrArg some (by kernel_rfl))
  f225 := Tryz.func151.trans (congrArg some (by kernel_rfl))
  f266 := Tryz.func154.trans (congrArg some (by kernel_rfl))
  f267 := Tryz.func153.trans (congrArg some (by kernel_rfl))
  f314 := Tryz.func155.trans (congrArg some (by kernel_rfl))
  t3 := Tryz.underlying3
  a3 := Tryz.isAgg3
  z3 := Tryz.sizeOf3
  v3 := Tryz.zeroValue3
  t4 := Tryz.underlying4
  a4 := Tryz.isAgg4
  z4 := Tryz.sizeOf4
  v4 := Tryz.zeroValue4
  t5 := Tryz.underlying5
  a5 := Tryz.isAgg5
  z5 := Tryz.sizeOf5
  v5 := Tryz.zeroValue5
  t9 := Tryz.underlying9
  a9 := Tryz.isAgg9
  z9 := Tryz.sizeOf9
  v9 := Tryz.zeroValue9
  t46 := Tryz.underlying154
  a46 := Tryz.isAgg154
  z46 := Tryz.sizeOf154
  v46 := Tryz.zeroValue154
  t51 := Tryz.underlying155
  a51 := Tryz.isAgg155
  z51 := Tryz.sizeOf155
  v51 := Tryz.zeroValue155
  t59 := Tryz.underlying143
  a59 := Tryz.isAgg143
  z59 := Tryz.sizeOf143
  v59 := Tryz.zeroValue143
  t146 := Tryz.underlying156
  a146 := Tryz.isAgg156
  z146 := Tryz.sizeOf156
  v146 := Tryz.zeroValue156
  g1 := by kernel_rfl
  i3 := by kernel_rfl
  i4 := by kernel_rfl
  i5 := by kernel_rfl
  i9 := by kernel_rfl
  i46 := by kernel_rfl
  i51 := by kernel_rfl
  i59 := by kernel_rfl
  i146 := by kernel_rfl
  m1 := by kernel_rfl
  s1_3 := fun w h => Go.Proofs.cell_of_shapedOpen_int (zero := #[.int .i64 0]) (t := 3) h (of_decide_eq_true (by kernel_rfl)) (by kernel_rfl) rfl (by kernel_rfl) (by kernel_rfl) Tryz.underlying3 }
open Go.RowKit Go.Lib in
theorem Tryz.strings_Cut_shaped (s sep : ByteArray) (w : World) (h : w.ShapedOpen Tryz.prog) (hs : s.size < 4294967281) :
    Calls Tryz.prog 133 #[.string s, .string sep] w fun e w' => e = .returned (.tuple #[.string ⟨(Lib.cut s.data.toList sep.data.toList).1.toArray⟩, .string ⟨(Lib.cut s.data.toList sep.data.toList).2.1.toArray⟩, .bool (Lib.cut s.data.toList sep.data.toList).2.2]) ∧ ∃ n, w' = w.drewN n := Any.strings_Cut_shaped Tryz.laysM145 s sep w h hs
def Tryz.lays206_ren : Go.Shelf.Ren := ⟨fun | 206 => 131 | n => n, fun | 9 => 9 | 4 => 4 | 3 => 3 | n => n, fun | n => n⟩
theorem Tryz.lays206 : Go.Proofs.Lays.n206 Tryz.prog Tryz.lays206_ren := {
  mixed := by kernel_rfl
  f206 := Tryz.func131.trans (congrArg some (by kernel_rfl))
  t3 := Tryz.underlying3
  a3 := Tryz.isAgg3
  z3 := Tryz.sizeOf3
  v3 := Tryz.zeroValue3
  t4 := Tryz.underlying4
  a4 := Tryz.isAgg4
  z4 := Tryz.sizeOf4
  v4 := Tryz.zeroValue4
  t9 := Tryz.underlying9
  a9 := Tryz.isAgg9
  z9 := Tryz.sizeOf9
  v9 := Tryz.zeroValue9 }
open Go.RowKit Go.Lib in
/-- internal/stringslite.HasPrefix (what strings.HasPrefix calls). (LAID: no walk: one application.) -/
theorem Tryz.stringslite_HasPrefix (s p : ByteArray) (w : World) :
    Calls Tryz.prog 131 #[.string s, .string p] w fun e w' => e = .returned (.bool (Lib.hasPrefix s.data.toList p.data.toList)) ∧ w' = w := Any.stringslite_HasPrefix Tryz.lays206 s p w
def Tryz.lays99_ren : Go.Shelf.Ren := ⟨fun | 99 => 109 | 206 => 131 | n => n, fun | 9 => 9 | 4 => 4 | 3 => 3 | n => n, fun | n => n⟩
theorem Tryz.lays99 : Go.Proofs.Lays.n99 Tryz.prog Tryz.lays99_ren := {
  mixed := by kernel_rfl
  f99 := Tryz.func109.trans (congrArg some (by kernel_rfl))
  f206 := Tryz.func131.trans (congrArg some (by kernel_rfl))
  t3 := Tryz.underlying3
  a3 := Tryz.isAgg3
  z3 := Tryz.sizeOf3
  v3 := Tryz.zeroValue3
  t4 := Tryz.underlying4
  a4 := Tryz.isAgg4
  z4 := Tryz.sizeOf4
  v4 := Tryz.zeroValue4
  t9 := Tryz.underlying9
  a9 := Tryz.isAgg9
  z9 := Tryz.sizeOf9
  v9 := Tryz.zeroValue9 }
open Go.RowKit Go.Lib in
/-- strings.HasPrefix: "HasPrefix reports whether the string s begins with prefix.": IT RETURNS 'Lib.hasPrefix s prefix'; the world is as it was. (LAID: no walk: one application.) -/
theorem Tryz.strings_HasPrefix (s p : ByteArray) (w : World) :
    Calls Tryz.prog 109 #[.string s, .string p] w fun e w' => e = .returned (.bool (Lib.hasPrefix s.data.toList p.data.toList)) ∧ w' = w := Any.strings_HasPrefix Tryz.lays99 s p w
end Go.Proofs
/- The reader's take and add: n bytes off the front; a word behind the others. Conditions: no more bytes than are left; sizes. -/
namespace Go.Proofs.YtlhbhpdpjidpgaaGreatDoor.Lex
open Go.RowKit
open Num (EndsW)
set_option maxRecDepth 100000
theorem extract_bs (l : List UInt8) (a b : Nat) : (bs l).extract a b = bs ((l.drop a).take (b - a)) := ByteArray.extract_mk l a b
theorem set_two {w : World} {g : Nat} {a b : Value} {T : TypeId} (h : w.heap[g]? = some (.cells #[a, b] T (0, 0))) (u : Value) : (w.setCell ⟨g, 0, none⟩ u).heap[g]? = some (.cells #[u, b] T (0, 0)) := by
  rw [set_at h]; rfl
theorem set_one {w : World} {g : Nat} {a b : Value} {T : TypeId} (h : w.heap[g]? = some (.cells #[a, b] T (0, 0))) (u : Value) : (w.setCell ⟨g, 1, none⟩ u).heap[g]? = some (.cells #[a, u] T (0, 0)) := by
  rw [set_at h]; rfl
set_option maxHeartbeats 1000000 in
theorem take_any (w : World) (lo g n : Nat) (l : List UInt8) (ws : List Wd) (v : Value) (h : Rd w lo g l ws v) (hn : n ≤ l.length) (hl : l.length ≤ 1000000) :
    Calls Tryz.prog 108 #[.pointer (some ⟨g, 0, none⟩), .int .i64 n] w (Step w lo g v (str (l.take n)) (l.drop n) ws) := by
  have HH := Lib.hid h
  have c0 := cell_at h.at_ 0
  have f0 := free_at h.at_ 0
  have hs : (bs l).size = l.length := rfl
  have HE1 := Lib.hid (extract_bs l 0 n)
  have HE2 := Lib.hid (extract_bs l n l.length)
  have hn2 : n ≤ (bs l).size := hn
  have hl2 : (bs l).size ≤ 1000000 := hl
  have HS := Lib.hid hs
  clear h hn hl hs
  go_enter Tryz.func108, Tryz.ntmps108
  go_wp2
  go_ret
  refine ⟨?_, v, ⟨?_, HH.out.low, ?_, HH.out.ne⟩, ?_, fun k hk => .inl hk⟩
  · show Ending.returned (Value.string ((bs l).extract 0 n)) = _
    rw [HE1.out, List.drop_zero, Nat.sub_zero]; rfl
  · rw [set_two HH.out.at_, HS.out, HE2.out, List.take_of_length_le (by simp)]
  · exact HH.out.own.keep fun k hk => Below.heap_setCell w _ _ k (fun e => HH.out.ne (by rw [hk, e]))
  · exact (Turn.refl _ w).setCell (.inl (by simp [mine])) _
theorem clone_any (s : ByteArray) (w : World) (hlim : s.size ≤ 281474976710656) : Calls Tryz.prog 136 #[.string s] w (EndsB (.string s) w) := by
  have C := Lib.hid (Tryz.stringslite_Clone s w hlim)
  clear hlim
  go_enter Tryz.func136, Tryz.ntmps136
  go_wp2_with (go_at_call 147; refine C.out.mono ?_; rintro e w' ⟨rfl, hb⟩)
  go_ret
  exact ⟨rfl, hb⟩
theorem at_app {ops : Array Oper} {Q : Exit → Act → World → Prop} {md : Region.Mode} {S : World → Prop} {nn fuel : Nat} {listed : Array Bool} {a : Act} {w : World} {oi : Oper} (i d : Nat) (v2 : Value) (w' : World) (hi : ops[i]? = some oi) (hd : oi.dst = some d) (hr : Region.ready md ops listed = [i]) (hin : i < nn) (hw : Region.wanted oi (yielded ops a.tmps) = true) (s x : Operand)
    (ho : oi.op = .call { callee := .builtin .append, args := #[s, x], argTypes := #[33, 33] }) (v u : Value) (hs : a.eval s = v) (hx : a.eval x = u) (hrun : ∀ ty, (Builtin.append_ #[33, 33] ty #[v, u]).run Tryz.prog w = .ok v2 w') (hS : S w')
    (h : AtS Tryz.prog md ops Q S nn fuel (listed.setIfInBounds i true) (a.put (some d) v2) w') : AtS Tryz.prog md ops Q S nn (fuel + 1) listed a w := by
  refine at_run i d v2 w' hi hd hr hin hw ?_ hS h
  unfold execOp
  simp only [ho, resolve, invoke, builtin, Sem.run_bind, Sem.run_pure, Result.andThen_ok, List.map_toArray, List.map_cons, List.map_nil, hs, hx, hrun]
def InG (w : World) (g b : Nat) (l : List UInt8) (v : Value) (x : Wd) : Prop := w.heap[g]? = some (.cells #[.string (bs l), v] 113 (0, 0)) ∧ w.heap[b]? = some (.cells #[.int .i64 x.k, .string (bs x.s), .int .i64 x.n] 73 (0, 0))
set_option maxHeartbeats 4000000 in
theorem add_any (w : World) (lo g : Nat) (l : List UInt8) (ws : List Wd) (v : Value) (x : Wd) (h : Rd w lo g l ws v) (hx : x.s.length ≤ 1000000) (hl : ws.length ≤ 1000000) (hlo : lo ≤ w.heap.size) :
    Calls Tryz.prog 116 #[.pointer (some ⟨g, 0, none⟩), wdV x] w (Step w lo g v (.tuple #[]) l (ws ++ [x])) := by
  obtain ⟨k, s, n⟩ := x
  unfold wdV
  dsimp only at *
  have HH := Lib.hid h
  have HX := Lib.hid hx
  have HL := Lib.hid hl
  have HLO := Lib.hid hlo
  have HB := Lib.hid (heap_alloc_new w (.cells #[.int .i64 k, .string (bs s), .int .i64 n] 73 (0, 0)))
  have HG := Lib.hid (h.below ((Below.refl _ w).alloc (Nat.le_refl _) (.cells #[.int .i64 k, .string (bs s), .int .i64 n] 73 (0, 0))))
  have C := fun w' => Lib.hid (clone_any (bs s) w' (by rw [bs_size]; omega))
  have z1 := cell_at HB.out 1
  clear h hx hl hlo
  go_enter Tryz.func116, Tryz.ntmps116
  go_wp2_with fail
  refine (C _).out.mono ?_
  rintro e w1 ⟨rfl, hb1⟩
  have HB1 : Hid (w1.heap[w.heap.size]? = some (.cells #[.int .i64 k, .string (bs s), .int .i64 n] 73 (0, 0))) := Lib.hid ((hb1.block _ (by simp)).trans HB.out)
  have HG1 : Hid (Rd w1 lo g l ws v) := Lib.hid (HG.out.below hb1)
  have HT1 : Hid (Turn (mine g v) w w1) := Lib.hid (((Turn.refl _ w).alloc _).below hb1)
  have y1 := cell_at HB1.out 1
  have f1 := free_at HB1.out 1
  clear hb1 z1
  go_wp2_with fail
  have HW : Hid ((w1.setCell ⟨w.heap.size, 1, none⟩ (.string (bs s))).heap[w.heap.size]? = some (.cells #[.int .i64 k, .string (bs s), .int .i64 n] 73 (0, 0))) := Lib.hid (by rw [set_at HB1.out]; rfl)
  have HG2 : Hid (Rd (w1.setCell ⟨w.heap.size, 1, none⟩ (.string (bs s))) lo g l ws v) := Lib.hid (HG1.out.keep fun q hq => Below.heap_setCell w1 _ _ q (fun e => by have := (HH.out.lt q hq).2; dsimp at e; omega))
  have HT2 : Hid (Turn (mine g v) w (w1.setCell ⟨w.heap.size, 1, none⟩ (.string (bs s)))) := Lib.hid (HT1.out.setCell (.inr (Nat.le_refl _)) _)
  clear HB1 HG1 HT1 y1 f1
  generalize (w1.setCell ⟨w.heap.size, 1, none⟩ (.string (bs s))) = w2 at *
  have HD : Hid (Rd w2.drew lo g l ws v) := Lib.hid (HG2.out.keep fun _ _ => rfl)
  have HTD : Hid (Turn (mine g v) w w2.drew) := Lib.hid HT2.out.drew
  have HS : Hid (InG w2.drew g w.heap.size l v ⟨k, s, n⟩) := Lib.hid ⟨HD.out.at_, HW.out⟩
  have HGB : Hid (g < w.heap.size) := Lib.hid (HH.out.lt g (by simp [mine])).2
  clear HG2 HT2 HW HG HB
  refine AtS.start (by kernel_rfl) 10 (fun u => InG u g w.heap.size l v ⟨k, s, n⟩) (by kernel_rfl) (by kernel_rfl) ?_
  generalize w2.drew = u0 at *
  refine at_take 0 8 (.pointer (some ⟨g, 0, none⟩)) rfl rfl (by kernel_rfl) (by decide) (by decide) (fun _ _ _ h => h) rfl (HS.out) (fun w' hw' => ?_) ?_
  · exact rfl
  go_frame
  refine at_take 1 9 (.pointer (some ⟨g, 0, none⟩)) rfl rfl (by kernel_rfl) (by decide) (by decide) (fun _ _ _ h => h) rfl (HS.out) (fun w' hw' => ?_) ?_
  · exact rfl
  go_frame
  refine at_take 2 10 (.pointer (some ⟨g, 0, none⟩)) rfl rfl (by kernel_rfl) (by decide) (by decide) (fun _ _ _ h => h) rfl (HS.out) (fun w' hw' => ?_) ?_
  · go_simp
  go_frame
  refine at_take 3 11 (.pointer (some ⟨g, 1, none⟩)) rfl rfl (by kernel_rfl) (by decide) (by decide) (fun _ _ _ h => h) rfl (HS.out) (fun w' hw' => ?_) ?_
  · go_simp
  go_frame
  refine at_take 4 12 (v) rfl rfl (by kernel_rfl) (by decide) (by decide) (fun _ _ _ h => h) rfl (HS.out) (fun w' hw' => ?_) ?_
  · have h1 := cell_at hw'.1 1
    go_simp
  go_frame
  refine at_take 5 13 (.agg #[.int .i64 k, .string (bs s), .int .i64 n]) rfl rfl (by kernel_rfl) (by decide) (by decide) (fun _ _ _ h => h) rfl (HS.out) (fun w' hw' => ?_) ?_
  · have h0 := cell_at hw'.2 0
    have h1 := cell_at hw'.2 1
    have h2 := cell_at hw'.2 2
    go_simp
  go_frame
  have HA : Hid (Below u0.heap.size u0 (u0.alloc (.cells #[.int .i64 k, .string (bs s), .int .i64 n] 73))) := Lib.hid ((Below.refl _ u0).alloc (Nat.le_refl _) _)
  have HU : Hid (w.heap.size < u0.heap.size) := Lib.hid (lt_of_heap HS.out.2)
  have HS1 : Hid (InG (u0.alloc (.cells #[.int .i64 k, .string (bs s), .int .i64 n] 73)) g w.heap.size l v ⟨k, s, n⟩) := Lib.hid ⟨(HA.out.block _ (lt_of_heap HS.out.1)).trans HS.out.1, (HA.out.block _ HU.out).trans HS.out.2⟩
  refine at_run 6 14 (.slice (some ⟨u0.heap.size, 0, none⟩) 1 1) (u0.alloc (.cells #[.int .i64 k, .string (bs s), .int .i64 n] 73)) rfl rfl (by kernel_rfl) (by decide) rfl ?_ ?_ ?_
  · go_simp
  · exact HS1.out
  go_frame
  have HN := Lib.hid (heap_alloc_new u0 (.cells #[.int .i64 k, .string (bs s), .int .i64 n] 73 (0, 0)))
  have HD1 : Hid (Rd (u0.alloc (.cells #[.int .i64 k, .string (bs s), .int .i64 n] 73)) lo g l ws v) := Lib.hid (HD.out.below HA.out)
  have HT1 : Hid (Turn (mine g v) w (u0.alloc (.cells #[.int .i64 k, .string (bs s), .int .i64 n] 73))) := Lib.hid (HTD.out.below HA.out)
  have HL1 : Hid (lo ≤ (u0.alloc (.cells #[.int .i64 k, .string (bs s), .int .i64 n] 73)).heap.size) := Lib.hid (by have := HA.out.size; have := HU.out; have := HLO.out; omega)
  clear HA HS HD HTD
  generalize (u0.alloc (.cells #[.int .i64 k, .string (bs s), .int .i64 n] 73)) = u1 at *
  obtain ⟨v2, u2, hap, how, hgr, hbo⟩ := app_word u1 lo v ws ⟨k, s, n⟩ u0.heap.size HD1.out.own HN.out HL.out HL1.out
  obtain ⟨A2, n2, c2, rfl⟩ : ∃ A m c, v2 = .slice A m c := by obtain ⟨A, c, e⟩ := how.form; exact ⟨A, _, c, e⟩
  have HAP := Lib.hid hap
  have HR2 : Hid (u2.heap[g]? = some (.cells #[.string (bs l), v] 113 (0, 0)) ∧ OwnW u2 lo (.slice A2 n2 c2) (ws ++ [⟨k, s, n⟩]) ∧ (Value.slice A2 n2 c2).ownBlock ≠ some g ∧ Turn (mine g v) w u2 ∧ ∀ q ∈ mine g (.slice A2 n2 c2), q ∈ mine g v ∨ w.heap.size ≤ q) := Lib.hid (by
    have hsz : w.heap.size ≤ u1.heap.size := HT1.out.size
    refine ⟨(hgr.block g (lt_of_heap HD1.out.at_) (fun e => HD1.out.ne e.symm)).trans HD1.out.at_, how, ?_, HT1.out.grown hgr (fun q hq => .inl (by simp [mine, hq])), fun q hq => ?_⟩
    · rcases hbo with e | e
      · rw [e]; exact HD1.out.ne
      · rw [e]; intro e2; injection e2 with e2; have := HGB.out; omega
    · rcases List.mem_cons.1 hq with rfl | hq
      · exact .inl (by simp [mine])
      · have hq : (Value.slice A2 n2 c2).ownBlock = some q := by simpa using hq
        rcases hbo with e | e
        · exact .inl (by rw [e] at hq; simp [mine, hq])
        · rw [e] at hq; injection hq with hq; exact .inr (by omega))
  have HS2 : Hid (InG u2 g w.heap.size l v ⟨k, s, n⟩) := Lib.hid ⟨HR2.out.1, (hgr.block _ (by have := HU.out; have := lt_of_heap HS1.out.2; omega) (fun e => by have := (HH.out.own.lt _ e.symm).2; omega)).trans HS1.out.2⟩
  clear hap how hgr hbo
  refine at_app 7 15 (.slice A2 n2 c2) u2 rfl rfl (by kernel_rfl) (by decide) rfl (.tmp 12) (.tmp 14) rfl v (.slice (some ⟨u0.heap.size, 0, none⟩) 1 1) rfl rfl HAP.out HS2.out ?_
  go_frame
  clear HS1 HD1 HT1 HL1 HN HAP
  have HS := HS2
  refine at_take 8 16 (.pointer (some ⟨g, 0, none⟩)) rfl rfl (by kernel_rfl) (by decide) (by decide) (fun _ _ _ h => h) rfl (HS.out) (fun w' hw' => ?_) ?_
  · go_simp
  go_frame
  refine at_take 9 17 (.pointer (some ⟨g, 1, none⟩)) rfl rfl (by kernel_rfl) (by decide) (by decide) (fun _ _ _ h => h) rfl (HS.out) (fun w' hw' => ?_) ?_
  · go_simp
  go_frame
  have z0 := cell_at HR2.out.1 1
  have f0 := free_at HR2.out.1 1
  refine AtS.last (i := 10) (w' := u2.setCell ⟨g, 1, none⟩ (.slice A2 n2 c2)) rfl (by kernel_rfl) (by kernel_rfl) (by decide) rfl ?_ ?_
  · go_simp
  go_frame
  clear z0 f0
  go_wp2_with fail
  go_end0
  have hno : ∀ q, (Value.slice A2 n2 c2).ownBlock = some q → q ≠ g := fun q hq e => HR2.out.2.2.1 (by rw [hq, e])
  exact ⟨rfl, .slice A2 n2 c2, ⟨set_one HR2.out.1 _, HH.out.low, HR2.out.2.1.keep fun q hq => Below.heap_setCell u2 _ _ q (hno q hq), HR2.out.2.2.1⟩, HR2.out.2.2.2.1.setCell (.inl (by simp [mine])) _, HR2.out.2.2.2.2⟩
end Go.Proofs.YtlhbhpdpjidpgaaGreatDoor.Lex
/- Keys, what may end a statement, names; what stands before the first quote. No condition but the texts' sizes. -/
namespace Go.Proofs.YtlhbhpdpjidpgaaGreatDoor.Lex
open Go.RowKit
open Num (EndsW)
set_option maxRecDepth 100000
theorem bs_toList (l : List UInt8) : (bs l).toList = l := ByteArray.toList_mk l
set_option maxHeartbeats 4000000 in
theorem key_any (s : List UInt8) (w : World) : Calls Tryz.prog 59 #[.string (bs s)] w (EndsW (.bool (keyB s)) w) := by
  obtain ⟨S, hS, hk⟩ : ∃ S : ByteArray, S = bs s ∧ keyB s = keysL.contains S.toList := ⟨_, rfl, by rw [bs_toList]; rfl⟩
  rw [hk, ← hS]
  clear hk hS
  go_enter Tryz.func59, Tryz.ntmps59
  go_wp2
  all_goals go_ret
  all_goals exact ends_bool (by simp_all [keysL])
set_option maxHeartbeats 4000000 in
/-- A word in memory of its own. -/
theorem may_any (x : Wd) (w : World) : Calls Tryz.prog 115 #[wdV x] w (EndsB (.bool (mayB x)) w) := by
  obtain ⟨k, s, n⟩ := x
  unfold wdV
  dsimp only
  have hb := Lib.hid ((Below.refl _ w).alloc (Nat.le_refl _) (.cells #[.int .i64 k, .string (bs s), .int .i64 n] 73))
  have hz := heap_alloc_new w (.cells #[.int .i64 k, .string (bs s), .int .i64 n] 73 (0, 0))
  have z0 := cell_at hz 0
  have z1 := cell_at hz 1
  clear hz
  by_cases h1 : k = 1
  · subst h1
    go_enter Tryz.func115, Tryz.ntmps115
    go_wp2
    go_ret
    exact ⟨rfl, hb.out⟩
  by_cases h2 : k = 2
  · subst h2
    go_enter Tryz.func115, Tryz.ntmps115
    go_wp2
    go_ret
    exact ⟨rfl, hb.out⟩
  by_cases h3 : k = 3
  · subst h3
    go_enter Tryz.func115, Tryz.ntmps115
    go_wp2
    go_ret
    exact ⟨rfl, hb.out⟩
  have HM := Lib.hid (show mayB ⟨k, s, n⟩ = endsL.contains (bs s).toList by rw [bs_toList]; simp [mayB, h1, h2, h3])
  have g1 : (k == 1) = false := by simpa using h1
  have g2 : (k == 2) = false := by simpa using h2
  have g3 : (k == 3) = false := by simpa using h3
  clear h1 h2 h3
  go_enter Tryz.func115, Tryz.ntmps115
  generalize bs s = S at *
  go_wp2
  all_goals go_ret
  all_goals exact ⟨by show Ending.returned (Value.bool _) = Ending.returned (Value.bool _); rw [HM.out]; clear HM z0 z1 hb g1 g2 g3; congr 2; simp_all [endsL], hb.out⟩
end Go.Proofs.YtlhbhpdpjidpgaaGreatDoor.Lex
/- Names; what stands before the first quote; whether a text begins with a great letter. No condition but the texts' sizes. -/
namespace Go.Proofs.YtlhbhpdpjidpgaaGreatDoor.Lex
open Go.RowKit
open Num (EndsW)
set_option maxRecDepth 100000
theorem key_at (S : ByteArray) (w : World) : Calls Tryz.prog 59 #[.string S] w (EndsW (.bool (keyB S.data.toList)) w) := by
  have := key_any S.data.toList w
  rwa [bs_of] at this
theorem toList_data (S : ByteArray) : S.toList = S.data.toList := ByteArray.toList_eq S
theorem empty_of (S : ByteArray) (h : S.size = 0) : S = ⟨#[]⟩ := by
  apply ByteArray.ext
  exact Array.eq_empty_of_size_eq_zero h
theorem not_empty (S : ByteArray) (h : 0 < S.size) : (S.toList == []) = false := by
  rw [toList_data]
  have := len_bytes S
  cases h2 : S.data.toList with
  | nil => rw [h2] at this; simp at this; omega
  | cons c r => rfl
theorem rowN_all (p : UInt8 → Bool) (l : List UInt8) : decide (rowN p l = l.length) = l.all p := by
  unfold rowN
  induction l with
  | nil => simp
  | cons c r ih =>
    rw [List.takeWhile_cons, List.all_cons]
    cases p c
    · simp
    · simp only [if_true, List.length_cons, Bool.true_and]
      rw [← ih, decide_eq_decide]; omega
theorem cons_of (S : ByteArray) (h : 0 < S.size) : ∃ r, S.data.toList = S[0] :: r := by
  have hl := len_bytes S
  cases h2 : S.data.toList with
  | nil => rw [h2] at hl; simp at hl; omega
  | cons c r =>
    refine ⟨r, ?_⟩
    have : S.data.toList[0]'(by omega) = S[0] := rfl
    rw [← this]
    simp [h2]
theorem quiet_b {v : Value} {w : World} {e : Ending} {w' : World} (h : EndsW v w e w') : EndsB v w e w' := by
  obtain ⟨h1, rfl⟩ := h
  exact ⟨h1, Below.refl _ _⟩
theorem endsb_bool {a b : Bool} {w w' : World} (h : a = b) (hb : Below w.heap.size w w') : EndsB (.bool b) w (.returned (.bool a)) w' := by subst h; exact ⟨rfl, hb⟩
theorem wrap_byte (c : UInt8) : wrap32 (c.toNat : Int) = (c.toNat : Int) := by
  have := c.toNat_lt
  unfold wrap32; omega
set_option maxHeartbeats 2000000 in
theorem name_any (S : ByteArray) (w : World) (hs : S.size ≤ maxLen) : Calls Tryz.prog 72 #[.string S] w (EndsB (.bool (nameOk S.data.toList)) w) := by
  have HS := Lib.hid hs
  have hl := len_bytes S
  unfold maxLen at hs
  by_cases h0 : S.size = 0
  · obtain rfl := empty_of S h0
    clear h0 hl
    go_enter Tryz.func72, Tryz.ntmps72
    go_wp2
    go_ret
    exact ⟨rfl, Below.refl _ _⟩
  have h00 : 0 < S.size := by omega
  clear h0
  have e1 := not_empty S h00
  have e2 : (!S.toList.isEmpty) = true := by
    cases h : S.toList with
    | nil => rw [h] at e1; simp at e1
    | cons c r => rfl
  have HN : Hid (decide (S.data.toList = []) = false) := Lib.hid (by
    obtain ⟨r, hr⟩ := cons_of S h00
    rw [hr]; rfl)
  have HC := Lib.hid (cons_of S h00)
  by_cases h1 : 16 < S.size
  · have h1'' : decide ((16 : Int) < (S.size : Int)) = true := by simp; omega
    have H := Lib.hid (show nameOk S.data.toList = false by unfold nameOk; rw [show decide (16 < S.data.toList.length) = true by rw [hl]; simpa using h1]; simp)
    clear hl HC
    go_enter Tryz.func72, Tryz.ntmps72
    go_wp2
    go_ret
    exact endsb_bool H.out.symm (Below.refl _ _)
  have h1' : S.size ≤ 16 := by omega
  have h1'' : decide ((16 : Int) < (S.size : Int)) = false := by simp; omega
  rcases Bool.eq_false_or_eq_true (keyB S.data.toList) with hk | hk
  · have H := Lib.hid (show nameOk S.data.toList = false by unfold nameOk; rw [hk]; simp)
    have CK := Lib.hid (show Calls Tryz.prog 59 #[.string S] w (EndsW (.bool true) w) by have := key_at S w; rwa [hk] at this)
    clear hk hl HC
    go_enter Tryz.func72, Tryz.ntmps72
    go_wp2_with (go_at_call 59; refine CK.out.mono ?_; rintro e w' ⟨rfl, rfl⟩)
    go_ret
    exact endsb_bool H.out.symm (Below.refl _ _)
  have CK := Lib.hid (show Calls Tryz.prog 59 #[.string S] w (EndsW (.bool false) w) by have := key_at S w; rwa [hk] at this)
  rcases Bool.eq_false_or_eq_true (dig (S[0]'h00)) with hd | hd
  · have H := Lib.hid (show nameOk S.data.toList = false by
      obtain ⟨r, hr⟩ := HC.out
      unfold nameOk; rw [hr]; simp [hd])
    have CD := Lib.hid (show Calls Tryz.prog 101 #[.int .i32 (wrap32 ((S[0]'h00).toNat : Int))] w (EndsW (.bool true) w) by rw [wrap_byte]; have := digit_any ((S[0]'h00).toNat : Int) w; rwa [digI_nat, hd] at this)
    clear hk hd hl HC
    go_enter Tryz.func72, Tryz.ntmps72
    go_wp2_with (first | (go_at_call 59; refine CK.out.mono ?_; rintro e w' ⟨rfl, rfl⟩) | (go_at_call 101; refine CD.out.mono ?_; rintro e w' ⟨rfl, rfl⟩))
    go_ret
    exact endsb_bool H.out.symm (Below.refl _ _)
  have CD := Lib.hid (show Calls Tryz.prog 101 #[.int .i32 (wrap32 ((S[0]'h00).toNat : Int))] w (EndsW (.bool false) w) by rw [wrap_byte]; have := digit_any ((S[0]'h00).toNat : Int) w; rwa [digI_nat, hd] at this)
  have HA : Hid (nameOk S.data.toList = decide (rowN nameB S.data.toList = S.size)) := Lib.hid (by
    rw [← hl, rowN_all]
    have hh : decide (16 < S.data.toList.length) = false := by simp; omega
    obtain ⟨r, hr⟩ := HC.out
    unfold nameOk
    rw [HN.out, hh, hk]
    rw [hr]
    simp [hd])
  have CR := Lib.hid (row_name S w HS.out)
  clear hk hd hl HC HN h1
  go_enter Tryz.func72, Tryz.ntmps72
  generalize rowN nameB S.data.toList = m at *
  go_wp2_with (first | (go_at_call 59; refine CK.out.mono ?_; rintro e w' ⟨rfl, rfl⟩) | (go_at_call 101; refine CD.out.mono ?_; rintro e w' ⟨rfl, rfl⟩) | (go_at_call 102; refine CR.out.mono ?_; rintro e w1 ⟨rfl, hb⟩))
  all_goals go_ret
  all_goals exact endsb_bool (by rw [HA.out, Bool.eq_iff_iff]; simp; omega) (by assumption)
end Go.Proofs.YtlhbhpdpjidpgaaGreatDoor.Lex
