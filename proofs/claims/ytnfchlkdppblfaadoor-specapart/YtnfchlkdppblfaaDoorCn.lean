/- The library's strings.Builder and strings.Join, at this program's own numbers: the facts that their contracts in the guide's library ask. No conditions. -/
import Derived.Shelf.Strings.Builder1
import Derived.Shelf.Strings.Builder2
import Derived.Shelf.Strings.OnBuilder
import Derived.Test.YtnfchlkdppblfaaDoorProg
import Derived.Shelf.Strings.BuilderK
import Derived.Test.YtnfchlkdppblfaaDoorCl
import Derived.Test.YtnfchlkdppblfaaDoorBk
import Derived.Maps.AppendAt
namespace Go.Proofs
open Go.Shelf
def Tryd.lays169_ren : Go.Shelf.Ren := ⟨fun | 169 => 32 | n => n, fun | 70 => 61 | 9 => 9 | 0 => 0 | 72 => 63 | 37 => 22 | 127 => 104 | 3 => 3 | 5 => 5 | n => n, fun | n => n⟩
theorem Tryd.lays169 : Go.Proofs.Lays.n169 Tryd.prog Tryd.lays169_ren := {
  mixed := by kernel_rfl
  f169 := Tryd.func32.trans (congrArg some (by kernel_rfl))
  t0 := Tryd.underlying0
  a0 := Tryd.isAgg0
  z0 := Tryd.sizeOf0
  v0 := Tryd.zeroValue0
  t3 := Tryd.underlying3
  a3 := Tryd.isAgg3
  z3 := Tryd.sizeOf3
  v3 := Tryd.zeroValue3
  t9 := Tryd.underlying9
  a9 := Tryd.isAgg9
  z9 := Tryd.sizeOf9
  v9 := Tryd.zeroValue9
  t37 := Tryd.underlying22
  a37 := Tryd.isAgg22
  z37 := Tryd.sizeOf22
  v37 := Tryd.zeroValue22
  t70 := Tryd.underlying61
  a70 := Tryd.isAgg61
  z70 := Tryd.sizeOf61
  v70 := Tryd.zeroValue61
  t72 := Tryd.underlying63
  a72 := Tryd.isAgg63
  z72 := Tryd.sizeOf63
  v72 := Tryd.zeroValue63
  t127 := Tryd.underlying104
  a127 := Tryd.isAgg104
  z127 := Tryd.sizeOf104
  v127 := Tryd.zeroValue104 }
theorem Tryd.Builder_Extra_169 : Builder.Extra Tryd.prog Tryd.lays169_ren := {
  sizeBuilder := by kernel_rfl
  liesBuilder := by kernel_rfl
  t5 := Tryd.underlying5
  a5 := Tryd.isAgg5
  z5 := Tryd.sizeOf5
  v5 := Tryd.zeroValue5
  infoByte := by kernel_rfl
  cellsByte := by kernel_rfl
  sizeByte := by kernel_rfl
  neB5 := by decide }
open Go.RowKit in
/-- (*strings.Builder).String: "String returns the accumulated string.": OF A BUILDER THAT HOLDS AT LEAST ONE BYTE. ✋ THE MODEL FREEZES THOSE BYTES IN THE BUFFER (unsafe.String): a later write INTO them ends the model's run without an answer; a later append BEHIND them goes on. The statement's order of evaluation is drawn: one draw. (LAID: no walk: one application.) -/
theorem Tryd.Builder_String (B b : Nat) (l : List UInt8) (w : World) (h : Lib.IsBuilder 63 5 B b (Lib.byteCells l) w) (h0 : l ≠ []) :
    Calls Tryd.prog 32 #[.pointer (some ⟨b, 0, none⟩)] w fun e w' => e = .returned (.string ⟨l.toArray⟩) ∧ Below B w w' := Any.Builder_String Tryd.lays169 Tryd.Builder_Extra_169 B b l w h h0
open Go.RowKit in
/-- (*strings.Builder).String OF A BUILDER THAT HOLDS NO BYTE: the empty string. (Its buffer is nil, or a row of which it has taken nothing yet; where that row has NO capacity the model lays one new block for unsafe.SliceData's 'some address'.) One draw. (LAID: no walk: one application.) -/
theorem Tryd.Builder_String_empty (B b : Nat) (w : World) (h : Lib.IsBuilder 63 5 B b [] w) (hBw : B ≤ w.heap.size) :
    Calls Tryd.prog 32 #[.pointer (some ⟨b, 0, none⟩)] w fun e w' => e = .returned (.string ⟨#[]⟩) ∧ Below B w w' := Any.Builder_String_empty Tryd.lays169 Tryd.Builder_Extra_169 B b w h hBw
open Go.RowKit in
/-- (*strings.Builder).String: "String returns the accumulated string.": WHATEVER THE BUILDER HOLDS. (LAID: no walk: one application.) -/
theorem Tryd.Builder_String_any (B b : Nat) (l : List UInt8) (w : World) (h : Lib.IsBuilder 63 5 B b (Lib.byteCells l) w) (hBw : B ≤ w.heap.size) :
    Calls Tryd.prog 32 #[.pointer (some ⟨b, 0, none⟩)] w fun e w' => e = .returned (.string ⟨l.toArray⟩) ∧ Below B w w' := Any.Builder_String_any Tryd.lays169 Tryd.Builder_Extra_169 B b l w h hBw
def Tryd.lays241_ren : Go.Shelf.Ren := ⟨fun | 241 => 102 | 277 => 107 | n => n, fun | 70 => 61 | 3 => 3 | 0 => 0 | 72 => 63 | 37 => 22 | 5 => 5 | n => n, fun | n => n⟩
theorem Tryd.lays241 : Go.Proofs.Lays.n241 Tryd.prog Tryd.lays241_ren := {
  mixed := by kernel_rfl
  f241 := Tryd.func102.trans (congrArg some (by kernel_rfl))
  f277 := Tryd.func107.trans (congrArg some (by kernel_rfl))
  t0 := Tryd.underlying0
  a0 := Tryd.isAgg0
  z0 := Tryd.sizeOf0
  v0 := Tryd.zeroValue0
  t3 := Tryd.underlying3
  a3 := Tryd.isAgg3
  z3 := Tryd.sizeOf3
  v3 := Tryd.zeroValue3
  t37 := Tryd.underlying22
  a37 := Tryd.isAgg22
  z37 := Tryd.sizeOf22
  v37 := Tryd.zeroValue22
  t70 := Tryd.underlying61
  a70 := Tryd.isAgg61
  z70 := Tryd.sizeOf61
  v70 := Tryd.zeroValue61
  t72 := Tryd.underlying63
  a72 := Tryd.isAgg63
  z72 := Tryd.sizeOf63
  v72 := Tryd.zeroValue63 }
theorem Tryd.Builder_Extra_241 : Builder.Extra Tryd.prog Tryd.lays241_ren := {
  sizeBuilder := by kernel_rfl
  liesBuilder := by kernel_rfl
  t5 := Tryd.underlying5
  a5 := Tryd.isAgg5
  z5 := Tryd.sizeOf5
  v5 := Tryd.zeroValue5
  infoByte := by kernel_rfl
  cellsByte := by kernel_rfl
  sizeByte := by kernel_rfl
  neB5 := by decide }
open Go.RowKit in
/-- (*strings.Builder).grow (no doc but "grow copies the buffer to a new, larger buffer so that there are at least n bytes of capacity beyond len(b.buf)."): AT A BUILDER WITHOUT A BUFFER: a new row of whatever bytes for its buffer, none of them its own yet. Three draws. (LAID: no walk: one application.) -/
theorem Tryd.Builder_grow_fresh (B b n : Nat) (w : World) (hB : B ≤ b) (hbk : w.heap[b]? = some (.cells #[.pointer (some ⟨b, 0, none⟩), .slice none 0 0] 63 (0, 0))) (hBw : B ≤ w.heap.size) (hn : n ≤ 281474976710656) :
    Calls Tryd.prog 102 #[.pointer (some ⟨b, 0, none⟩), .int .i64 n] w fun e w' => e = .returned (.tuple #[]) ∧ (Lib.BuilderAt 63 5 B b (.pointer (some ⟨b, 0, none⟩)) [] w' ∧ Below B w w') := Any.Builder_grow_fresh Tryd.lays241 Tryd.Builder_Extra_241 B b n w hB hbk hBw hn
def Tryd.lays165_ren : Go.Shelf.Ren := ⟨fun | 165 => 98 | 240 => 57 | 241 => 102 | 276 => 76 | 277 => 107 | n => n, fun | 70 => 61 | 3 => 3 | 0 => 0 | 4 => 4 | 9 => 9 | 20 => 20 | 72 => 63 | 37 => 22 | 164 => 118 | 5 => 5 | n => n, fun | n => n⟩
theorem Tryd.lays165 : Go.Proofs.Lays.n165 Tryd.prog Tryd.lays165_ren := {
  mixed := by kernel_rfl
  f165 := Tryd.func98.trans (congrArg some (by kernel_rfl))
  f240 := Tryd.func57.trans (congrArg some (by kernel_rfl))
  f241 := Tryd.func102.trans (congrArg some (by kernel_rfl))
  f276 := Tryd.func76.trans (congrArg some (by kernel_rfl))
  f277 := Tryd.func107.trans (congrArg some (by kernel_rfl))
  t0 := Tryd.underlying0
  a0 := Tryd.isAgg0
  z0 := Tryd.sizeOf0
  v0 := Tryd.zeroValue0
  t3 := Tryd.underlying3
  a3 := Tryd.isAgg3
  z3 := Tryd.sizeOf3
  v3 := Tryd.zeroValue3
  t4 := Tryd.underlying4
  a4 := Tryd.isAgg4
  z4 := Tryd.sizeOf4
  v4 := Tryd.zeroValue4
  t9 := Tryd.underlying9
  a9 := Tryd.isAgg9
  z9 := Tryd.sizeOf9
  v9 := Tryd.zeroValue9
  t20 := Tryd.underlying20
  a20 := Tryd.isAgg20
  z20 := Tryd.sizeOf20
  v20 := Tryd.zeroValue20
  t37 := Tryd.underlying22
  a37 := Tryd.isAgg22
  z37 := Tryd.sizeOf22
  v37 := Tryd.zeroValue22
  t70 := Tryd.underlying61
  a70 := Tryd.isAgg61
  z70 := Tryd.sizeOf61
  v70 := Tryd.zeroValue61
  t72 := Tryd.underlying63
  a72 := Tryd.isAgg63
  z72 := Tryd.sizeOf63
  v72 := Tryd.zeroValue63
  t164 := Tryd.underlying118
  a164 := Tryd.isAgg118
  z164 := Tryd.sizeOf118
  v164 := Tryd.zeroValue118 }
theorem Tryd.Builder_Extra_165 : Builder.Extra Tryd.prog Tryd.lays165_ren := {
  sizeBuilder := by kernel_rfl
  liesBuilder := by kernel_rfl
  t5 := Tryd.underlying5
  a5 := Tryd.isAgg5
  z5 := Tryd.sizeOf5
  v5 := Tryd.zeroValue5
  infoByte := by kernel_rfl
  cellsByte := by kernel_rfl
  sizeByte := by kernel_rfl
  neB5 := by decide }
open Go.RowKit in
/-- (*strings.Builder).Grow AT A BUILDER THAT HAS NOT BEEN WRITTEN ('var b strings.Builder; b.Grow(n)'): "Grow grows b's capacity, if necessary, to guarantee space for another n bytes.": it holds no byte behind it as before it. (LAID: no walk: one application.) -/
theorem Tryd.Builder_Grow_fresh (B b n : Nat) (w : World) (hB : B ≤ b) (hbk : w.heap[b]? = some (.cells #[.pointer none, .slice none 0 0] 63 (0, 0))) (hBw : B ≤ w.heap.size) (hn : n ≤ 281474976710656) :
    Calls Tryd.prog 98 #[.pointer (some ⟨b, 0, none⟩), .int .i64 n] w fun e w' => e = .returned (.tuple #[]) ∧ (Lib.BuilderAt 63 5 B b (.pointer (some ⟨b, 0, none⟩)) [] w' ∧ Below B w w') := Any.Builder_Grow_fresh Tryd.lays165 Tryd.Builder_Extra_165 B b n w hB hbk hBw hn
def Tryd.lays156_ren : Go.Shelf.Ren := ⟨fun | 156 => 91 | 165 => 98 | 166 => 30 | 169 => 32 | 240 => 57 | 241 => 102 | 276 => 76 | 277 => 107 | n => n, fun | 31 => 126 | 9 => 9 | 3 => 3 | 4 => 4 | 0 => 0 | 20 => 20 | 72 => 63 | 76 => 69 | 70 => 61 | 37 => 22 | 75 => 68 | 127 => 104 | 164 => 118 | 5 => 5 | 80 => 72 | n => n, fun | n => n⟩
theorem Tryd.lays156 : Go.Proofs.Lays.n156 Tryd.prog Tryd.lays156_ren := {
  mixed := by kernel_rfl
  f156 := Tryd.func91.trans (congrArg some (by kernel_rfl))
  f165 := Tryd.func98.trans (congrArg some (by kernel_rfl))
  f166 := Tryd.func30.trans (congrArg some (by kernel_rfl))
  f169 := Tryd.func32.trans (congrArg some (by kernel_rfl))
  f240 := Tryd.func57.trans (congrArg some (by kernel_rfl))
  f241 := Tryd.func102.trans (congrArg some (by kernel_rfl))
  f276 := Tryd.func76.trans (congrArg some (by kernel_rfl))
  f277 := Tryd.func107.trans (congrArg some (by kernel_rfl))
  t0 := Tryd.underlying0
  a0 := Tryd.isAgg0
  z0 := Tryd.sizeOf0
  v0 := Tryd.zeroValue0
  t3 := Tryd.underlying3
  a3 := Tryd.isAgg3
  z3 := Tryd.sizeOf3
  v3 := Tryd.zeroValue3
  t4 := Tryd.underlying4
  a4 := Tryd.isAgg4
  z4 := Tryd.sizeOf4
  v4 := Tryd.zeroValue4
  t9 := Tryd.underlying9
  a9 := Tryd.isAgg9
  z9 := Tryd.sizeOf9
  v9 := Tryd.zeroValue9
  t20 := Tryd.underlying20
  a20 := Tryd.isAgg20
  z20 := Tryd.sizeOf20
  v20 := Tryd.zeroValue20
  t31 := Tryd.underlying126
  a31 := Tryd.isAgg126
  z31 := Tryd.sizeOf126
  v31 := Tryd.zeroValue126
  t37 := Tryd.underlying22
  a37 := Tryd.isAgg22
  z37 := Tryd.sizeOf22
  v37 := Tryd.zeroValue22
  t70 := Tryd.underlying61
  a70 := Tryd.isAgg61
  z70 := Tryd.sizeOf61
  v70 := Tryd.zeroValue61
  t72 := Tryd.underlying63
  a72 := Tryd.isAgg63
  z72 := Tryd.sizeOf63
  v72 := Tryd.zeroValue63
  t75 := Tryd.underlying68
  a75 := Tryd.isAgg68
  z75 := Tryd.sizeOf68
  v75 := Tryd.zeroValue68
  t76 := Tryd.underlying69
  a76 := Tryd.isAgg69
  z76 := Tryd.sizeOf69
  v76 := Tryd.zeroValue69
  t127 := Tryd.underlying104
  a127 := Tryd.isAgg104
  z127 := Tryd.sizeOf104
  v127 := Tryd.zeroValue104
  t164 := Tryd.underlying118
  a164 := Tryd.isAgg118
  z164 := Tryd.sizeOf118
  v164 := Tryd.zeroValue118 }
theorem Tryd.Builder_Extra_156 : Builder.Extra Tryd.prog Tryd.lays156_ren := {
  sizeBuilder := by kernel_rfl
  liesBuilder := by kernel_rfl
  t5 := Tryd.underlying5
  a5 := Tryd.isAgg5
  z5 := Tryd.sizeOf5
  v5 := Tryd.zeroValue5
  infoByte := by kernel_rfl
  cellsByte := by kernel_rfl
  sizeByte := by kernel_rfl
  neB5 := by decide }
open Go.RowKit in
/-- No element: the empty string; the world is as it was. (Whatever the slice's address and capacity: a nil slice too.) (LAID: no walk: one application.) -/
theorem Tryd.strings_Join_none (a : Option Addr) (c : Nat) (sep : ByteArray) (w : World) :
    Calls Tryd.prog 91 #[.slice a 0 c, .string sep] w fun e w' => e = .returned (.string ⟨#[]⟩) ∧ w' = w := Any.strings_Join_none Tryd.lays156 Tryd.Builder_Extra_156 a c sep w
open Go.RowKit in
/-- strings.Join: "Join concatenates the elements of its first argument to create a single string. The separator string sep is placed between elements in the resulting string.": HOWEVER MANY ELEMENTS. Below the heap's end the world is as it was. (LAID: no walk: one application.) -/
theorem Tryd.strings_Join (bk o c : Nat) (xs : List ByteArray) (sep : ByteArray) (w : World) (hcells : ∀ (j : Nat) x, xs[j]? = some x → w.cell? ⟨bk, o + j, none⟩ = some (.string x)) (hbk : bk < w.heap.size) (hN : xs.length ≤ 140737488355328) (hcap : xs.length ≤ c) (hlen : (Lib.join (xs.map (·.data.toList)) sep.data.toList).length ≤ 140737488355328) :
    Calls Tryd.prog 91 #[.slice (some ⟨bk, o, none⟩) xs.length c, .string sep] w fun e w' => e = .returned (.string ⟨(Lib.join (xs.map (·.data.toList)) sep.data.toList).toArray⟩) ∧ Below w.heap.size w w' := Any.strings_Join Tryd.lays156 Tryd.Builder_Extra_156 bk o c xs sep w hcells hbk hN hcap hlen
def Tryd.wb_ren : Go.Shelf.Ren := ⟨fun | 167 => 31 | n => Tryd.lays156_ren.f n, Tryd.lays156_ren.t, Tryd.lays156_ren.g⟩
theorem Tryd.lays167 : Go.Proofs.Lays.n167 Tryd.prog Tryd.wb_ren := {
  mixed := by kernel_rfl
  f167 := Tryd.func31.trans (congrArg some (by kernel_rfl))
  f240 := Tryd.func57.trans (congrArg some (by kernel_rfl))
  f276 := Tryd.func76.trans (congrArg some (by kernel_rfl))
  t0 := Tryd.underlying0
  a0 := Tryd.isAgg0
  z0 := Tryd.sizeOf0
  v0 := Tryd.zeroValue0
  t4 := Tryd.underlying4
  a4 := Tryd.isAgg4
  z4 := Tryd.sizeOf4
  v4 := Tryd.zeroValue4
  t5 := Tryd.underlying5
  a5 := Tryd.isAgg5
  z5 := Tryd.sizeOf5
  v5 := Tryd.zeroValue5
  t9 := Tryd.underlying9
  a9 := Tryd.isAgg9
  z9 := Tryd.sizeOf9
  v9 := Tryd.zeroValue9
  t20 := Tryd.underlying20
  a20 := Tryd.isAgg20
  z20 := Tryd.sizeOf20
  v20 := Tryd.zeroValue20
  t37 := Tryd.underlying22
  a37 := Tryd.isAgg22
  z37 := Tryd.sizeOf22
  v37 := Tryd.zeroValue22
  t70 := Tryd.underlying61
  a70 := Tryd.isAgg61
  z70 := Tryd.sizeOf61
  v70 := Tryd.zeroValue61
  t72 := Tryd.underlying63
  a72 := Tryd.isAgg63
  z72 := Tryd.sizeOf63
  v72 := Tryd.zeroValue63
  t75 := Tryd.underlying68
  a75 := Tryd.isAgg68
  z75 := Tryd.sizeOf68
  v75 := Tryd.zeroValue68
  t164 := Tryd.underlying118
  a164 := Tryd.isAgg118
  z164 := Tryd.sizeOf118
  v164 := Tryd.zeroValue118 }
theorem Tryd.Builder_Extra_167 : Builder.Extra Tryd.prog Tryd.wb_ren := {
  sizeBuilder := by kernel_rfl
  liesBuilder := by kernel_rfl
  t5 := Tryd.underlying5
  a5 := Tryd.isAgg5
  z5 := Tryd.sizeOf5
  v5 := Tryd.zeroValue5
  infoByte := by kernel_rfl
  cellsByte := by kernel_rfl
  sizeByte := by kernel_rfl
  neB5 := by decide }
open Go.RowKit in
theorem Tryd.Builder_WriteByte (B b : Nat) (bs : List Value) (c : Int) (w : World) (h : Lib.IsBuilder 63 5 B b bs w) (hlen : bs.length + 1 ≤ 140737488355328) (hBw : B ≤ w.heap.size) :
    Calls Tryd.prog 31 #[.pointer (some ⟨b, 0, none⟩), .int .u8 c] w fun e w' => e = .returned .nilIface ∧ (Lib.BuilderAt 63 5 B b (.pointer (some ⟨b, 0, none⟩)) (bs ++ [.int .u8 c]) w' ∧ Below B w w') := Any.Builder_WriteByte Tryd.lays167 Tryd.Builder_Extra_167 B b bs c w h hlen hBw
open Go.RowKit in
theorem Tryd.Builder_WriteString (B b : Nat) (bs : List Value) (s : ByteArray) (w : World) (h : Lib.IsBuilder 63 5 B b bs w) (hlen : bs.length + s.size ≤ 140737488355328) (hBw : B ≤ w.heap.size) :
    Calls Tryd.prog 30 #[.pointer (some ⟨b, 0, none⟩), .string s] w fun e w' => e = .returned (.tuple #[.int .i64 s.size, .nilIface]) ∧ (Lib.BuilderAt 63 5 B b (.pointer (some ⟨b, 0, none⟩)) (bs ++ Lib.strCells s) w' ∧ Below B w w') := Any.Builder_WriteString { Tryd.lays156 with } Tryd.Builder_Extra_156 B b bs s w h hlen hBw
end Go.Proofs
/- The forms of the library's strings.Builder that keep what lies above it, at this program's own numbers. No conditions. -/
namespace Go.Proofs
open Go.Shelf
open Go.RowKit in
theorem Tryd.Builder_WriteByte_k (B b : Nat) (bs : List Value) (c : Int) (w : World) (h : Lib.IsBuilderF 63 5 B b bs w) (hlen : bs.length + 1 ≤ 140737488355328) (hBw : B ≤ w.heap.size) :
    Calls Tryd.prog 31 #[.pointer (some ⟨b, 0, none⟩), .int .u8 c] w fun e w' => e = .returned .nilIface ∧ (Lib.BuilderAtF 63 5 B b (.pointer (some ⟨b, 0, none⟩)) (bs ++ [.int .u8 c]) w' ∧ Below B w w' ∧ Lib.OthersKept 5 (some b) w w') := Any.Builder_WriteByte_k Tryd.lays167 Tryd.Builder_Extra_167 B b bs c w h hlen hBw
open Go.RowKit in
theorem Tryd.Builder_WriteString_k (B b : Nat) (bs : List Value) (s : ByteArray) (w : World) (h : Lib.IsBuilderF 63 5 B b bs w) (hlen : bs.length + s.size ≤ 140737488355328) (hBw : B ≤ w.heap.size) :
    Calls Tryd.prog 30 #[.pointer (some ⟨b, 0, none⟩), .string s] w fun e w' => e = .returned (.tuple #[.int .i64 s.size, .nilIface]) ∧ (Lib.BuilderAtF 63 5 B b (.pointer (some ⟨b, 0, none⟩)) (bs ++ Lib.strCells s) w' ∧ Below B w w' ∧ Lib.OthersKept 5 (some b) w w') := Any.Builder_WriteString_k { Tryd.lays156 with } Tryd.Builder_Extra_156 B b bs s w h hlen hBw
open Go.RowKit in
theorem Tryd.Builder_String_any_k (B b : Nat) (l : List UInt8) (w : World) (h : Lib.IsBuilderF 63 5 B b (Lib.byteCells l) w) (hBw : B ≤ w.heap.size) :
    Calls Tryd.prog 32 #[.pointer (some ⟨b, 0, none⟩)] w fun e w' => e = .returned (.string ⟨l.toArray⟩) ∧ (Lib.IsBuilderF 63 5 B b (Lib.byteCells l) w' ∧ Below B w w' ∧ Lib.OthersKept 5 (some b) w w') := Any.Builder_String_any_k Tryd.lays169 Tryd.Builder_Extra_169 B b l w h hBw
end Go.Proofs
/- Contracts of the landed code's condLine, text, patternText, matchText. -/
namespace Go.Proofs.YtnfchlkdppblfaaDoor
open Go.RowKit
/-- A name's bytes. -/
def nmL (c : Cn) : List UInt8 := c.nm.data.toList
theorem nm_eta (s : ByteArray) : ∃ l : List UInt8, s = ⟨l.toArray⟩ ∧ l = s.data.toList ∧ l.length = s.size := ⟨s.data.toList, by cases s; simp, rfl, by cases s; simp [ByteArray.size]⟩
def condT (c : Cn) : List UInt8 := [37, if c.ex = true then 120 else 115, 32] ++ nmL c
set_option maxRecDepth 100000 in
theorem condLine_any (c : Cn) (w : World) (hn : c.nm.size ≤ 12) : Calls Tryd.prog 55 #[condV c] w fun e w' => e = .returned (strV (condT c)) ∧ Below w.heap.size w w' := by
  obtain ⟨nm, ex⟩ := c
  obtain ⟨l, rfl, hl, hs⟩ := nm_eta nm
  have hl12 : l.length ≤ 12 := by rw [hs]; exact hn
  have HL := Lib.hid hl
  clear hn hl hs
  cases ex
  · have ha := fun w => str_add [37, 115, 32] l (by simp only [List.length_cons, List.length_nil]; omega) w
    have HX := Lib.hid (show condT ⟨⟨l.toArray⟩, false⟩ = [37, 115, 32] ++ l by unfold condT nmL; simp)
    rw [HX.out]
    generalize [37, 115, 32] ++ l = U at *
    clear HX HL
    go_enter Tryd.func55, Tryd.ntmps55
    go_wp2
    go_ret
    exact ⟨rfl, alloc_below _ _⟩
  · have ha := fun w => str_add [37, 120, 32] l (by simp only [List.length_cons, List.length_nil]; omega) w
    have HX := Lib.hid (show condT ⟨⟨l.toArray⟩, true⟩ = [37, 120, 32] ++ l by unfold condT nmL; simp)
    rw [HX.out]
    generalize [37, 120, 32] ++ l = U at *
    clear HX HL
    go_enter Tryd.func55, Tryd.ntmps55
    go_wp2
    go_ret
    exact ⟨rfl, alloc_below _ _⟩
/-- What a rule does, printed. -/
def actT (act : Int) (l : List UInt8) : List UInt8 := if act = 1 then [101, 109, 105, 116] else if act = 2 then [115, 107, 105, 112] else [98, 101, 103, 105, 110, 32] ++ l
set_option maxRecDepth 100000 in
theorem action_text (act : Int) (l : List UInt8) (w : World) (hl : l.length ≤ 12) : Calls Tryd.prog 75 #[.agg #[.int .i64 act, .string ⟨l.toArray⟩]] w fun e w' => e = .returned (strV (actT act l)) ∧ Below w.heap.size w w' := by
  obtain ⟨X, hX⟩ : ∃ X, X = actT act l := ⟨_, rfl⟩
  rw [← hX]
  unfold actT at hX
  by_cases h1 : act = 1
  · subst h1
    rw [if_pos rfl] at hX
    subst hX
    go_enter Tryd.func75, Tryd.ntmps75
    go_wp2
    go_ret
    exact ⟨rfl, alloc_below _ _⟩
  · have h1' : (act == 1) = false := by simp [h1]
    rw [if_neg h1] at hX
    by_cases h2 : act = 2
    · subst h2
      rw [if_pos rfl] at hX
      subst hX
      go_enter Tryd.func75, Tryd.ntmps75
      go_wp2
      go_ret
      exact ⟨rfl, alloc_below _ _⟩
    · have h2' : (act == 2) = false := by simp [h2]
      rw [if_neg h2] at hX
      have ha := fun w => str_add [98, 101, 103, 105, 110, 32] l (by simp only [List.length_cons, List.length_nil]; omega) w
      rw [← hX] at ha
      clear hX
      go_enter Tryd.func75, Tryd.ntmps75
      go_wp2
      go_ret
      exact ⟨rfl, alloc_below _ _⟩
set_option maxRecDepth 100000 in
set_option maxHeartbeats 1000000 in
theorem patternText_any (t : Tr) (w : World) (hL : Lives w w.heap.size t) (hr : rightB t = true) : Calls Tryd.prog 92 #[t.val] w fun e w' => e = .returned (strV (txt t)) ∧ Below w.heap.size w w' := by
  have HP := Lib.hid (fun w1 (hb : Below w.heap.size w w1) => print_any t w1 (hL.now hb))
  have HV := Lib.hid (show printV t = .tuple #[.string ⟨(txt t).toArray⟩, .int .i64 0] by unfold printV; rw [if_pos hr])
  rw [HV.out] at HP
  clear hL hr HV
  obtain ⟨T, hT⟩ : ∃ T, T = txt t := ⟨_, rfl⟩
  rw [← hT] at HP ⊢
  clear hT
  show Calls Tryd.prog 92 #[nodeV t.k t.s t.lo t.hi (.slice t.a t.n t.cap)] w _
  go_enter Tryd.func92, Tryd.ntmps92
  go_wp2_with fail
  refine (HP.out _ (alloc_below _ _)).mono ?_
  rintro e w1 ⟨rfl, hb1⟩
  have HB1 := Lib.hid (box_below hb1)
  clear hb1
  go_wp2
  go_ret
  exact ⟨rfl, HB1.out⟩
/-- What a rule matches, printed. -/
def matchT (r : Rl) : List UInt8 := if r.eof = true then [60, 60, 69, 79, 70, 62, 62] else if noneB r.tr = true then (if r.bol = true then [94] ++ txt r.rx else txt r.rx) else (if r.bol = true then [94] ++ txt r.rx else txt r.rx) ++ ([47] ++ txt r.tr)
theorem txt_right {t : Tr} (h : rightB t = true) : (txt t).length ≤ 3000000 ∧ cnt t ≤ 1000 := by
  have h1 := txt_len t
  unfold rightB at h
  simp only [Bool.and_eq_true, decide_eq_true_eq] at h
  have := h.2.1
  omega
set_option maxRecDepth 100000 in
set_option maxHeartbeats 4000000 in
theorem matchText_any (r : Rl) (w : World) (hx : Lives w w.heap.size r.rx) (ht : Lives w w.heap.size r.tr) (ct : cnt r.tr ≤ 2000) (hp : patB r = true) : Calls Tryd.prog 74 #[ruleV r] w fun e w' => e = .returned (strV (matchT r)) ∧ Below w.heap.size w w' := by
  obtain ⟨ca, cn, cc, cs, al, bo, rx, tr, ef, ac, to⟩ := r
  dsimp only at hx ht ct
  unfold patB at hp
  dsimp only at hp
  have HNT : Hid (∀ o w1, Bx w o w1 → Calls Tryd.prog 90 #[nodeV tr.k tr.s tr.lo tr.hi (.slice tr.a tr.n tr.cap)] w1 fun e w' => e = .returned (.bool (noneB tr)) ∧ Bx w o w') := Lib.hid fun o w1 hb => (isNone_any tr w1 (ht.now hb.out) ct).mono fun e w' h => ⟨h.1, hb.to h.2⟩
  obtain ⟨X, hX⟩ : ∃ X, X = matchT ⟨ca, cn, cc, cs, al, bo, rx, tr, ef, ac, to⟩ := ⟨_, rfl⟩
  rw [← hX]
  unfold matchT at hX
  dsimp only at hX
  cases ef
  · simp only [Bool.false_eq_true, if_false, Bool.and_eq_true, Bool.or_eq_true] at hp hX
    have HPX : Hid (∀ o w1, Bx w o w1 → Calls Tryd.prog 92 #[nodeV rx.k rx.s rx.lo rx.hi (.slice rx.a rx.n rx.cap)] w1 fun e w' => e = .returned (strV (txt rx)) ∧ Bx w o w') := Lib.hid fun o w1 hb => (patternText_any rx w1 (hx.now hb.out) hp.1).mono fun e w' h => ⟨h.1, hb.to h.2⟩
    have hlx := (txt_right hp.1).1
    cases hn : noneB tr
    · have hrt : rightB tr = true := hp.2.resolve_left (by rw [hn]; simp)
      have HPT : Hid (∀ o w1, Bx w o w1 → Calls Tryd.prog 92 #[nodeV tr.k tr.s tr.lo tr.hi (.slice tr.a tr.n tr.cap)] w1 fun e w' => e = .returned (strV (txt tr)) ∧ Bx w o w') := Lib.hid fun o w1 hb => (patternText_any tr w1 (ht.now hb.out) hrt).mono fun e w' h => ⟨h.1, hb.to h.2⟩
      have hlt := (txt_right hrt).1
      rw [hn] at HNT hX
      simp only [Bool.false_eq_true, if_false] at hX
      obtain ⟨T, hT⟩ : ∃ T, T = txt rx := ⟨_, rfl⟩
      obtain ⟨U, hU⟩ : ∃ U, U = txt tr := ⟨_, rfl⟩
      rw [← hT] at HPX hX hlx
      rw [← hU] at HPT hX hlt
      clear hT hU hn hp hrt hx ht
      have ha2 := fun w => str_add [47] U (by simp only [List.length_cons, List.length_nil]; omega) w
      obtain ⟨V, hV⟩ : ∃ V, V = [47] ++ U := ⟨_, rfl⟩
      have hlv : V.length ≤ 3000001 := by rw [hV]; simp; omega
      rw [← hV] at ha2 hX
      clear hV
      cases bo
      · simp only [Bool.false_eq_true, if_false] at hX
        have ha3 := fun w => str_add T V (by omega) w
        rw [← hX] at ha3
        clear hX
        go_enter Tryd.func74, Tryd.ntmps74
        go_wp2_with (first
          | (go_at_call 92; refine (HPT.out _ _ hb2).mono ?_; rintro e w3 ⟨rfl, hb3⟩)
          | (go_at_call 90; refine (HNT.out _ _ hb1).mono ?_; rintro e w2 ⟨rfl, hb2⟩; clear x0 x1 x2 x3 x4 x5 x6 x7 x8 x9 x10 x11 x12 x13 x14 x15 x16 x17 x18 x19 x20 x21; obtain ⟨x0, x1, x2, x3, x4, x5, x6, x7, x8, x9, x10, x11, x12, x13, x14, x15, x16, x17, x18, x19, x20, x21⟩ := cell22 (r := ⟨ca, cn, cc, cs, al, false, rx, tr, false, ac, to⟩) (box_kept hb2))
          | (go_at_call 92; refine (HPX.out _ _ (Bx.refl _ _)).mono ?_; rintro e w1 ⟨rfl, hb1⟩; obtain ⟨x0, x1, x2, x3, x4, x5, x6, x7, x8, x9, x10, x11, x12, x13, x14, x15, x16, x17, x18, x19, x20, x21⟩ := cell22 (r := ⟨ca, cn, cc, cs, al, false, rx, tr, false, ac, to⟩) (box_kept hb1)))
        go_ret
        exact ⟨rfl, hb3.out⟩
      · simp only [if_true] at hX
        have ha1 := fun w => str_add [94] T (by simp only [List.length_cons, List.length_nil]; omega) w
        obtain ⟨T1, hT1⟩ : ∃ V, V = [94] ++ T := ⟨_, rfl⟩
        have hl1 : T1.length ≤ 3000001 := by rw [hT1]; simp; omega
        rw [← hT1] at ha1 hX
        clear hT1
        have ha3 := fun w => str_add T1 V (by omega) w
        rw [← hX] at ha3
        clear hX
        go_enter Tryd.func74, Tryd.ntmps74
        go_wp2_with (first
          | (go_at_call 92; refine (HPT.out _ _ hb2).mono ?_; rintro e w3 ⟨rfl, hb3⟩)
          | (go_at_call 90; refine (HNT.out _ _ hb1).mono ?_; rintro e w2 ⟨rfl, hb2⟩; clear x0 x1 x2 x3 x4 x5 x6 x7 x8 x9 x10 x11 x12 x13 x14 x15 x16 x17 x18 x19 x20 x21; obtain ⟨x0, x1, x2, x3, x4, x5, x6, x7, x8, x9, x10, x11, x12, x13, x14, x15, x16, x17, x18, x19, x20, x21⟩ := cell22 (r := ⟨ca, cn, cc, cs, al, true, rx, tr, false, ac, to⟩) (box_kept hb2))
          | (go_at_call 92; refine (HPX.out _ _ (Bx.refl _ _)).mono ?_; rintro e w1 ⟨rfl, hb1⟩; obtain ⟨x0, x1, x2, x3, x4, x5, x6, x7, x8, x9, x10, x11, x12, x13, x14, x15, x16, x17, x18, x19, x20, x21⟩ := cell22 (r := ⟨ca, cn, cc, cs, al, true, rx, tr, false, ac, to⟩) (box_kept hb1)))
        go_ret
        exact ⟨rfl, hb3.out⟩
    · rw [hn] at HNT hX
      simp only [if_true] at hX
      obtain ⟨T, hT⟩ : ∃ T, T = txt rx := ⟨_, rfl⟩
      rw [← hT] at HPX hX hlx
      clear hT hn hp hx ht
      cases bo
      · simp only [Bool.false_eq_true, if_false] at hX
        subst hX
        go_enter Tryd.func74, Tryd.ntmps74
        go_wp2_with (first
          | (go_at_call 90; refine (HNT.out _ _ hb1).mono ?_; rintro e w2 ⟨rfl, hb2⟩)
          | (go_at_call 92; refine (HPX.out _ _ (Bx.refl _ _)).mono ?_; rintro e w1 ⟨rfl, hb1⟩; obtain ⟨x0, x1, x2, x3, x4, x5, x6, x7, x8, x9, x10, x11, x12, x13, x14, x15, x16, x17, x18, x19, x20, x21⟩ := cell22 (r := ⟨ca, cn, cc, cs, al, false, rx, tr, false, ac, to⟩) (box_kept hb1)))
        go_ret
        exact ⟨rfl, hb2.out⟩
      · simp only [if_true] at hX
        have ha1 := fun w => str_add [94] T (by simp only [List.length_cons, List.length_nil]; omega) w
        rw [← hX] at ha1
        clear hX
        go_enter Tryd.func74, Tryd.ntmps74
        go_wp2_with (first
          | (go_at_call 90; refine (HNT.out _ _ hb1).mono ?_; rintro e w2 ⟨rfl, hb2⟩)
          | (go_at_call 92; refine (HPX.out _ _ (Bx.refl _ _)).mono ?_; rintro e w1 ⟨rfl, hb1⟩; obtain ⟨x0, x1, x2, x3, x4, x5, x6, x7, x8, x9, x10, x11, x12, x13, x14, x15, x16, x17, x18, x19, x20, x21⟩ := cell22 (r := ⟨ca, cn, cc, cs, al, true, rx, tr, false, ac, to⟩) (box_kept hb1)))
        go_ret
        exact ⟨rfl, hb2.out⟩
  · simp only [if_true] at hX
    subst hX
    clear hp HNT hx ht
    go_enter Tryd.func74, Tryd.ntmps74
    go_wp2
    go_ret
    exact ⟨rfl, alloc_below _ _⟩
end Go.Proofs.YtnfchlkdppblfaaDoor
/- Contract of the landed code's startsText. -/
namespace Go.Proofs.YtnfchlkdppblfaaDoor
open Go.RowKit Go
theorem ris_le {f : Nat → Int} {n : Int} : ∀ {j : Nat}, risB f n j = true → ∀ i, i < j → (i : Int) ≤ f i ∧ f i < n := by
  intro j h i
  have hi := allTo_iff.1 h
  simp only [Bool.and_eq_true, decide_eq_true_eq] at hi
  induction i with
  | zero => intro hj; have := hi 0 hj; simp only [prvI] at this; exact ⟨by simpa using this.1, this.2⟩
  | succ i ih =>
    intro hj
    have h1 := hi (i + 1) hj
    have h2 := ih (by omega)
    simp only [prvI] at h1
    exact ⟨by have := h1.1; have := h2.1; omega, h1.2⟩
theorem join_cons (x y : List UInt8) (l : List (List UInt8)) : Lib.join (x :: y :: l) [44] = x ++ ([44] ++ Lib.join (y :: l) [44]) := by simp [Lib.join, List.intercalate, List.intersperse]
theorem join_len : ∀ (l : List (List UInt8)), (∀ x ∈ l, x.length ≤ 12) → (Lib.join l [44]).length ≤ 13 * l.length
  | [], _ => by simp [Lib.join]
  | [x], h => by have := h x (by simp); simp [Lib.join]; omega
  | x :: y :: l, h => by
    have h1 := h x (by simp)
    have h2 := join_len (y :: l) (fun z hz => h z (by simp only [List.mem_cons] at hz ⊢; exact Or.inr hz))
    rw [join_cons]
    simp only [List.length_append, List.length_cons, List.length_nil] at h2 ⊢
    omega
/-- The names of a rule's conditions. -/
def namesT (r : Rl) (c : Nat → Cn) : Nat → List ByteArray := fun j => (List.range j).map fun i => (c (r.cs i).toNat).nm
theorem namesT_succ (r : Rl) (c : Nat → Cn) (j : Nat) : namesT r c (j + 1) = namesT r c j ++ [(c (r.cs j).toNat).nm] := by simp [namesT, List.range_succ]
theorem namesT_len (r : Rl) (c : Nat → Cn) (j : Nat) : (namesT r c j).length = j := by simp [namesT]
/-- Where a rule holds, printed. -/
def startsT (r : Rl) (c : Nat → Cn) : List UInt8 := if r.all = true then [60, 42, 62] else if r.cn = 0 then [] else ([60] ++ Lib.join ((namesT r c r.cn).map (·.data.toList)) [44]) ++ [62]
set_option maxRecDepth 100000 in
theorem info9 : (Tryd.prog.info? 9).map (fun i => (i.zero, i.size, i.bytes)) = some (some (.string ⟨#[]⟩), 1, 16) := by kernel_rfl
set_option maxRecDepth 100000 in
set_option maxHeartbeats 4000000 in
theorem startsText_any (r : Rl) (l : Cs) (w : World) (h : IntsIn w w.heap.size r.ca r.cn r.cc r.cs) (hl : CsIn w w.heap.size l) (hs : startsB r l.n = true) (hn : l.n ≤ 8) (hnm : ∀ i, i < l.n → (l.c i).nm.size ≤ 12) :
    Calls Tryd.prog 73 #[ruleV r, l.val] w fun e w' => e = .returned (strV (startsT r l.c)) ∧ Below w.heap.size w w' := by
  obtain ⟨i0, hi, hz0, hz1, hz2⟩ := info_parts info9
  obtain ⟨X, hX⟩ : ∃ X, X = startsT r l.c := ⟨_, rfl⟩
  rw [← hX]
  unfold startsT at hX
  obtain ⟨a, n, cap, c⟩ := l
  have hm := hl.1
  have hm2 := hl.2.1
  have HA := Lib.hid hl.2.2.1
  have hq1 := h.1
  have hq2 := h.2.1
  have HI := Lib.hid h.2.2.1
  unfold startsB at hs
  dsimp only at hs hn hnm hX hm hm2 HA
  unfold maxLen at hm2 hq2
  clear hl h
  show Calls Tryd.prog 73 #[ruleV r, .slice a n cap] w _
  cases hal : r.all
  · rw [hal] at hs hX
    simp only [Bool.false_eq_true, if_false] at hs hX
    have hris := ris_le hs
    by_cases h0 : r.cn = 0
    · rw [if_pos h0] at hX
      subst hX
      obtain ⟨ca, cn, cc, cs, al, bo, rx, tr, ef, ac, to⟩ := r
      dsimp only at h0 hal
      subst h0 hal
      clear hris hs HI HA hnm hn hm hm2 hq1 hq2 hi hz0 hz1 hz2
      go_enter Tryd.func73, Tryd.ntmps73
      go_wp2
      go_ret
      exact ⟨rfl, alloc_below _ _⟩
    · rw [if_neg h0] at hX
      have hcn : r.cn ≤ 8 := by have := hris (r.cn - 1) (by omega); omega
      have HRI := Lib.hid hris
      have HN12 : Hid (∀ x ∈ (namesT r c r.cn).map (·.data.toList), x.length ≤ 12) := Lib.hid (by
        intro x hx
        simp only [List.mem_map, namesT, List.mem_range] at hx
        obtain ⟨y, ⟨i, hi', rfl⟩, rfl⟩ := hx
        have := hris i hi'
        have h2 := hnm (r.cs i).toNat (by omega)
        rw [Array.length_toList]
        exact h2)
      have HJL := Lib.hid (join_len _ HN12.out)
      rw [List.length_map, namesT_len] at HJL
      obtain ⟨J, hJ⟩ : ∃ J, J = Lib.join ((namesT r c r.cn).map (·.data.toList)) [44] := ⟨_, rfl⟩
      rw [← hJ] at hX HJL
      have hJl : J.length ≤ 104 := by have := HJL.out; omega
      have HJ := Lib.hid hJ
      have ha1 := fun w => str_add [60] J (by simp only [List.length_cons, List.length_nil]; omega) w
      obtain ⟨J1, hJ1⟩ : ∃ V, V = [60] ++ J := ⟨_, rfl⟩
      have hl1 : J1.length ≤ 105 := by rw [hJ1]; simp; omega
      rw [← hJ1] at ha1 hX
      have ha2 := fun w => str_add J1 [62] (by simp only [List.length_cons, List.length_nil]; omega) w
      rw [← hX] at ha2
      clear hX hJ hJ1 hs HJL HN12 hnm
      obtain ⟨g, off, hca, hg, hc⟩ := HI.out (by omega)
      have HC := Lib.hid hc
      clear hc
      obtain ⟨ca, cn, cc, cs, al, bo, rx, tr, ef, ac, to⟩ := r
      dsimp only at h0 hal hca hcn HJ HRI HC hq1 hq2 hris
      subst hal hca
      have h0' : ((cn : Int) == 0) = false := by simp; omega
      clear hris HI
      go_enter Tryd.func73, Tryd.ntmps73
      go_wp2
      go_loopw [5, 17] (fun v i wr => ∃ j : Nat, j ≤ cn ∧ i = .int .i64 j ∧ Hid (wr.ownsRow (w.heap.size + 1) 9 1 v j ((namesT ⟨some ⟨g, off, none⟩, cn, cc, cs, false, bo, rx, tr, ef, ac, to⟩ c j).map Value.string)) ∧ Bx w (.cells (row22 ⟨some ⟨g, off, none⟩, cn, cc, cs, false, bo, rx, tr, ef, ac, to⟩) 46) wr) (fun _ i _ => cn - (intOf i).toNat)
      case atStart => exact ⟨0, by omega, rfl, Lib.hid (World.ownsRow_nil _ _ _ _), Bx.refl _ _⟩
      case round =>
        obtain ⟨j, hj, rfl, HO, hbr⟩ := hrel
        by_cases hlt : j < cn
        · have c0 := (hbr.out.cell (p := ⟨g, _, none⟩) hg).trans (HC.out j hlt)
          obtain ⟨k, hk⟩ : ∃ k : Nat, cs j = (k : Int) := ⟨(cs j).toNat, by have := (HRI.out j hlt).1; omega⟩
          have hkn : k < n := by have := (HRI.out j hlt).2; omega
          rw [hk] at c0
          obtain ⟨g2, off2, rfl, hg2, hc2⟩ := HA.out (by omega)
          obtain ⟨d0, d1⟩ := (hc2 k hkn).below hg2 hbr.out
          have HS := Lib.hid (namesT_succ ⟨some ⟨g, off, none⟩, cn, cc, cs, false, bo, rx, tr, ef, ac, to⟩ c j)
          rw [show (cs j).toNat = k by omega] at HS
          obtain ⟨nm, hnm⟩ : ∃ x, x = (c k).nm := ⟨_, rfl⟩
          rw [← hnm] at d0 HS
          have HBR := Lib.hid hbr
          have hsr : w.heap.size + 1 ≤ wr.heap.size := by have := Below.size hbr; simpa using this
          obtain ⟨av, cv, rfl⟩ := row_slice HO.out
          clear hc2 hnm hbr
          go_wp2_with (first | (at_builtin; refine wpList_append_own_at _ rfl _ _ 126 rfl (w.heap.size + 1) 9 i0 _ 1 16 Tryd.underlying126 hi hz0 hz1 hz2 rfl (by decide) _ _ _ rfl (HO.out.alloc _) ⟨wr.heap.size, 0, none⟩ 1 1 [.string nm] rfl rfl ?d1 ?d2 ?d3 ?d4 ?d5 ?_))
          case d1 => exact cell_one_new _ _ _
          case d2 => intro u hu; rw [List.mem_singleton.1 hu]; rfl
          case d3 => unfold maxLen; omega
          case d4 => omega
          case d5 => simp; omega
          intro v1 w1 hown1 hgrow _ _
          have hb1 := grown_below (HO.out.alloc _) (by simp; omega) hgrow
          obtain ⟨a1, cp1, rfl⟩ := row_slice hown1
          have HO1 := Lib.hid (show w1.ownsRow (w.heap.size + 1) 9 1 (.slice a1 (j + 1) cp1) (j + 1) ((namesT ⟨some ⟨g, off, none⟩, cn, cc, cs, false, bo, rx, tr, ef, ac, to⟩ c (j + 1)).map Value.string) by rw [HS.out, List.map_append]; exact hown1)
          clear hown1 hgrow
          go_wp2
          go_roundw
          case rel => exact ⟨j + 1, by omega, by go_num, HO1, Below.trans (Bx.to HBR.out (alloc_below wr _)) (hb1.mono (by simp))⟩
          case measure => simp [intOf]; omega
        · obtain rfl : cn = j := by omega
          obtain ⟨gb, cb, rfl, hgb, hgl, hcb, hcm, hcc⟩ := row_cells HO.out (by omega)
          have HJN : Hid (Calls Tryd.prog 91 #[.slice (some ⟨gb, 0, none⟩) cn cb, .string ⟨#[44]⟩] wr fun e w' => e = .returned (strV J) ∧ Below wr.heap.size wr w') := Lib.hid (by
            have := Tryd.strings_Join gb 0 cb (namesT ⟨some ⟨g, off, none⟩, cn, cc, cs, false, bo, rx, tr, ef, ac, to⟩ c cn) ⟨#[44]⟩ wr (fun q x hx => by rw [Nat.zero_add]; exact hcc q (.string x) (by rw [List.getElem?_map, hx]; rfl)) hgl (by rw [namesT_len]; omega) (by rw [namesT_len]; omega) (by have := HJ.out; rw [show (⟨#[44]⟩ : ByteArray).data.toList = [44] from rfl, ← this]; omega)
            rw [namesT_len] at this
            rw [show (⟨#[44]⟩ : ByteArray).data.toList = [44] from rfl, ← HJ.out] at this
            exact this)
          have HBR := Lib.hid hbr
          clear hbr hcc HO
          go_wp2_with (first | (go_at_call 91; refine HJN.out.mono ?_; rintro e w2 ⟨rfl, hb2⟩))
          go_ret
          exact ⟨rfl, (Bx.to HBR.out hb2).out⟩
  · rw [hal, if_pos rfl] at hX
    subst hX
    obtain ⟨ca, cn, cc, cs, al, bo, rx, tr, ef, ac, to⟩ := r
    dsimp only at hal
    subst hal
    clear hs HI HA
    go_enter Tryd.func73, Tryd.ntmps73
    go_wp2
    go_ret
    exact ⟨rfl, alloc_below _ _⟩
end Go.Proofs.YtnfchlkdppblfaaDoor
