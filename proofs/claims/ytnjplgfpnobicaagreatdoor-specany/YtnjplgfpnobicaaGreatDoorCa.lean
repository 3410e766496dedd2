/- Rules in memory: conditions, rules, specifications. -/
import Derived.Test.YtnjplgfpnobicaaGreatDoorM
namespace Go.Proofs.YtnjplgfpnobicaaGreatDoor
open Go.RowKit
/-- A condition: its name; is it exclusive? -/
structure Cn where
  nm : ByteArray
  ex : Bool
/-- A rule: where its conditions lie, how many they are, what room there is, the conditions; the rest. -/
structure Rl where
  ca : Option Addr
  cn : Nat
  cc : Nat
  cs : Nat → Int
  all : Bool
  bol : Bool
  rx : Tr
  tr : Tr
  eof : Bool
  act : Int
  to : Int
/-- Conditions in a row. -/
structure Cs where
  a : Option Addr
  n : Nat
  cap : Nat
  c : Nat → Cn
/-- Rules in a row. -/
structure Rs where
  a : Option Addr
  n : Nat
  cap : Nat
  r : Nat → Rl
/-- A specification. -/
structure Sp where
  cs : Cs
  dft : Bool
  rs : Rs
abbrev condV (c : Cn) : Value := .agg #[.string c.nm, .bool c.ex]
abbrev row2 (c : Cn) : Array Value := #[.string c.nm, .bool c.ex]
abbrev ruleV (r : Rl) : Value := .agg #[.slice r.ca r.cn r.cc, .bool r.all, .bool r.bol, .int .i64 r.rx.k, .int .u64 (r.rx.s 0), .int .u64 (r.rx.s 1), .int .u64 (r.rx.s 2), .int .u64 (r.rx.s 3), .int .i64 r.rx.lo, .int .i64 r.rx.hi, .slice r.rx.a r.rx.n r.rx.cap, .int .i64 r.tr.k, .int .u64 (r.tr.s 0), .int .u64 (r.tr.s 1), .int .u64 (r.tr.s 2), .int .u64 (r.tr.s 3), .int .i64 r.tr.lo, .int .i64 r.tr.hi, .slice r.tr.a r.tr.n r.tr.cap, .bool r.eof, .int .i64 r.act, .int .i64 r.to]
abbrev row22 (r : Rl) : Array Value := #[.slice r.ca r.cn r.cc, .bool r.all, .bool r.bol, .int .i64 r.rx.k, .int .u64 (r.rx.s 0), .int .u64 (r.rx.s 1), .int .u64 (r.rx.s 2), .int .u64 (r.rx.s 3), .int .i64 r.rx.lo, .int .i64 r.rx.hi, .slice r.rx.a r.rx.n r.rx.cap, .int .i64 r.tr.k, .int .u64 (r.tr.s 0), .int .u64 (r.tr.s 1), .int .u64 (r.tr.s 2), .int .u64 (r.tr.s 3), .int .i64 r.tr.lo, .int .i64 r.tr.hi, .slice r.tr.a r.tr.n r.tr.cap, .bool r.eof, .int .i64 r.act, .int .i64 r.to]
abbrev Cs.val (l : Cs) : Value := .slice l.a l.n l.cap
abbrev Rs.val (l : Rs) : Value := .slice l.a l.n l.cap
abbrev specV (s : Sp) : Value := .agg #[.slice s.cs.a s.cs.n s.cs.cap, .bool s.dft, .slice s.rs.a s.rs.n s.rs.cap]
abbrev row3 (s : Sp) : Array Value := #[.slice s.cs.a s.cs.n s.cs.cap, .bool s.dft, .slice s.rs.a s.rs.n s.rs.cap]
/-- A condition's two cells, a rule's twenty-two. -/
def At2 (w : World) (g o : Nat) (c : Cn) : Prop := w.cell? ⟨g, o, none⟩ = some (.string c.nm) ∧ w.cell? ⟨g, o + 1, none⟩ = some (.bool c.ex)
def At22 (w : World) (g o : Nat) (r : Rl) : Prop := w.cell? ⟨g, o, none⟩ = some (.slice r.ca r.cn r.cc) ∧ w.cell? ⟨g, o + 1, none⟩ = some (.bool r.all) ∧ w.cell? ⟨g, o + 2, none⟩ = some (.bool r.bol) ∧ w.cell? ⟨g, o + 3, none⟩ = some (.int .i64 r.rx.k) ∧ w.cell? ⟨g, o + 4, none⟩ = some (.int .u64 (r.rx.s 0)) ∧ w.cell? ⟨g, o + 5, none⟩ = some (.int .u64 (r.rx.s 1)) ∧ w.cell? ⟨g, o + 6, none⟩ = some (.int .u64 (r.rx.s 2)) ∧ w.cell? ⟨g, o + 7, none⟩ = some (.int .u64 (r.rx.s 3)) ∧ w.cell? ⟨g, o + 8, none⟩ = some (.int .i64 r.rx.lo) ∧ w.cell? ⟨g, o + 9, none⟩ = some (.int .i64 r.rx.hi) ∧ w.cell? ⟨g, o + 10, none⟩ = some (.slice r.rx.a r.rx.n r.rx.cap) ∧ w.cell? ⟨g, o + 11, none⟩ = some (.int .i64 r.tr.k) ∧ w.cell? ⟨g, o + 12, none⟩ = some (.int .u64 (r.tr.s 0)) ∧ w.cell? ⟨g, o + 13, none⟩ = some (.int .u64 (r.tr.s 1)) ∧ w.cell? ⟨g, o + 14, none⟩ = some (.int .u64 (r.tr.s 2)) ∧ w.cell? ⟨g, o + 15, none⟩ = some (.int .u64 (r.tr.s 3)) ∧ w.cell? ⟨g, o + 16, none⟩ = some (.int .i64 r.tr.lo) ∧ w.cell? ⟨g, o + 17, none⟩ = some (.int .i64 r.tr.hi) ∧ w.cell? ⟨g, o + 18, none⟩ = some (.slice r.tr.a r.tr.n r.tr.cap) ∧ w.cell? ⟨g, o + 19, none⟩ = some (.bool r.eof) ∧ w.cell? ⟨g, o + 20, none⟩ = some (.int .i64 r.act) ∧ w.cell? ⟨g, o + 21, none⟩ = some (.int .i64 r.to)
theorem At2.below {w w' : World} {B g o : Nat} {c : Cn} (h : At2 w g o c) (hg : g < B) (hb : Below B w w') : At2 w' g o c :=
  ⟨(hb.cell (p := ⟨g, _, none⟩) hg).trans h.1, (hb.cell (p := ⟨g, _, none⟩) hg).trans h.2⟩
set_option maxRecDepth 100000 in
theorem At22.below {w w' : World} {B g o : Nat} {r : Rl} (h : At22 w g o r) (hg : g < B) (hb : Below B w w') : At22 w' g o r := by
  have key : ∀ c, w'.cell? ⟨g, c, none⟩ = w.cell? ⟨g, c, none⟩ := fun c => hb.cell (p := ⟨g, c, none⟩) hg
  unfold At22 at h ⊢
  simp only [key]
  exact h
set_option maxRecDepth 100000 in
theorem cell22 {w : World} {g e : Nat} {r : Rl} (h : w.heap[g]? = some (.cells (row22 r) e (0, 0))) : w.cell? ⟨g, 0, none⟩ = some (.slice r.ca r.cn r.cc) ∧ w.cell? ⟨g, 1, none⟩ = some (.bool r.all) ∧ w.cell? ⟨g, 2, none⟩ = some (.bool r.bol) ∧ w.cell? ⟨g, 3, none⟩ = some (.int .i64 r.rx.k) ∧ w.cell? ⟨g, 4, none⟩ = some (.int .u64 (r.rx.s 0)) ∧ w.cell? ⟨g, 5, none⟩ = some (.int .u64 (r.rx.s 1)) ∧ w.cell? ⟨g, 6, none⟩ = some (.int .u64 (r.rx.s 2)) ∧ w.cell? ⟨g, 7, none⟩ = some (.int .u64 (r.rx.s 3)) ∧ w.cell? ⟨g, 8, none⟩ = some (.int .i64 r.rx.lo) ∧ w.cell? ⟨g, 9, none⟩ = some (.int .i64 r.rx.hi) ∧ w.cell? ⟨g, 10, none⟩ = some (.slice r.rx.a r.rx.n r.rx.cap) ∧ w.cell? ⟨g, 11, none⟩ = some (.int .i64 r.tr.k) ∧ w.cell? ⟨g, 12, none⟩ = some (.int .u64 (r.tr.s 0)) ∧ w.cell? ⟨g, 13, none⟩ = some (.int .u64 (r.tr.s 1)) ∧ w.cell? ⟨g, 14, none⟩ = some (.int .u64 (r.tr.s 2)) ∧ w.cell? ⟨g, 15, none⟩ = some (.int .u64 (r.tr.s 3)) ∧ w.cell? ⟨g, 16, none⟩ = some (.int .i64 r.tr.lo) ∧ w.cell? ⟨g, 17, none⟩ = some (.int .i64 r.tr.hi) ∧ w.cell? ⟨g, 18, none⟩ = some (.slice r.tr.a r.tr.n r.tr.cap) ∧ w.cell? ⟨g, 19, none⟩ = some (.bool r.eof) ∧ w.cell? ⟨g, 20, none⟩ = some (.int .i64 r.act) ∧ w.cell? ⟨g, 21, none⟩ = some (.int .i64 r.to) :=
  ⟨cell_of_row w g 0 _ _ _ h, cell_of_row w g 1 _ _ _ h, cell_of_row w g 2 _ _ _ h, cell_of_row w g 3 _ _ _ h, cell_of_row w g 4 _ _ _ h, cell_of_row w g 5 _ _ _ h, cell_of_row w g 6 _ _ _ h, cell_of_row w g 7 _ _ _ h, cell_of_row w g 8 _ _ _ h, cell_of_row w g 9 _ _ _ h, cell_of_row w g 10 _ _ _ h, cell_of_row w g 11 _ _ _ h, cell_of_row w g 12 _ _ _ h, cell_of_row w g 13 _ _ _ h, cell_of_row w g 14 _ _ _ h, cell_of_row w g 15 _ _ _ h, cell_of_row w g 16 _ _ _ h, cell_of_row w g 17 _ _ _ h, cell_of_row w g 18 _ _ _ h, cell_of_row w g 19 _ _ _ h, cell_of_row w g 20 _ _ _ h, cell_of_row w g 21 _ _ _ h⟩
set_option maxRecDepth 100000 in
theorem cell3 {w : World} {g e : Nat} {s : Sp} (h : w.heap[g]? = some (.cells (row3 s) e (0, 0))) : w.cell? ⟨g, 0, none⟩ = some (.slice s.cs.a s.cs.n s.cs.cap) ∧ w.cell? ⟨g, 1, none⟩ = some (.bool s.dft) ∧ w.cell? ⟨g, 2, none⟩ = some (.slice s.rs.a s.rs.n s.rs.cap) :=
  ⟨cell_of_row w g 0 _ _ _ h, cell_of_row w g 1 _ _ _ h, cell_of_row w g 2 _ _ _ h⟩
set_option maxRecDepth 100000 in
theorem cell2 {w : World} {g e : Nat} {c : Cn} (h : w.heap[g]? = some (.cells (row2 c) e (0, 0))) : w.cell? ⟨g, 0, none⟩ = some (.string c.nm) ∧ w.cell? ⟨g, 1, none⟩ = some (.bool c.ex) :=
  ⟨cell_of_row w g 0 _ _ _ h, cell_of_row w g 1 _ _ _ h⟩
/-- Numbers in a row. -/
def IntsIn (w : World) (B : Nat) (a : Option Addr) (n cap : Nat) (f : Nat → Int) : Prop := n ≤ cap ∧ cap ≤ maxLen ∧ (0 < n → ∃ g off, a = some ⟨g, off, none⟩ ∧ g < B ∧ ∀ i, i < n → w.cell? ⟨g, off + i, none⟩ = some (.int .i64 (f i))) ∧ ∀ i, i < n → -9223372036854775808 ≤ f i ∧ f i ≤ 9223372036854775807
theorem IntsIn.below {w w' : World} {B : Nat} {a : Option Addr} {n cap : Nat} {f : Nat → Int} (h : IntsIn w B a n cap f) (hb : Below B w w') : IntsIn w' B a n cap f :=
  ⟨h.1, h.2.1, fun hp => by obtain ⟨g, off, ha, hg, hc⟩ := h.2.2.1 hp; exact ⟨g, off, ha, hg, fun i hi => (hb.cell (p := ⟨g, _, none⟩) hg).trans (hc i hi)⟩, h.2.2.2⟩
theorem IntsIn.mono {w : World} {B B' : Nat} {a : Option Addr} {n cap : Nat} {f : Nat → Int} (h : IntsIn w B a n cap f) (hb : B ≤ B') : IntsIn w B' a n cap f :=
  ⟨h.1, h.2.1, fun hp => by obtain ⟨g, off, ha, hg, hc⟩ := h.2.2.1 hp; exact ⟨g, off, ha, Nat.lt_of_lt_of_le hg hb, hc⟩, h.2.2.2⟩
/-- Conditions lie in memory. -/
def CsIn (w : World) (B : Nat) (l : Cs) : Prop := l.n ≤ l.cap ∧ l.cap ≤ maxLen ∧ (0 < l.n → ∃ g off, l.a = some ⟨g, off, none⟩ ∧ g < B ∧ ∀ i, i < l.n → At2 w g (off + i * 2) (l.c i)) ∧ ∀ i, i < l.n → (l.c i).nm.size ≤ maxLen
theorem CsIn.below {w w' : World} {B : Nat} {l : Cs} (h : CsIn w B l) (hb : Below B w w') : CsIn w' B l :=
  ⟨h.1, h.2.1, fun hp => by obtain ⟨g, off, ha, hg, hc⟩ := h.2.2.1 hp; exact ⟨g, off, ha, hg, fun i hi => (hc i hi).below hg hb⟩, h.2.2.2⟩
theorem CsIn.mono {w : World} {B B' : Nat} {l : Cs} (h : CsIn w B l) (hb : B ≤ B') : CsIn w B' l :=
  ⟨h.1, h.2.1, fun hp => by obtain ⟨g, off, ha, hg, hc⟩ := h.2.2.1 hp; exact ⟨g, off, ha, Nat.lt_of_lt_of_le hg hb, hc⟩, h.2.2.2⟩
theorem CsIn.now {w w' : World} {l : Cs} (h : CsIn w w.heap.size l) (hb : Below w.heap.size w w') : CsIn w' w'.heap.size l := (h.below hb).mono hb.size
/-- What a rule leans on lies in memory. -/
def RlIn (w : World) (B : Nat) (r : Rl) : Prop := IntsIn w B r.ca r.cn r.cc r.cs ∧ Lives w B r.rx ∧ Lives w B r.tr
theorem RlIn.below {w w' : World} {B : Nat} {r : Rl} (h : RlIn w B r) (hb : Below B w w') : RlIn w' B r := ⟨h.1.below hb, h.2.1.below hb, h.2.2.below hb⟩
theorem RlIn.mono {w : World} {B B' : Nat} {r : Rl} (h : RlIn w B r) (hb : B ≤ B') : RlIn w B' r := ⟨h.1.mono hb, h.2.1.mono hb, h.2.2.mono hb⟩
theorem RlIn.now {w w' : World} {r : Rl} (h : RlIn w w.heap.size r) (hb : Below w.heap.size w w') : RlIn w' w'.heap.size r := (h.below hb).mono hb.size
/-- Rules lie in memory. -/
def RsIn (w : World) (B : Nat) (l : Rs) : Prop := l.n ≤ l.cap ∧ l.cap ≤ maxLen ∧ (0 < l.n → ∃ g off, l.a = some ⟨g, off, none⟩ ∧ g < B ∧ ∀ i, i < l.n → At22 w g (off + i * 22) (l.r i)) ∧ ∀ i, i < l.n → RlIn w B (l.r i)
theorem RsIn.below {w w' : World} {B : Nat} {l : Rs} (h : RsIn w B l) (hb : Below B w w') : RsIn w' B l :=
  ⟨h.1, h.2.1, fun hp => by obtain ⟨g, off, ha, hg, hc⟩ := h.2.2.1 hp; exact ⟨g, off, ha, hg, fun i hi => (hc i hi).below hg hb⟩, fun i hi => (h.2.2.2 i hi).below hb⟩
theorem RsIn.mono {w : World} {B B' : Nat} {l : Rs} (h : RsIn w B l) (hb : B ≤ B') : RsIn w B' l :=
  ⟨h.1, h.2.1, fun hp => by obtain ⟨g, off, ha, hg, hc⟩ := h.2.2.1 hp; exact ⟨g, off, ha, Nat.lt_of_lt_of_le hg hb, hc⟩, fun i hi => (h.2.2.2 i hi).mono hb⟩
theorem RsIn.now {w w' : World} {l : Rs} (h : RsIn w w.heap.size l) (hb : Below w.heap.size w w') : RsIn w' w'.heap.size l := (h.below hb).mono hb.size
/-- A specification lies in memory. -/
def SpIn (w : World) (s : Sp) : Prop := CsIn w w.heap.size s.cs ∧ RsIn w w.heap.size s.rs
theorem SpIn.now {w w' : World} {s : Sp} (h : SpIn w s) (hb : Below w.heap.size w w') : SpIn w' s := ⟨h.1.now hb, h.2.now hb⟩
end Go.Proofs.YtnjplgfpnobicaaGreatDoor
