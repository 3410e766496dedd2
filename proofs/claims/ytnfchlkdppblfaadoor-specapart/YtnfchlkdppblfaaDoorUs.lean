/- Rules in memory: conditions, rules, specifications. -/
import Derived.Test.YtnfchlkdppblfaaDoorM
namespace Go.Proofs.YtnfchlkdppblfaaDoor
open Go.RowKit
/-- A condition: its name; is it exclusive? -/
structure Cn where
  nm : ByteArray
  ex : Bool
/-- A rule: where its conditions lie, how many they are, what room there is, the conditions; the rest. -/
structure Rl where
  ca : Option Addr
  cn : Nat
  cc : Nat
  cs : Nat → Int
  all : Bool
  bol : Bool
  rx : Tr
  tr : Tr
  eof : Bool
  act : Int
  to : Int
/-- Conditions in a row. -/
structure Cs where
  a : Option Addr
  n : Nat
  cap : Nat
  c : Nat → Cn
/-- Rules in a row. -/
structure Rs where
  a : Option Addr
  n : Nat
  cap : Nat
  r : Nat → Rl
/-- A specification. -/
structure Sp where
  cs : Cs
  dft : Bool
  rs : Rs
abbrev condV (c : Cn) : Value := .agg #[.string c.nm, .bool c.ex]
abbrev row2 (c : Cn) : Array Value := #[.string c.nm, .bool c.ex]
abbrev ruleV (r : Rl) : Value := .agg #[.slice r.ca r.cn r.cc, .bool r.all, .bool r.bol, .int .i64 r.rx.k, .int .u64 (r.rx.s 0), .int .u64 (r.rx.s 1), .int .u64 (r.rx.s 2), .int .u64 (r.rx.s 3), .int .i64 r.rx.lo, .int .i64 r.rx.hi, .slice r.rx.a r.rx.n r.rx.cap, .int .i64 r.tr.k, .int .u64 (r.tr.s 0), .int .u64 (r.tr.s 1), .int .u64 (r.tr.s 2), .int .u64 (r.tr.s 3), .int .i64 r.tr.lo, .int .i64 r.tr.hi, .slice r.tr.a r.tr.n r.tr.cap, .bool r.eof, .int .i64 r.act, .int .i64 r.to]
abbrev row22 (r : Rl) : Array Value := #[.slice r.ca r.cn r.cc, .bool r.all, .bool r.bol, .int .i64 r.rx.k, .int .u64 (r.rx.s 0), .int .u64 (r.rx.s 1), .int .u64 (r.rx.s 2), .int .u64 (r.rx.s 3), .int .i64 r.rx.lo, .int .i64 r.rx.hi, .slice r.rx.a r.rx.n r.rx.cap, .int .i64 r.tr.k, .int .u64 (r.tr.s 0), .int .u64 (r.tr.s 1), .int .u64 (r.tr.s 2), .int .u64 (r.tr.s 3), .int .i64 r.tr.lo, .int .i64 r.tr.hi, .slice r.tr.a r.tr.n r.tr.cap, .bool r.eof, .int .i64 r.act, .int .i64 r.to]
abbrev Cs.val (l : Cs) : Value := .slice l.a l.n l.cap
abbrev Rs.val (l : Rs) : Value := .slice l.a l.n l.cap
abbrev specV (s : Sp) : Value := .agg #[.slice s.cs.a s.cs.n s.cs.cap, .bool s.dft, .slice s.rs.a s.rs.n s.rs.cap]
abbrev row3 (s : Sp) : Array Value := #[.slice s.cs.a s.cs.n s.cs.cap, .bool s.dft, .slice s.rs.a s.rs.n s.rs.cap]
/-- A condition's two cells, a rule's twenty-two. -/
def At2 (w : World) (g o : Nat) (c : Cn) : Prop := w.cell? ⟨g, o, none⟩ = some (.string c.nm) ∧ w.cell? ⟨g, o + 1, none⟩ = some (.bool c.ex)
def At22 (w : World) (g o : Nat) (r : Rl) : Prop := w.cell? ⟨g, o, none⟩ = some (.slice r.ca r.cn r.cc) ∧ w.cell? ⟨g, o + 1, none⟩ = some (.bool r.all) ∧ w.cell? ⟨g, o + 2, none⟩ = some (.bool r.bol) ∧ w.cell? ⟨g, o + 3, none⟩ = some (.int .i64 r.rx.k) ∧ w.cell? ⟨g, o + 4, none⟩ = some (.int .u64 (r.rx.s 0)) ∧ w.cell? ⟨g, o + 5, none⟩ = some (.int .u64 (r.rx.s 1)) ∧ w.cell? ⟨g, o + 6, none⟩ = some (.int .u64 (r.rx.s 2)) ∧ w.cell? ⟨g, o + 7, none⟩ = some (.int .u64 (r.rx.s 3)) ∧ w.cell? ⟨g, o + 8, none⟩ = some (.int .i64 r.rx.lo) ∧ w.cell? ⟨g, o + 9, none⟩ = some (.int .i64 r.rx.hi) ∧ w.cell? ⟨g, o + 10, none⟩ = some (.slice r.rx.a r.rx.n r.rx.cap) ∧ w.cell? ⟨g, o + 11, none⟩ = some (.int .i64 r.tr.k) ∧ w.cell? ⟨g, o + 12, none⟩ = some (.int .u64 (r.tr.s 0)) ∧ w.cell? ⟨g, o + 13, none⟩ = some (.int .u64 (r.tr.s 1)) ∧ w.cell? ⟨g, o + 14, none⟩ = some (.int .u64 (r.tr.s 2)) ∧ w.cell? ⟨g, o + 15, none⟩ = some (.int .u64 (r.tr.s 3)) ∧ w.cell? ⟨g, o + 16, none⟩ = some (.int .i64 r.tr.lo) ∧ w.cell? ⟨g, o + 17, none⟩ = some (.int .i64 r.tr.hi) ∧ w.cell? ⟨g, o + 18, none⟩ = some (.slice r.tr.a r.tr.n r.tr.cap) ∧ w.cell? ⟨g, o + 19, none⟩ = some (.bool r.eof) ∧ w.cell? ⟨g, o + 20, none⟩ = some (.int .i64 r.act) ∧ w.cell? ⟨g, o + 21, none⟩ = some (.int .i64 r.to)
theorem At2.below {w w' : World} {B g o : Nat} {c : Cn} (h : At2 w g o c) (hg : g < B) (hb : Below B w w') : At2 w' g o c :=
  ⟨(hb.cell (p := ⟨g, _, none⟩) hg).trans h.1, (hb.cell (p := ⟨g, _, none⟩) hg).trans h.2⟩
set_option maxRecDepth 100000 in
theorem At22.below {w w' : World} {B g o : Nat} {r : Rl} (h : At22 w g o r) (hg : g < B) (hb : Below B w w') : At22 w' g o r := by
  have key : ∀ c, w'.cell? ⟨g, c, none⟩ = w.cell? ⟨g, c, none⟩ := fun c => hb.cell (p := ⟨g, c, none⟩) hg
  unfold At22 at h ⊢
  simp only [key]
  exact h
set_option maxRecDepth 100000 in
theorem cell22 {w : World} {g e : Nat} {r : Rl} (h : w.heap[g]? = some (.cells (row22 r) e (0, 0))) : w.cell? ⟨g, 0, none⟩ = some (.slice r.ca r.cn r.cc) ∧ w.cell? ⟨g, 1, none⟩ = some (.bool r.all) ∧ w.cell? ⟨g, 2, none⟩ = some (.bool r.bol) ∧ w.cell? ⟨g, 3, none⟩ = some (.int .i64 r.rx.k) ∧ w.cell? ⟨g, 4, none⟩ = some (.int .u64 (r.rx.s 0)) ∧ w.cell? ⟨g, 5, none⟩ = some (.int .u64 (r.rx.s 1)) ∧ w.cell? ⟨g, 6, none⟩ = some (.int .u64 (r.rx.s 2)) ∧ w.cell? ⟨g, 7, none⟩ = some (.int .u64 (r.rx.s 3)) ∧ w.cell? ⟨g, 8, none⟩ = some (.int .i64 r.rx.lo) ∧ w.cell? ⟨g, 9, none⟩ = some (.int .i64 r.rx.hi) ∧ w.cell? ⟨g, 10, none⟩ = some (.slice r.rx.a r.rx.n r.rx.cap) ∧ w.cell? ⟨g, 11, none⟩ = some (.int .i64 r.tr.k) ∧ w.cell? ⟨g, 12, none⟩ = some (.int .u64 (r.tr.s 0)) ∧ w.cell? ⟨g, 13, none⟩ = some (.int .u64 (r.tr.s 1)) ∧ w.cell? ⟨g, 14, none⟩ = some (.int .u64 (r.tr.s 2)) ∧ w.cell? ⟨g, 15, none⟩ = some (.int .u64 (r.tr.s 3)) ∧ w.cell? ⟨g, 16, none⟩ = some (.int .i64 r.tr.lo) ∧ w.cell? ⟨g, 17, none⟩ = some (.int .i64 r.tr.hi) ∧ w.cell? ⟨g, 18, none⟩ = some (.slice r.tr.a r.tr.n r.tr.cap) ∧ w.cell? ⟨g, 19, none⟩ = some (.bool r.eof) ∧ w.cell? ⟨g, 20, none⟩ = some (.int .i64 r.act) ∧ w.cell? ⟨g, 21, none⟩ = some (.int .i64 r.to) :=
  ⟨cell_of_row w g 0 _ _ _ h, cell_of_row w g 1 _ _ _ h, cell_of_row w g 2 _ _ _ h, cell_of_row w g 3 _ _ _ h, cell_of_row w g 4 _ _ _ h, cell_of_row w g 5 _ _ _ h, cell_of_row w g 6 _ _ _ h, cell_of_row w g 7 _ _ _ h, cell_of_row w g 8 _ _ _ h, cell_of_row w g 9 _ _ _ h, cell_of_row w g 10 _ _ _ h, cell_of_row w g 11 _ _ _ h, cell_of_row w g 12 _ _ _ h, cell_of_row w g 13 _ _ _ h, cell_of_row w g 14 _ _ _ h, cell_of_row w g 15 _ _ _ h, cell_of_row w g 16 _ _ _ h, cell_of_row w g 17 _ _ _ h, cell_of_row w g 18 _ _ _ h, cell_of_row w g 19 _ _ _ h, cell_of_row w g 20 _ _ _ h, cell_of_row w g 21 _ _ _ h⟩
set_option maxRecDepth 100000 in
theorem cell3 {w : World} {g e : Nat} {s : Sp} (h : w.heap[g]? = some (.cells (row3 s) e (0, 0))) : w.cell? ⟨g, 0, none⟩ = some (.slice s.cs.a s.cs.n s.cs.cap) ∧ w.cell? ⟨g, 1, none⟩ = some (.bool s.dft) ∧ w.cell? ⟨g, 2, none⟩ = some (.slice s.rs.a s.rs.n s.rs.cap) :=
  ⟨cell_of_row w g 0 _ _ _ h, cell_of_row w g 1 _ _ _ h, cell_of_row w g 2 _ _ _ h⟩
set_option maxRecDepth 100000 in
theorem cell2 {w : World} {g e : Nat} {c : Cn} (h : w.heap[g]? = some (.cells (row2 c) e (0, 0))) : w.cell? ⟨g, 0, none⟩ = some (.string c.nm) ∧ w.cell? ⟨g, 1, none⟩ = some (.bool c.ex) :=
  ⟨cell_of_row w g 0 _ _ _ h, cell_of_row w g 1 _ _ _ h⟩
/-- Numbers in a row. -/
def IntsIn (w : World) (B : Nat) (a : Option Addr) (n cap : Nat) (f : Nat → Int) : Prop := n ≤ cap ∧ cap ≤ maxLen ∧ (0 < n → ∃ g off, a = some ⟨g, off, none⟩ ∧ g < B ∧ ∀ i, i < n → w.cell? ⟨g, off + i, none⟩ = some (.int .i64 (f i))) ∧ ∀ i, i < n → -9223372036854775808 ≤ f i ∧ f i ≤ 9223372036854775807
theorem IntsIn.below {w w' : World} {B : Nat} {a : Option Addr} {n cap : Nat} {f : Nat → Int} (h : IntsIn w B a n cap f) (hb : Below B w w') : IntsIn w' B a n cap f :=
  ⟨h.1, h.2.1, fun hp => by obtain ⟨g, off, ha, hg, hc⟩ := h.2.2.1 hp; exact ⟨g, off, ha, hg, fun i hi => (hb.cell (p := ⟨g, _, none⟩) hg).trans (hc i hi)⟩, h.2.2.2⟩
theorem IntsIn.mono {w : World} {B B' : Nat} {a : Option Addr} {n cap : Nat} {f : Nat → Int} (h : IntsIn w B a n cap f) (hb : B ≤ B') : IntsIn w B' a n cap f :=
  ⟨h.1, h.2.1, fun hp => by obtain ⟨g, off, ha, hg, hc⟩ := h.2.2.1 hp; exact ⟨g, off, ha, Nat.lt_of_lt_of_le hg hb, hc⟩, h.2.2.2⟩
/-- Conditions lie in memory. -/
def CsIn (w : World) (B : Nat) (l : Cs) : Prop := l.n ≤ l.cap ∧ l.cap ≤ maxLen ∧ (0 < l.n → ∃ g off, l.a = some ⟨g, off, none⟩ ∧ g < B ∧ ∀ i, i < l.n → At2 w g (off + i * 2) (l.c i)) ∧ ∀ i, i < l.n → (l.c i).nm.size ≤ maxLen
theorem CsIn.below {w w' : World} {B : Nat} {l : Cs} (h : CsIn w B l) (hb : Below B w w') : CsIn w' B l :=
  ⟨h.1, h.2.1, fun hp => by obtain ⟨g, off, ha, hg, hc⟩ := h.2.2.1 hp; exact ⟨g, off, ha, hg, fun i hi => (hc i hi).below hg hb⟩, h.2.2.2⟩
theorem CsIn.mono {w : World} {B B' : Nat} {l : Cs} (h : CsIn w B l) (hb : B ≤ B') : CsIn w B' l :=
  ⟨h.1, h.2.1, fun hp => by obtain ⟨g, off, ha, hg, hc⟩ := h.2.2.1 hp; exact ⟨g, off, ha, Nat.lt_of_lt_of_le hg hb, hc⟩, h.2.2.2⟩
theorem CsIn.now {w w' : World} {l : Cs} (h : CsIn w w.heap.size l) (hb : Below w.heap.size w w') : CsIn w' w'.heap.size l := (h.below hb).mono hb.size
/-- What a rule leans on lies in memory. -/
def RlIn (w : World) (B : Nat) (r : Rl) : Prop := IntsIn w B r.ca r.cn r.cc r.cs ∧ Lives w B r.rx ∧ Lives w B r.tr
theorem RlIn.below {w w' : World} {B : Nat} {r : Rl} (h : RlIn w B r) (hb : Below B w w') : RlIn w' B r := ⟨h.1.below hb, h.2.1.below hb, h.2.2.below hb⟩
theorem RlIn.mono {w : World} {B B' : Nat} {r : Rl} (h : RlIn w B r) (hb : B ≤ B') : RlIn w B' r := ⟨h.1.mono hb, h.2.1.mono hb, h.2.2.mono hb⟩
theorem RlIn.now {w w' : World} {r : Rl} (h : RlIn w w.heap.size r) (hb : Below w.heap.size w w') : RlIn w' w'.heap.size r := (h.below hb).mono hb.size
/-- Rules lie in memory. -/
def RsIn (w : World) (B : Nat) (l : Rs) : Prop := l.n ≤ l.cap ∧ l.cap ≤ maxLen ∧ (0 < l.n → ∃ g off, l.a = some ⟨g, off, none⟩ ∧ g < B ∧ ∀ i, i < l.n → At22 w g (off + i * 22) (l.r i)) ∧ ∀ i, i < l.n → RlIn w B (l.r i)
theorem RsIn.below {w w' : World} {B : Nat} {l : Rs} (h : RsIn w B l) (hb : Below B w w') : RsIn w' B l :=
  ⟨h.1, h.2.1, fun hp => by obtain ⟨g, off, ha, hg, hc⟩ := h.2.2.1 hp; exact ⟨g, off, ha, hg, fun i hi => (hc i hi).below hg hb⟩, fun i hi => (h.2.2.2 i hi).below hb⟩
theorem RsIn.mono {w : World} {B B' : Nat} {l : Rs} (h : RsIn w B l) (hb : B ≤ B') : RsIn w B' l :=
  ⟨h.1, h.2.1, fun hp => by obtain ⟨g, off, ha, hg, hc⟩ := h.2.2.1 hp; exact ⟨g, off, ha, Nat.lt_of_lt_of_le hg hb, hc⟩, fun i hi => (h.2.2.2 i hi).mono hb⟩
theorem RsIn.now {w w' : World} {l : Rs} (h : RsIn w w.heap.size l) (hb : Below w.heap.size w w') : RsIn w' w'.heap.size l := (h.below hb).mono hb.size
/-- A specification lies in memory. -/
def SpIn (w : World) (s : Sp) : Prop := CsIn w w.heap.size s.cs ∧ RsIn w w.heap.size s.rs
theorem SpIn.now {w w' : World} {s : Sp} (h : SpIn w s) (hb : Below w.heap.size w w') : SpIn w' s := ⟨h.1.now hb, h.2.now hb⟩
end Go.Proofs.YtnfchlkdppblfaaDoor
/- The landed code's Same (carried over). -/
namespace Go.Proofs.YtnfchlkdppblfaaDoor
open Go.RowKit
set_option maxRecDepth 100000 in
set_option maxHeartbeats 1000000 in
theorem like_any (t u : Tr) (w : World) : Calls Tryd.prog 47 #[t.val, u.val] w fun e w' => e = .returned (.bool (likeB t u)) ∧ Below w.heap.size w w' := by
  show Calls Tryd.prog 47 #[nodeV t.k t.s t.lo t.hi (.slice t.a t.n t.cap), nodeV u.k u.s u.lo u.hi (.slice u.a u.n u.cap)] w fun e w' => e = .returned (.bool (decide (t.k = u.k) && (eqS t.s u.s && (decide (t.lo = u.lo) && (decide (t.hi = u.hi) && decide (t.n = u.n)))))) ∧ Below w.heap.size w w'
  generalize t.k = k
  generalize t.s = s
  generalize t.lo = lo
  generalize t.hi = hi
  generalize t.a = a
  generalize t.n = n
  generalize t.cap = cap
  generalize u.k = k'
  generalize u.s = s'
  generalize u.lo = lo'
  generalize u.hi = hi'
  generalize u.a = a'
  generalize u.n = n'
  generalize u.cap = cap'
  by_cases hk : k = k'
  · subst hk
    cases he : eqS s s'
    · have hq := eqS_any s s' he
      have HX := Lib.hid (show (decide (k = k) && (false && (decide (lo = lo') && (decide (hi = hi') && decide (n = n'))))) = false by simp)
      clear he
      go_enter Tryd.func47, Tryd.ntmps47
      go_wp2
      go_ret
      first | exact ⟨rfl, alloc2_below _ _ _⟩ | exact ⟨ret_bool HX.out.symm, alloc2_below _ _ _⟩
    · have hq := eqS_any s s' he
      clear he
      by_cases hl : lo = lo'
      · subst hl
        by_cases hh : hi = hi'
        · subst hh
          by_cases hn : n = n'
          · subst hn
            have HX := Lib.hid (show (decide (k = k) && (true && (decide (lo = lo) && (decide (hi = hi) && decide (n = n))))) = true by simp)
            go_enter Tryd.func47, Tryd.ntmps47
            go_wp2
            go_ret
            first | exact ⟨rfl, alloc2_below _ _ _⟩ | exact ⟨ret_bool HX.out.symm, alloc2_below _ _ _⟩
          · have hn1 : ((n : Int) == (n' : Int)) = false := by simp; omega
            have hn2 : (n == n') = false := by simp [hn]
            have HX := Lib.hid (show (decide (k = k) && (true && (decide (lo = lo) && (decide (hi = hi) && decide (n = n'))))) = false by simp [hn])
            go_enter Tryd.func47, Tryd.ntmps47
            go_wp2
            go_ret
            first | exact ⟨rfl, alloc2_below _ _ _⟩ | exact ⟨ret_bool HX.out.symm, alloc2_below _ _ _⟩
        · have hh1 : (hi == hi') = false := by simp [hh]
          have HX := Lib.hid (show (decide (k = k) && (true && (decide (lo = lo) && (decide (hi = hi') && decide (n = n'))))) = false by simp [hh])
          go_enter Tryd.func47, Tryd.ntmps47
          go_wp2
          go_ret
          first | exact ⟨rfl, alloc2_below _ _ _⟩ | exact ⟨ret_bool HX.out.symm, alloc2_below _ _ _⟩
      · have hh1 : (lo == lo') = false := by simp [hl]
        have HX := Lib.hid (show (decide (k = k) && (true && (decide (lo = lo') && (decide (hi = hi') && decide (n = n'))))) = false by simp [hl])
        go_enter Tryd.func47, Tryd.ntmps47
        go_wp2
        go_ret
        first | exact ⟨rfl, alloc2_below _ _ _⟩ | exact ⟨ret_bool HX.out.symm, alloc2_below _ _ _⟩
  · have hk1 : (k == k') = false := by simp [hk]
    have HX := Lib.hid (show (decide (k = k') && (eqS s s' && (decide (lo = lo') && (decide (hi = hi') && decide (n = n'))))) = false by simp [hk])
    go_enter Tryd.func47, Tryd.ntmps47
    go_wp2
    go_ret
    first | exact ⟨rfl, alloc2_below _ _ _⟩ | exact ⟨ret_bool HX.out.symm, alloc2_below _ _ _⟩
/-- Kids that are still to be compared. -/
structure Cp where
  g : Nat
  off : Nat
  cap : Nat
  kid : Nat → Tr
  n : Nat
  g' : Nat
  off' : Nat
  cap' : Nat
  kid' : Nat → Tr
abbrev Cp.sl (c : Cp) : Value := .slice (some ⟨c.g, c.off, none⟩) c.n c.cap
abbrev Cp.sl' (c : Cp) : Value := .slice (some ⟨c.g', c.off', none⟩) c.n c.cap'
def flatC (cs : List Cp) : List Value := cs.flatMap fun c => [c.sl, c.sl']
theorem flatC_append (bs cs : List Cp) : flatC (bs ++ cs) = flatC bs ++ flatC cs := by simp [flatC]
theorem flatC_length (bs : List Cp) : (flatC bs).length = bs.length * 2 := by
  induction bs with
  | nil => rfl
  | cons b r ih => simp [flatC] at ih ⊢; omega
def tailC (c : Cp) : List Cp := if c.n = 1 then [] else [⟨c.g, c.off + 8, c.cap - 1, fun i => c.kid (i + 1), c.n - 1, c.g', c.off' + 8, c.cap' - 1, fun i => c.kid' (i + 1)⟩]
def CpL (w : World) (B : Nat) (c : Cp) : Prop :=
  0 < c.n ∧ c.n ≤ c.cap ∧ c.n ≤ c.cap' ∧ c.g < B ∧ c.g' < B ∧ (∀ i, i < c.n → At8 w c.g (c.off + i * 8) (c.kid i)) ∧ (∀ i, i < c.n → At8 w c.g' (c.off' + i * 8) (c.kid' i)) ∧ (∀ i, i < c.n → Lives w B (c.kid i)) ∧ ∀ i, i < c.n → Lives w B (c.kid' i)
theorem CpL.below {w w' : World} {B : Nat} {c : Cp} (h : CpL w B c) (hb : Below B w w') : CpL w' B c := by
  obtain ⟨h1, h2, h3, h4, h5, h6, h7, h8, h9⟩ := h
  exact ⟨h1, h2, h3, h4, h5, fun i hi => (h6 i hi).below h4 hb, fun i hi => (h7 i hi).below h5 hb, fun i hi => (h8 i hi).below hb, fun i hi => (h9 i hi).below hb⟩
theorem CpL.tail {w : World} {B : Nat} {c : Cp} (h : CpL w B c) : ∀ d ∈ tailC c, CpL w B d := by
  obtain ⟨h1, h2, h3, h4, h5, h6, h7, h8, h9⟩ := h
  intro d hd
  unfold tailC at hd
  split at hd
  · cases hd
  · rename_i q
    rw [List.mem_singleton] at hd
    subst hd
    refine ⟨by show 0 < c.n - 1; omega, by show c.n - 1 ≤ c.cap - 1; omega, by show c.n - 1 ≤ c.cap' - 1; omega, h4, h5, fun i hi => ?_, fun i hi => ?_, fun i hi => h8 (i + 1) (by have : i < c.n - 1 := hi; omega), fun i hi => h9 (i + 1) (by have : i < c.n - 1 := hi; omega)⟩
    · have := h6 (i + 1) (by have : i < c.n - 1 := hi; omega)
      rw [show c.off + (i + 1) * 8 = c.off + 8 + i * 8 by omega] at this
      exact this
    · have := h7 (i + 1) (by have : i < c.n - 1 := hi; omega)
      rw [show c.off' + (i + 1) * 8 = c.off' + 8 + i * 8 by omega] at this
      exact this
def sumC (f : Tr → Nat) (c : Cp) : Nat := sumTo (fun i => f (c.kid i)) c.n
def pendC (cs : List Cp) : Nat := (cs.map (sumC cnt)).sum
def restC (cs : List Cp) : Nat := (cs.map (sumC dsc)).sum
def sameC (c : Cp) : Bool := allTo (fun i => sameT (c.kid i) (c.kid' i)) c.n
def allC (cs : List Cp) : Bool := cs.all sameC
theorem sumC_tail (f : Tr → Nat) {c : Cp} (h : 0 < c.n) : sumC f c = f (c.kid 0) + ((tailC c).map (sumC f)).sum := by
  unfold tailC
  split
  · rename_i q
    unfold sumC
    rw [q]
    simp [sumTo]
  · simp only [List.map_cons, List.map_nil, List.sum_cons, List.sum_nil, Nat.add_zero]
    unfold sumC
    show sumTo _ c.n = _ + sumTo _ (c.n - 1)
    rw [show c.n = (c.n - 1) + 1 by omega, sumTo_front]
    simp
theorem allTo_front (p : Nat → Bool) : ∀ n, allTo p (n + 1) = (p 0 && allTo (fun i => p (i + 1)) n)
  | 0 => by simp [allTo]
  | n + 1 => by
    rw [allTo, allTo_front p n]
    simp only [allTo, Bool.and_assoc]
theorem sameC_tail {c : Cp} (h : 0 < c.n) : sameC c = (sameT (c.kid 0) (c.kid' 0) && allC (tailC c)) := by
  unfold tailC
  split
  · rename_i q
    unfold sameC allC
    rw [q]
    simp [allTo]
  · simp only [allC, List.all_cons, List.all_nil, Bool.and_true]
    unfold sameC
    show allTo _ c.n = (_ && allTo _ (c.n - 1))
    rw [show c.n = (c.n - 1) + 1 by omega, allTo_front]
    simp
theorem pendC_append (bs cs : List Cp) : pendC (bs ++ cs) = pendC bs + pendC cs := by simp [pendC]
theorem restC_append (bs cs : List Cp) : restC (bs ++ cs) = restC bs + restC cs := by simp [restC]
theorem allC_append (bs cs : List Cp) : allC (bs ++ cs) = (allC bs && allC cs) := by simp [allC]
theorem pendC_one (b : Cp) : pendC [b] = sumC cnt b := by simp [pendC]
theorem restC_one (b : Cp) : restC [b] = sumC dsc b := by simp [restC]
theorem allC_one (b : Cp) : allC [b] = sameC b := by simp [allC]
theorem pendC_pop (bs : List Cp) {b : Cp} (h : 0 < b.n) : pendC (bs ++ [b]) = pendC (bs ++ tailC b) + cnt (b.kid 0) := by
  rw [pendC_append, pendC_append, pendC_one, sumC_tail cnt h]; unfold pendC; omega
theorem restC_pop (bs : List Cp) {b : Cp} (h : 0 < b.n) : restC (bs ++ [b]) = restC (bs ++ tailC b) + dsc (b.kid 0) := by
  rw [restC_append, restC_append, restC_one, sumC_tail dsc h]; unfold restC; omega
theorem allC_pop (bs : List Cp) {b : Cp} (h : 0 < b.n) : allC (bs ++ [b]) = (allC (bs ++ tailC b) && sameT (b.kid 0) (b.kid' 0)) := by
  rw [allC_append, allC_append, allC_one, sameC_tail h, Bool.and_comm (sameT _ _), Bool.and_assoc]
theorem pendC_len (bs : List Cp) (h : ∀ b ∈ bs, 0 < b.n) : bs.length ≤ pendC bs := by
  induction bs with
  | nil => simp
  | cons b r ih =>
    have h1 := ih fun c hc => h c (List.mem_cons_of_mem _ hc)
    have h2 : 1 ≤ sumC cnt b := by rw [sumC_tail cnt (h b List.mem_cons_self)]; have := cnt_pos (b.kid 0); omega
    simp only [pendC, List.map_cons, List.sum_cons, List.length_cons] at h1 ⊢
    omega
theorem info51 : (Tryd.prog.info? 91).map (fun i => (i.zero, i.size, i.bytes)) = some (some (.agg #[.slice none 0 0, .slice none 0 0]), 2, 48) := by kernel_rfl
set_option maxRecDepth 100000 in
set_option maxHeartbeats 1000000 in
theorem cleave_one (a a' : Option Addr) (cap cap' : Nat) (v : Value) (w : World) :
    Calls Tryd.prog 46 #[.agg #[.slice a 1 cap, .slice a' 1 cap'], v] w fun e w' => e = .returned v ∧ ∃ o, w' = w.alloc o := by
  go_enter Tryd.func46, Tryd.ntmps46
  go_wp2
  go_ret
  exact ⟨rfl, _, rfl⟩
set_option maxRecDepth 100000 in
set_option maxHeartbeats 1000000 in
theorem cleave_more (g off g' off' n cap cap' : Nat) (base L : Nat) (xs : List Value) (v : Value) (w : World) (hn : 2 ≤ n) (hcap : n ≤ cap) (hcap' : n ≤ cap') (hL : L ≤ 5000) (hbase : base ≤ w.heap.size)
    (hown : w.ownsRow base 91 2 v L xs) :
    Calls Tryd.prog 46 #[.agg #[.slice (some ⟨g, off, none⟩) n cap, .slice (some ⟨g', off', none⟩) n cap'], v] w fun e w' => ∃ v', e = .returned v' ∧ w'.ownsRow base 91 2 v' (L + 1) (xs ++ [.slice (some ⟨g, off + 8, none⟩) (n - 1) (cap - 1), .slice (some ⟨g', off' + 8, none⟩) (n - 1) (cap' - 1)]) ∧ w.grownBy w' v.ownBlock := by
  obtain ⟨i0, hi, hz0, hz1, hz2⟩ := info_parts info51
  have hn1 : ((n : Int) == 1) = false := by simp; omega
  have hc1 : ¬ cap = 1 := by omega
  have hc1' : ¬ cap' = 1 := by omega
  have i1 : (1 : Int) ≤ (n : Int) := by omega
  have i2 : (1 : Int) ≤ (cap : Int) := by omega
  have i3 : (n : Int) ≤ (cap : Int) := by omega
  have i2' : (1 : Int) ≤ (cap' : Int) := by omega
  have i3' : (n : Int) ≤ (cap' : Int) := by omega
  have i4 : 1 ≤ n := by omega
  have i5 : 1 ≤ cap := by omega
  have i5' : 1 ≤ cap' := by omega
  go_enter Tryd.func46, Tryd.ntmps46
  go_wp2_with fail
  have HK := Lib.hid (heap_alloc_new w (.cells #[.slice (some ⟨g, off, none⟩) n cap, .slice (some ⟨g', off', none⟩) n cap'] 91))
  have hO := hown.alloc (.cells #[.slice (some ⟨g, off, none⟩) n cap, .slice (some ⟨g', off', none⟩) n cap'] 91)
  have HG := Lib.hid (World.grownBy_alloc w (.cells #[.slice (some ⟨g, off, none⟩) n cap, .slice (some ⟨g', off', none⟩) n cap'] 91) v.ownBlock)
  have hne : some w.heap.size ≠ v.ownBlock := fun e => by have := (hown.lt _ e.symm).2; omega
  have hbq : base ≤ (w.alloc (.cells #[.slice (some ⟨g, off, none⟩) n cap, .slice (some ⟨g', off', none⟩) n cap'] 91)).heap.size := by simp; omega
  generalize hwq : w.alloc (.cells #[.slice (some ⟨g, off, none⟩) n cap, .slice (some ⟨g', off', none⟩) n cap'] 91) = wq at *
  clear hwq
  obtain ⟨c0, c1⟩ := keep2 HK.out (grownBy_refl wq v.ownBlock) hne
  generalize w.heap.size = p at *
  go_region_held3 (fun w' => w'.cell? ⟨p, 0, none⟩ = some (.slice (some ⟨g, off, none⟩) n cap) ∧ w'.cell? ⟨p, 1, none⟩ = some (.slice (some ⟨g', off', none⟩) n cap'))
    (first | exact keep2 HK.out (grownBy_refl _ _) hne | exact keep2 HK.out (grownBy_drew _ _) hne | exact keep2 HK.out (grownBy_trans (grownBy_drew _ _) (World.grownBy_alloc _ _ _)) hne | exact keep2 HK.out (grownBy_trans (grownBy_trans (grownBy_drew _ _) (World.grownBy_alloc _ _ _)) hgrow) hne)
    (first
      | (refine step_append_own (by rfl) (.tmp 10) (.tmp 18) 92 (by rfl) base 91 i0 _ 2 48 Tryd.underlying92 hi hz0 hz1 hz2 rfl (by omega) v L xs (by rfl) (World.ownsRow.alloc (w := wq.drew) hO _) ⟨wq.heap.size, 0, none⟩ 1 1 [.slice (some ⟨g, off + 8, none⟩) (n - 1) (cap - 1), .slice (some ⟨g', off' + 8, none⟩) (n - 1) (cap' - 1)] (by rfl) (by rfl) (World.news_of_block (cs := #[.slice (some ⟨g, off + 8, none⟩) (n - 1) (cap - 1), .slice (some ⟨g', off' + 8, none⟩) (n - 1) (cap' - 1)]) (t := 91) (fr := (0, 0)) (heap_alloc_new wq.drew _)) (by simp [Value.oneCell']) (by unfold maxLen; omega) (by omega) (by simp; omega) ?_; intro v1 w1 hown1 hgrow hnil))
  go_wp2
  go_ret
  exact ⟨_, rfl, hown1, grownBy_trans HG.out (grownBy_trans (grownBy_trans (grownBy_drew _ _) (World.grownBy_alloc _ _ _)) hgrow)⟩
theorem cleave_any (c : Cp) (base L : Nat) (xs : List Value) (v : Value) (w : World) (hn : 0 < c.n) (hcap : c.n ≤ c.cap) (hcap' : c.n ≤ c.cap') (hL : L ≤ 5000) (hbase : base ≤ w.heap.size) (hown : w.ownsRow base 91 2 v L xs) :
    Calls Tryd.prog 46 #[.agg #[c.sl, c.sl'], v] w fun e w' => ∃ v', e = .returned v' ∧ w'.ownsRow base 91 2 v' (L + (tailC c).length) (xs ++ flatC (tailC c)) ∧ w.grownBy w' v.ownBlock := by
  obtain ⟨g, off, cap, kid, n, g', off', cap', kid'⟩ := c
  by_cases h1 : n = 1
  · subst h1
    refine (cleave_one _ _ cap cap' v w).mono ?_
    rintro e w' ⟨rfl, o, rfl⟩
    refine ⟨v, rfl, ?_, World.grownBy_alloc _ _ _⟩
    have := hown.alloc o
    simpa [tailC, flatC] using this
  · refine (cleave_more g off g' off' n cap cap' base L xs v w (by have : 0 < n := hn; omega) hcap hcap' hL hbase hown).mono ?_
    rintro e w' ⟨v', rfl, hown', hg⟩
    refine ⟨v', rfl, ?_, hg⟩
    simpa [tailC, flatC, h1] using hown'
/-- What holds of what is still to be compared. -/
def SmI (B : Nat) (R : Bool) (gk E : Nat) (v : Value) (wr : World) : Prop :=
  ∃ cs : List Cp, wr.ownsRow B 91 2 v cs.length (flatC cs) ∧ (∀ c ∈ cs, CpL wr B c) ∧ gk = pendC cs ∧ pendC cs ≤ 2000 ∧ E + restC cs ≤ 2000 ∧ allC cs = R
theorem topC_cells {w : World} {B g c : Nat} {bs : List Cp} {b : Cp} (h : w.ownsRow B 91 2 (.slice (some ⟨g, 0, none⟩) (bs.length + 1) c) (bs.length + 1) (flatC (bs ++ [b]))) :
    w.cell? ⟨g, bs.length * 2, none⟩ = some b.sl ∧ w.cell? ⟨g, bs.length * 2 + 1, none⟩ = some b.sl' := by
  obtain ⟨g', c', hv, _, _, _, _, hc⟩ := row_cells h (by omega)
  injection hv with h1 _ h2
  injection h1 with h1
  injection h1 with h1
  subst h1
  have hl := flatC_length bs
  constructor
  · apply hc
    rw [flatC_append, List.getElem?_append_right (by omega), hl]
    simp [flatC]
  · apply hc
    rw [flatC_append, List.getElem?_append_right (by omega), hl]
    simp [flatC]
theorem rowC_cut {w : World} {B g c : Nat} {bs : List Cp} {b : Cp} (h : w.ownsRow B 91 2 (.slice (some ⟨g, 0, none⟩) (bs.length + 1) c) (bs.length + 1) (flatC (bs ++ [b]))) : w.ownsRow B 91 2 (.slice (some ⟨g, 0, none⟩) bs.length c) bs.length (flatC bs) := by
  obtain ⟨_, ⟨hv, _⟩ | ⟨g', cap, cur, hv, hg, hh, h1, h2, h3, h4⟩⟩ := h
  · cases hv
  · injection hv with e1 _ e2
    injection e1 with e1
    injection e1 with e1
    subst e1 e2
    refine ⟨flatC_length bs, Or.inr ⟨g, c, cur, rfl, hg, hh, by omega, h2, h3, ?_⟩⟩
    have : (cur.toList.take ((bs.length + 1) * 2)).take (bs.length * 2) = (flatC (bs ++ [b])).take (bs.length * 2) := by rw [h4]
    rw [List.take_take, Nat.min_eq_left (by omega)] at this
    rw [this, flatC_append, ← flatC_length bs, List.take_left]
/-- Two that are alike and have no kids are taken off. -/
theorem smI_leaf {B E : Nat} {R : Bool} {bs : List Cp} {b : Cp} {v : Value} {wr w1 : World} (hn : 0 < b.n) (hbr : ∀ c ∈ bs ++ [b], CpL wr B c) (hpe : pendC (bs ++ [b]) ≤ 2000) (hre : E + restC (bs ++ [b]) ≤ 2000) (hto : allC (bs ++ [b]) = R)
    (hlk : likeB (b.kid 0) (b.kid' 0) = true) (hz : (b.kid 0).n = 0) (hown : w1.ownsRow B 91 2 v (bs.length + (tailC b).length) (flatC bs ++ flatC (tailC b))) (hb : Below B wr w1) :
    SmI B R (pendC (bs ++ tailC b)) E v w1 ∧ pendC (bs ++ tailC b) < pendC (bs ++ [b]) := by
  have h1 := pendC_pop bs hn
  have h2 := restC_pop bs hn
  have h3 := allC_pop bs hn
  have h4 := cnt_pos (b.kid 0)
  refine ⟨⟨bs ++ tailC b, by rw [flatC_append, List.length_append]; exact hown, fun c hc => ?_, rfl, by omega, by omega, ?_⟩, by omega⟩
  · rcases List.mem_append.1 hc with q | q
    · exact (hbr c (by simp [q])).below hb
    · exact ((hbr b (by simp)).below hb).tail c q
  · rw [sameT_eq, hlk, hz] at h3
    rw [← hto, h3]
    simp [allTo]
/-- Two that are alike are taken off, and their kids come in their place. -/
theorem smI_kids {B E : Nat} {R : Bool} {bs : List Cp} {b c : Cp} {v : Value} {wr w1 : World} (hn : 0 < b.n) (hbr : ∀ c ∈ bs ++ [b], CpL wr B c) (hpe : pendC (bs ++ [b]) ≤ 2000) (hre : E + restC (bs ++ [b]) ≤ 2000) (hto : allC (bs ++ [b]) = R)
    (hlk : likeB (b.kid 0) (b.kid' 0) = true) (hcn : c.n = (b.kid 0).n) (hck : c.kid = (b.kid 0).kid) (hck' : c.kid' = (b.kid' 0).kid) (hc : CpL w1 B c)
    (hown : w1.ownsRow B 91 2 v (bs.length + (tailC b).length + 1) (flatC bs ++ flatC (tailC b) ++ flatC [c])) (hb : Below B wr w1) :
    SmI B R (pendC (bs ++ tailC b ++ [c])) (E + (b.kid 0).n) v w1 ∧ pendC (bs ++ tailC b ++ [c]) < pendC (bs ++ [b]) := by
  have h1 := pendC_pop bs hn
  have h2 := restC_pop bs hn
  have h3 := allC_pop bs hn
  have h4 := cnt_dsc (b.kid 0)
  have h5 : sumC cnt c = dsc (b.kid 0) := by unfold sumC dsc; rw [hcn, hck]
  have h6 : dsc (b.kid 0) = (b.kid 0).n + sumC dsc c := by rw [dsc_split]; unfold sumC; rw [hcn, hck]
  have h7 : pendC (bs ++ tailC b ++ [c]) = pendC (bs ++ tailC b) + sumC cnt c := by rw [pendC_append, pendC_one]
  have h8 : restC (bs ++ tailC b ++ [c]) = restC (bs ++ tailC b) + sumC dsc c := by rw [restC_append, restC_one]
  refine ⟨⟨bs ++ tailC b ++ [c], by rw [flatC_append, flatC_append, List.length_append, List.length_append]; exact hown, fun d hd => ?_, rfl, by omega, by omega, ?_⟩, by omega⟩
  · rcases List.mem_append.1 hd with q | q
    · rcases List.mem_append.1 q with q | q
      · exact (hbr d (by simp [q])).below hb
      · exact ((hbr b (by simp)).below hb).tail d q
    · rw [List.mem_singleton] at q; rw [q]; exact hc
  · rw [← hto, h3, allC_append, allC_one, sameT_eq, hlk, Bool.true_and]
    unfold sameC
    rw [hcn, hck, hck']
theorem smI_not {bs : List Cp} {b : Cp} {R : Bool} (hn : 0 < b.n) (hto : allC (bs ++ [b]) = R) (hlk : likeB (b.kid 0) (b.kid' 0) = false) : R = false := by
  rw [← hto, allC_pop bs hn, sameT_eq, hlk]; simp
theorem smI_empty {B gk E : Nat} {R : Bool} {a : Option Addr} {c : Nat} {wr : World} (h : SmI B R gk E (.slice a 0 c) wr) : R = true := by
  obtain ⟨bs, hown, _, _, _, _, ht⟩ := h
  have : bs = [] := by
    obtain ⟨_, ⟨_, h0⟩ | ⟨g, cap, cur, hv, _⟩⟩ := hown
    · exact List.eq_nil_of_length_eq_zero h0
    · injection hv with _ h1 _; exact List.eq_nil_of_length_eq_zero h1.symm
  subst this
  rw [← ht]; rfl
theorem rowC_ne {w : World} {B g c n : Nat} {xs : List Value} (h : w.ownsRow B 91 2 (.slice (some ⟨g, 0, none⟩) n c) n xs) : some w.heap.size ≠ (Value.slice (some ⟨g, 0, none⟩) n c).ownBlock := fun e => by have := (h.lt _ e.symm).2; omega
set_option maxRecDepth 100000 in
set_option maxHeartbeats 4000000 in
theorem same_any (t u : Tr) (w : World) (hL : Lives w w.heap.size t) (hL' : Lives w w.heap.size u) (hc : cnt t ≤ 2000) :
    Calls Tryd.prog 21 #[t.val, u.val] w fun e w' => e = .returned (.bool (sameT t u)) ∧ Below w.heap.size w w' := by
  obtain ⟨i0, hi, hz0, hz1, hz2⟩ := info_parts info51
  obtain ⟨R, hR⟩ : ∃ R, R = sameT t u := ⟨_, rfl⟩
  rw [← hR]
  have HR := Lib.hid hR
  have HL := Lib.hid hL
  have HL' := Lib.hid hL'
  clear hR hL hL'
  show Calls Tryd.prog 21 #[nodeV t.k t.s t.lo t.hi (.slice t.a t.n t.cap), nodeV u.k u.s u.lo u.hi (.slice u.a u.n u.cap)] w _
  go_enter Tryd.func21, Tryd.ntmps21
  go_wp2
  go_loopg [5, 6] (cnt t) (fun gk ev v wr => ∃ E : Nat, ev = .int .i64 E ∧ Hid (SmI (w.heap.size + 4) R gk E v wr) ∧ w.heap.size + 4 ≤ wr.heap.size ∧ Below w.heap.size w wr)
  case atStart =>
    have hb3 : Below w.heap.size w (((((w.alloc (.cells (row8 t.k t.s t.lo t.hi (.slice t.a t.n t.cap)) 28)).alloc (.cells (row8 u.k u.s u.lo u.hi (.slice u.a u.n u.cap)) 28)).alloc (.cells (row8 t.k t.s t.lo t.hi (.slice t.a t.n t.cap)) 28)).alloc (.cells (row8 u.k u.s u.lo u.hi (.slice u.a u.n u.cap)) 28)).alloc (.cells #[.slice (some ⟨w.heap.size + 2, 0, none⟩) 1 1, .slice (some ⟨w.heap.size + 3, 0, none⟩) 1 1] 91)) := ((((alloc_below _ _).alloc (by simp) _).alloc (by simp; omega) _).alloc (by simp; omega) _).alloc (by simp; omega) _
    refine ⟨1, rfl, Lib.hid ⟨[⟨w.heap.size + 2, 0, 1, fun _ => t, 1, w.heap.size + 3, 0, 1, fun _ => u⟩], ⟨rfl, Or.inr ⟨w.heap.size + 4, 1, _, rfl, Nat.le_refl _, heap_alloc5_e _ _ _ _ _ _, by simp, by unfold maxLen; omega, rfl, rfl⟩⟩, fun b hb => ?_, ?_, ?_, ?_, ?_⟩, by simp, hb3⟩
    · rw [List.mem_singleton] at hb
      subst hb
      refine ⟨by simp, by simp, by simp, by simp, by simp, fun i hi => ?_, fun i hi => ?_, fun i hi => (HL.out.below hb3).mono (by omega), fun i hi => (HL'.out.below hb3).mono (by omega)⟩
      · obtain rfl : i = 0 := by have : i < 1 := hi; omega
        exact cell8 (heap_alloc5_c _ _ _ _ _ _)
      · obtain rfl : i = 0 := by have : i < 1 := hi; omega
        exact cell8 (heap_alloc5_d _ _ _ _ _ _)
    · simp [pendC, sumC, sumTo]
    · simp [pendC, sumC, sumTo]; exact hc
    · have := cnt_dsc t; simp [restC, sumC, sumTo]; omega
    · rw [HR.out]; simp [allC, sameC, allTo]
  case round =>
    obtain ⟨E, rfl, HI, hsz, hb⟩ := hrel
    obtain ⟨bs, hown, hbr, hgk, hpe, hrest, htot⟩ := HI.out
    rcases List.eq_nil_or_concat bs with rfl | ⟨bs', b, hbs⟩
    · obtain ⟨a, c, rfl⟩ := row_slice hown
      have HM := Lib.hid (smI_empty HI.out)
      clear htot hrest hgk hown
      go_wp2
      go_ret
      exact ⟨ret_bool HM.out.symm, hb⟩
    · rw [List.concat_eq_append] at hbs
      subst hbs
      have hlen : (bs' ++ [b]).length = bs'.length + 1 := by simp
      rw [hlen] at hown
      obtain ⟨g, c, rfl, hg, hgl, hc1, hc2, _⟩ := row_cells hown (by omega)
      have hpl := pendC_len _ fun c hc => (hbr c hc).1
      rw [hlen] at hpl
      have hL5 : bs'.length ≤ 5000 := by omega
      obtain ⟨d0, d1⟩ := topC_cells hown
      have HCUT := Lib.hid (rowC_cut hown)
      have HBR := Lib.hid hbr
      have HPE := Lib.hid hgk
      have HRE := Lib.hid hrest
      have HTO := Lib.hid htot
      have HPEN := Lib.hid hpe
      have hE : (E : Int) ≤ 26843545 := by omega
      have hL6 : (bs'.length : Int) ≤ 5000 := by omega
      obtain ⟨hbn, hbc, hbc', hbg, hbg', hat, hat', hlv, hlv'⟩ := hbr b (by simp)
      have HAT := Lib.hid hat
      have HLV := Lib.hid hlv
      have HAT' := Lib.hid hat'
      have HLV' := Lib.hid hlv'
      have HL5 := Lib.hid hL5
      have i1 : (bs'.length : Int) ≤ (c : Int) := by omega
      clear hown hbr hgk hrest htot hlen hpl hpe hat hlv hat' hlv' hL5 hc2
      generalize hLL : bs'.length = L at *
      go_wp2_with fail
      have HK := Lib.hid (heap_alloc_new wr (.cells #[.slice (some ⟨b.g, b.off, none⟩) b.n b.cap, .slice (some ⟨b.g', b.off', none⟩) b.n b.cap'] 91))
      have hne : some wr.heap.size ≠ (Value.slice (some ⟨g, 0, none⟩) L c).ownBlock := rowC_ne HCUT.out
      have hO := HCUT.out.alloc (.cells #[.slice (some ⟨b.g, b.off, none⟩) b.n b.cap, .slice (some ⟨b.g', b.off', none⟩) b.n b.cap'] 91)
      have HG := Lib.hid (World.grownBy_alloc wr (.cells #[.slice (some ⟨b.g, b.off, none⟩) b.n b.cap, .slice (some ⟨b.g', b.off', none⟩) b.n b.cap'] 91) (Value.slice (some ⟨g, 0, none⟩) L c).ownBlock)
      have hpw : wr.heap.size < (wr.alloc (.cells #[.slice (some ⟨b.g, b.off, none⟩) b.n b.cap, .slice (some ⟨b.g', b.off', none⟩) b.n b.cap'] 91)).heap.size := by simp
      generalize hwq : wr.alloc (.cells #[.slice (some ⟨b.g, b.off, none⟩) b.n b.cap, .slice (some ⟨b.g', b.off', none⟩) b.n b.cap'] 91) = wq at *
      clear hwq
      obtain ⟨c0, c1⟩ := keep2 HK.out (grownBy_refl wq _) hne
      obtain ⟨p, hp⟩ : ∃ p, p = wr.heap.size := ⟨_, rfl⟩
      rw [← hp] at HK hne c0 c1 hpw
      rw [← hp]
      have HPP := Lib.hid hp
      clear hp
      have hbq : w.heap.size + 4 ≤ wq.heap.size := by have := HG.out.size; omega
      go_region_held3 (fun w' => w'.cell? ⟨p, 0, none⟩ = some (.slice (some ⟨b.g, b.off, none⟩) b.n b.cap) ∧ w'.cell? ⟨p, 1, none⟩ = some (.slice (some ⟨b.g', b.off', none⟩) b.n b.cap'))
        (first | exact keep2 HK.out (grownBy_drew _ _) hne | exact keep2 HK.out (grownBy_trans (grownBy_drew _ _) hg1) hne)
        (first
          | (go_at_call 46; refine (cleave_any b (w.heap.size + 4) L _ _ wq.drew hbn hbc hbc' HL5.out hbq hO).mono ?_; rintro e w1 ⟨v1, rfl, hown1, hg1⟩))
      have hGG := grownBy_trans HG.out (grownBy_trans (grownBy_drew wq _) hg1)
      have hB1 := grown_below HCUT.out hsz hGG
      have hpw1 : p < w1.heap.size := by have := hg1.size; exact Nat.lt_of_lt_of_le hpw this
      have HKB := Lib.hid ((hg1.block p hpw hne).trans HK.out)
      obtain ⟨k0, k1⟩ := keep2 HKB.out (grownBy_refl w1 none) (by simp)
      obtain ⟨x0, x1, x2, x3, x4, x5, x6, x7⟩ := ((HAT.out 0 hbn).below hbg hB1).zero
      obtain ⟨y0, y1, y2, y3, y4, y5, y6, y7⟩ := ((HAT'.out 0 hbn).below hbg' hB1).zero
      have i2 : (0 : Int) < (b.n : Int) := by omega
      have HB1 := Lib.hid hB1
      have HOWN1 := Lib.hid hown1
      clear c0 c1 d0 d1 hGG hB1 hg1 HK hO HG hown1
      go_wp2_with fail
      go_still_tail 8, (by kernel_rfl)
      change wpList _ _ _ _ _ w1.drew
      have hBd : Below w1.heap.size w1 w1.drew := (Below.refl _ _).drew
      generalize w1.drew = wd at *
      clear k0 k1 x0 x1 x2 x3 x4 x5 x6 x7 y0 y1 y2 y3 y4 y5 y6 y7
      obtain ⟨f, hf⟩ : ∃ f, f = likeB (b.kid 0) (b.kid' 0) := ⟨_, rfl⟩
      have HF := Lib.hid hf
      clear hf
      go_wp2_with fail
      refine (like_any (b.kid 0) (b.kid' 0) _).mono ?_
      rintro e w2 ⟨rfl, hb2'⟩
      rw [← HF.out]
      have hb2 : Below w1.heap.size w1 w2 := hBd.trans (hb2'.mono hBd.size)
      have HB2 := Lib.hid (HB1.out.trans (hb2.mono (show w.heap.size + 4 ≤ w1.heap.size by have := HB1.out.size; omega)))
      have HOWN2 := Lib.hid (ownsRow_below HOWN1.out hb2)
      obtain ⟨l0, l1⟩ := keep2 ((hb2.block p hpw1).trans HKB.out) (grownBy_refl w2 none) (by simp)
      obtain ⟨x0, x1, x2, x3, x4, x5, x6, x7⟩ := ((HAT.out 0 hbn).below hbg HB2.out).zero
      obtain ⟨y0, y1, y2, y3, y4, y5, y6, y7⟩ := ((HAT'.out 0 hbn).below hbg' HB2.out).zero
      have hbB : Below w.heap.size w w2 := hb.trans (HB2.out.mono (by omega))
      have hs2 : w.heap.size + 4 ≤ w2.heap.size := Nat.le_trans hsz HB2.out.size
      clear hb2 hb2' hBd HB1 HOWN1 HKB
      cases f
      · have HNO := Lib.hid (smI_not hbn HTO.out HF.out.symm)
        go_wp2
        go_ret
        exact ⟨ret_bool HNO.out.symm, hbB⟩
      · by_cases hxn : (b.kid 0).n = 0
        · have HST := Lib.hid (smI_leaf hbn HBR.out HPEN.out HRE.out HTO.out HF.out.symm hxn (by rw [hLL]; exact HOWN2.out) HB2.out)
          have hxn' : ¬ 0 < (b.kid 0).n := by omega
          go_wp2
          go_roundg (pendC (bs' ++ tailC b))
          case measure => rw [HPE.out]; exact HST.out.2
          case rel => exact ⟨E, rfl, Lib.hid HST.out.1, hs2, hbB⟩
        · have hxp : 0 < (b.kid 0).n := by omega
          have HLX := Lib.hid (lives_at ((HLV.out 0 hbn).below HB2.out))
          have HLY := Lib.hid (lives_at ((HLV'.out 0 hbn).below HB2.out))
          have HYN := Lib.hid (like_n HF.out.symm)
          have HCN := Lib.hid (show (b.kid 0).n + E ≤ 2000 by have h1 := restC_pop bs' hbn; have h2 := dsc_split (b.kid 0); have h3 := HRE.out; omega)
          obtain ⟨xl1, xl3, xl4⟩ := HLX.out
          obtain ⟨yl1, yl3, yl4⟩ := HLY.out
          obtain ⟨xg, xoff, hxa, hxg, hxat⟩ := xl3 hxp
          obtain ⟨yg, yoff, hya, hyg, hyat⟩ := yl3 (by rw [HYN.out]; exact hxp)
          rw [hxa] at x7
          rw [hya, HYN.out] at y7
          have HKEY := Lib.hid (fun (v3 : Value) (w3 : World) (hown3 : w3.ownsRow (w.heap.size + 4) 91 2 v3 (L + (tailC b).length + 1) (flatC bs' ++ flatC (tailC b) ++ [.slice (some ⟨xg, xoff, none⟩) (b.kid 0).n (b.kid 0).cap, .slice (some ⟨yg, yoff, none⟩) (b.kid 0).n (b.kid' 0).cap])) (hb3 : Below (w.heap.size + 4) w2 w3) =>
            smI_kids (c := ⟨xg, xoff, (b.kid 0).cap, (b.kid 0).kid, (b.kid 0).n, yg, yoff, (b.kid' 0).cap, (b.kid' 0).kid⟩) hbn HBR.out HPEN.out HRE.out HTO.out HF.out.symm rfl rfl rfl
              ⟨hxp, xl1, by show (b.kid 0).n ≤ _; rw [← HYN.out]; exact yl1, hxg, hyg, fun i hi => (hxat i hi).below hxg hb3, fun i hi => (hyat i (by rw [HYN.out]; exact hi)).below hyg hb3, fun i hi => (xl4 i hi).below hb3, fun i hi => (yl4 i (by rw [HYN.out]; exact hi)).below hb3⟩ (by rw [hLL]; exact hown3) (HB2.out.trans hb3))
          have hne2 : ((b.kid 0).n : Int) ≤ 2000 := by have := HCN.out; omega
          have hE2 : (E : Int) ≤ 2000 := by have := HCN.out; omega
          have HL7 := Lib.hid (show L + (tailC b).length ≤ 6000 by have := HL5.out; unfold tailC; split <;> simp <;> omega)
          have hOw := HOWN2.out
          clear hxat hyat xl4 yl4 xl3 yl3 xl1 yl1 hxa hya hxn
          go_wp2_with (first | (at_builtin; refine wpList_append_own _ rfl _ _ 92 rfl (w.heap.size + 4) 91 i0 _ 2 48 Tryd.underlying92 hi hz0 hz1 hz2 rfl (by decide) _ _ _ rfl (hOw.alloc _) ⟨w2.heap.size, 0, none⟩ 1 1 [.slice (some ⟨xg, xoff, none⟩) (b.kid 0).n (b.kid 0).cap, .slice (some ⟨yg, yoff, none⟩) (b.kid 0).n (b.kid' 0).cap] rfl rfl ?c1 ?c2 ?c3 ?c4 ?c5 ?_))
          case c1 => exact World.news_of_block (cs := #[.slice (some ⟨xg, xoff, none⟩) (b.kid 0).n (b.kid 0).cap, .slice (some ⟨yg, yoff, none⟩) (b.kid 0).n (b.kid' 0).cap]) (t := 91) (fr := (0, 0)) (heap_alloc_new w2 _)
          case c2 => intro u hu; simp at hu; rcases hu with rfl | rfl <;> rfl
          case c3 => have := HL7.out; unfold maxLen; omega
          case c4 => have := HL7.out; omega
          case c5 => simp; omega
          · intro v3 w3 hown3 hgrow _
            have hb3 := grown_below (hOw.alloc _) (by simp; omega) hgrow
            have hb4 : Below (w.heap.size + 4) w2 w3 := ((Below.refl _ w2).alloc hs2 _).trans hb3
            obtain ⟨j1, j2⟩ := HKEY.out v3 w3 (by rw [List.append_assoc]; exact hown3) hb4
            have HJ1 := Lib.hid j1
            have HJ2 := Lib.hid j2
            have hbF := hbB.trans (hb4.mono (by omega))
            clear j1 j2 hown3 hgrow hb3
            go_wp2
            go_roundg (pendC (bs' ++ tailC b ++ [⟨xg, xoff, (b.kid 0).cap, (b.kid 0).kid, (b.kid 0).n, yg, yoff, (b.kid' 0).cap, (b.kid' 0).kid⟩]))
            case measure => rw [HPE.out]; exact HJ2.out
            case rel => exact ⟨E + (b.kid 0).n, rfl, Lib.hid HJ1.out, Nat.le_trans hs2 hb4.size, hbF⟩
end Go.Proofs.YtnfchlkdppblfaaDoor
