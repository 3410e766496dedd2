/- The law's Made: a right pattern by numbers. -/
import Derived.Test.YtnfchlkdppblfaaDoorMf
import Derived.Test.YtnfchlkdppblfaaDoorBk
namespace Go.Proofs.YtnfchlkdppblfaaDoor
open Go.RowKit
/-- A row of bytes in memory. -/
def ByteRow (w : World) (a : Option Addr) (n : Nat) (F : Nat → Int) : Prop := 0 < n → ∃ g off, a = some ⟨g, off, none⟩ ∧ g < w.heap.size ∧ ∀ i, i < n → w.cell? ⟨g, off + i, none⟩ = some (.int .u8 (F i))
set_option maxRecDepth 100000 in
theorem ByteRow.below {w w' : World} {a : Option Addr} {n : Nat} {F : Nat → Int} (h : ByteRow w a n F) (hb : Below w.heap.size w w') : ByteRow w' a n F := fun hn => by
  obtain ⟨g, off, ha, hg, hc⟩ := h hn
  exact ⟨g, off, ha, Nat.lt_of_lt_of_le hg hb.size, fun i hi => (hb.cell (p := ⟨g, _, none⟩) hg).trans (hc i hi)⟩
set_option maxRecDepth 100000 in
theorem ByteRow.part {w : World} {a : Option Addr} {n m : Nat} {F : Nat → Int} (h : ByteRow w a n F) (hm : m ≤ n) : ByteRow w a m F := fun hn => by
  obtain ⟨g, off, ha, hg, hc⟩ := h (by omega)
  exact ⟨g, off, ha, hg, fun i hi => hc i (by omega)⟩
/-- What Made gives back. -/
def MadeI (w : World) (e : Ending) (w' : World) : Prop :=
  ∃ t : Tr, e = .returned (nodeV t.k t.s t.lo t.hi (.slice t.a t.n t.cap)) ∧ okT t 20 = true ∧ sz t ≤ 40 ∧ (cnt t ≤ 100 ∧ sml t) ∧ Lives w' w'.heap.size t ∧ Below w.heap.size w w'
set_option maxRecDepth 100000 in
theorem made_right {t : Tr} (h : okT t 20 = true) (hs : sz t ≤ 40) (hc : cnt t ≤ 100) : rightB t = true := by
  simp only [rightB, h, Bool.true_and, Bool.and_eq_true, decide_eq_true_eq]; omega
set_option maxRecDepth 100000 in
theorem sz_char (s : Nat → Int) : sz (lfT 2 s) = 1 := by
  rw [sz_eq]; simp [lfT, ownT, timT, Tr.k]
set_option maxRecDepth 100000 in
theorem mk_new {w : World} {o : Obj} {a : Option Addr} {n cap : Nat} {F : Nat → Int} (h : ByteRow w a n F) : Mk ((w.alloc o).alloc (.cells #[.slice a n cap, .int .i64 0] 53)) (w.heap.size + 1) a n cap F 0 := by
  refine ⟨by simpa using heap_alloc_new (w.alloc o) (.cells #[.slice a n cap, .int .i64 0] 53), fun hn => ?_⟩
  obtain ⟨g, off, ha, hg, hc⟩ := h hn
  have hb : Below w.heap.size w ((w.alloc o).alloc (.cells #[.slice a n cap, .int .i64 0] 53)) := (alloc_below _ _).alloc (by simp) _
  exact ⟨g, off, ha, by omega, fun i hi => (hb.cell (p := ⟨g, _, none⟩) hg).trans (hc i hi)⟩
set_option maxRecDepth 100000 in
theorem grown_below_p {w w1 w2 : World} {p : Nat} (h : Below w.heap.size w w1) (hG : w1.grownBy w2 (some p)) (hp : w.heap.size ≤ p) : Below w.heap.size w w2 :=
  h.trans ((Below.refl w.heap.size w1).grown hG h.size fun k hk => by have : p = k := by simpa using hk
                                                                      omega)
set_option maxRecDepth 100000 in
theorem made_char {w w3 : World} {f : Nat → Int} (hK : LfOk 2 f) (hB : Below w.heap.size w w3) : MadeI w (.returned (nodeV 2 f 0 0 (.slice none 0 0))) (put8 w3 w.heap.size 2 f 0 0 (.slice none 0 0)) := by
  obtain ⟨h1, h2, h3⟩ := lf_ok hK
  refine ⟨lfT 2 f, rfl, okT_mono h1 (by omega), ?_, ⟨?_, lf_sml hK⟩, h3 _ _, hB.trans (put8_below w3 (Nat.le_refl _) 2 f 0 0 (.slice none 0 0))⟩
  · have := sz_char f; omega
  · omega
end Go.Proofs.YtnfchlkdppblfaaDoor
