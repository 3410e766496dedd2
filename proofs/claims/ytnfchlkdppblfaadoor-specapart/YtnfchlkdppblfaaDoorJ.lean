/- The text of a pattern, its length, and what write and writeWithin are to do. -/
import Derived.Test.YtnfchlkdppblfaaDoorK
namespace Go.Proofs.YtnfchlkdppblfaaDoor
open Go.RowKit
/-- A text in brackets, if it has to be. -/
def encT (t : List UInt8) (b : Bool) : List UInt8 := if b = true then [40] ++ t ++ [41] else t
/-- The text of a pattern. -/
def txt : Tr → List UInt8
  | .node k s lo hi _ n _ kid =>
    if k = 1 then [40, 41] else if k = 2 then setT s else
      catTo (fun i => (if 0 < i ∧ k = 4 then [124] else []) ++ encT (txt (kid i)) (enclB (kid i).k k)) n ++ (if k = 5 then countsT lo hi else [])
  | .nul => []
def pieceT (k : Int) (kid : Nat → Tr) (i : Nat) : List UInt8 := (if 0 < i ∧ k = 4 then [124] else []) ++ encT (txt (kid i)) (enclB (kid i).k k)
set_option maxRecDepth 100000 in
theorem txt_many {k : Int} {s : Nat → Int} {lo hi : Int} {a : Option Addr} {n cap : Nat} {kid : Nat → Tr} (h1 : k ≠ 1) (h2 : k ≠ 2) : txt (.node k s lo hi a n cap kid) = catTo (pieceT k kid) n ++ (if k = 5 then countsT lo hi else []) := by
  rw [txt, if_neg h1, if_neg h2]; rfl
set_option maxRecDepth 100000 in
theorem catTo_sum (f : Nat → List UInt8) : ∀ n, (catTo f n).length = sumTo (fun i => (f i).length) n
  | 0 => rfl
  | n + 1 => by simp only [catTo, List.length_append, sumTo, catTo_sum f n]
set_option maxRecDepth 100000 in
theorem sumTo_le {f g : Nat → Nat} : ∀ n, (∀ i, i < n → f i ≤ g i) → sumTo f n ≤ sumTo g n
  | 0, _ => Nat.le_refl _
  | n + 1, h => by have h1 := sumTo_le n fun i hi => h i (by omega); have h2 := h n (by omega); simp only [sumTo]; omega
set_option maxRecDepth 100000 in
theorem sumTo_mul (c : Nat) (f : Nat → Nat) : ∀ n, sumTo (fun i => c * f i) n = c * sumTo f n
  | 0 => by simp [sumTo]
  | n + 1 => by simp only [sumTo, sumTo_mul c f n, Nat.mul_add]
set_option maxRecDepth 100000 in
theorem digs_le (i : Nat) : (digs i).length ≤ 2 := by
  by_cases h : i ≤ 20
  · exact digs_len h
  · unfold digs
    rw [List.getD_eq_getElem?_getD, List.getElem?_eq_none (by simp [digsL]; omega)]; simp
set_option maxRecDepth 100000 in
theorem countsT_len (lo hi : Int) : (countsT lo hi).length ≤ 7 := by
  unfold countsT
  have h1 := digs_le lo.toNat
  have h2 := digs_le hi.toNat
  split <;> simp <;> omega
set_option maxRecDepth 100000 in
theorem encT_len (t : List UInt8) (b : Bool) : (encT t b).length ≤ t.length + 2 := by unfold encT; split <;> simp
set_option maxRecDepth 100000 in
theorem piece_len {k : Int} {kid : Nat → Tr} {i : Nat} (h : (txt (kid i)).length + 10 ≤ 3000 * cnt (kid i)) : (pieceT k kid i).length ≤ 3000 * cnt (kid i) := by
  have := encT_len (txt (kid i)) (enclB (kid i).k k)
  unfold pieceT
  rw [List.length_append]
  split <;> simp <;> omega
set_option maxRecDepth 100000 in
theorem txt_len : ∀ t : Tr, (txt t).length + 10 ≤ 3000 * cnt t
  | .node k s lo hi a n cap kid => by
    by_cases h1 : k = 1
    · rw [txt, if_pos h1, cnt]; simp; omega
    · by_cases h2 : k = 2
      · rw [txt, if_neg h1, if_pos h2, cnt]; have := setT_len s; omega
      · rw [txt_many h1 h2, cnt, List.length_append, catTo_sum]
        have h3 := sumTo_le n fun i _ => piece_len (k := k) (txt_len (kid i))
        rw [sumTo_mul] at h3
        have h4 := countsT_len lo hi
        split <;> simp <;> omega
  | .nul => by simp [txt, cnt]
set_option maxRecDepth 100000 in
theorem cat_le (k : Int) (kid : Nat → Tr) (j : Nat) : (catTo (pieceT k kid) j).length ≤ 3000 * sumTo (fun i => cnt (kid i)) j := by
  rw [catTo_sum]
  have h3 := sumTo_le j fun i _ => piece_len (k := k) (txt_len (kid i))
  rw [sumTo_mul] at h3
  exact h3
/-- What write is to do. -/
def Writes (t : Tr) : Prop := ∀ (B : Nat) (l : List UInt8) (v : Value) (w : World), Lives w B t → w.ownsRow B 5 1 v l.length (bc l) → B ≤ w.heap.size → l.length + 3000 * cnt t ≤ 800000000 → Calls Tryd.prog 41 #[t.val, v] w (Wr B v w l (txt t))
set_option maxRecDepth 100000 in
theorem cells_kept {w w' : World} {p : Nat} {o : Obj} (h : w.heap[p]? = some o) (hb : w'.heap[p]? = w.heap[p]?) : w'.heap[p]? = some o := hb.trans h
set_option maxRecDepth 100000 in
theorem own_ne {w : World} {B n q : Nat} {v : Value} {xs : List Value} (h : w.ownsRow B 5 1 v n xs) (hq : w.heap.size ≤ q) : v.ownBlock ≠ some q := fun e => by have := (h.lt _ e).2; omega
/-- What writeWithin is to do. -/
def Within (t : Tr) : Prop := ∀ (B : Nat) (kind : Int) (l : List UInt8) (v : Value) (w : World), Lives w B t → w.ownsRow B 5 1 v l.length (bc l) → B ≤ w.heap.size → l.length + 1 + 3000 * cnt t ≤ 800000000 → Calls Tryd.prog 62 #[t.val, v, .int .i64 kind] w (Wr B v w l (encT (txt t) (enclB t.k kind)))
end Go.Proofs.YtnfchlkdppblfaaDoor
