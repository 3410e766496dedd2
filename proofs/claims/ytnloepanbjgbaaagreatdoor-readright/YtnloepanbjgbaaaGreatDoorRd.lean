/- What is printed is read to the same: bytes, sets, counts. -/
import Derived.Test.YtnloepanbjgbaaaGreatDoorQt
import Derived.Test.YtnloepanbjgbaaaGreatDoorPc
import Derived.Test.YtnloepanbjgbaaaGreatDoorQx
namespace Go.Proofs.YtnloepanbjgbaaaGreatDoor
open Go.RowKit
/-- What stands from a place on. -/
def Sx (S : ByteArray) (i : Nat) (r : List UInt8) : Prop := S.data.toList.drop i = r ∧ i ≤ S.size
theorem Sx.len {S : ByteArray} {i : Nat} {r : List UInt8} (h : Sx S i r) : i + r.length = S.size := by
  obtain ⟨h1, h2⟩ := h
  have := congrArg List.length h1
  rw [List.length_drop, Array.length_toList] at this
  change S.size - i = r.length at this
  omega
theorem Sx.cons {S : ByteArray} {i : Nat} {c : UInt8} {r : List UInt8} (h : Sx S i (c :: r)) : nx S i = (c.toNat : Int) ∧ Sx S (i + 1) r := by
  have hl := h.len
  have hi : i < S.size := by simp at hl; omega
  have hi' : i < S.data.toList.length := by rw [Array.length_toList]; exact hi
  have h1 := h.1
  rw [List.drop_eq_getElem_cons hi'] at h1
  injection h1 with h1 h2
  refine ⟨?_, h2, by omega⟩
  rw [nx_in hi, ← h1]
  rfl
theorem Sx.nil {S : ByteArray} {i : Nat} (h : Sx S i []) : nx S i = -1 := by
  have := h.len
  exact nx_out (by simp at this; omega)
theorem Sx.app {S : ByteArray} {i : Nat} {a r : List UInt8} (h : Sx S i (a ++ r)) : Sx S (i + a.length) r := by
  have hl := h.len
  refine ⟨?_, by simp at hl; omega⟩
  have := congrArg (List.drop a.length) h.1
  rw [List.drop_drop, List.drop_left] at this
  rw [← this]
theorem hex_ok : ∀ m : Fin 16, hexOk ((hexd m.val).toNat : Int) = true ∧ hexI ((hexd m.val).toNat : Int) = (m.val : Int) := by decide +kernel
theorem plain_ok : ∀ (cls : Bool) (m : Fin 256), plainC (m.val : Int) = true → visC (m.val : Int) = true ∧ (barL cls).contains (m.val : Int) = false ∧ (m.val : Int) ≠ 92 := by decide +kernel
theorem oneP_byte {S : ByteArray} {i : Nat} {b : Int} {r : List UInt8} (cls : Bool) (h0 : 0 ≤ b) (h1 : b < 256) (h : Sx S i (byteT b ++ r)) : oneP (nx S) cls i = .ok b (i + (byteT b).length) := by
  unfold byteT at h ⊢
  by_cases p : plainC b = true
  · rw [if_pos p] at h ⊢
    obtain ⟨e, _⟩ := h.cons
    rw [u8_of h0 h1] at e
    have hb := plain_ok cls ⟨b.toNat, by omega⟩
    simp only [Int.toNat_of_nonneg h0] at hb
    obtain ⟨g1, g2, g3⟩ := hb p
    unfold oneP
    rw [e, if_neg g3, if_pos ⟨g1, g2⟩]
    rfl
  · rw [if_neg p] at h ⊢
    obtain ⟨e0, h⟩ := h.cons
    obtain ⟨e1, h⟩ := h.cons
    obtain ⟨e2, h⟩ := h.cons
    obtain ⟨e3, _⟩ := h.cons
    have k1 := hex_ok ⟨b.toNat / 16, by omega⟩
    have k2 := hex_ok ⟨b.toNat % 16, by omega⟩
    simp only at k1 k2
    have e3' : nx S (i + 1 + 1 + 1) = ((hexd (b.toNat % 16)).toNat : Int) := e3
    unfold oneP
    rw [if_pos (by rw [e0]; rfl)]
    unfold escP
    rw [if_pos (by rw [e1]; rfl)]
    unfold hexP
    rw [e2, e3', k1.1, k2.1, if_neg (by simp), if_neg (by simp), k1.2, k2.2]
    congr 1
    omega
/-- How a byte's text goes on. -/
theorem byteT_first {b : Int} (h0 : 0 ≤ b) (h1 : b < 256) : ∃ c m, byteT b = c :: m ∧ c ≠ 94 ∧ c ≠ 45 ∧ c ≠ 93 ∧ c ≠ 40 ∧ c ≠ 91 ∧ c ≠ 123 ∧ c ≠ 46 ∧ c ≠ 124 ∧ c ≠ 41 ∧ c ≠ 42 ∧ c ≠ 43 ∧ c ≠ 63 := by
  have key : ∀ m : Fin 256, plainC (m.val : Int) = true → (UInt8.ofNat m.val ≠ 94 ∧ UInt8.ofNat m.val ≠ 45 ∧ UInt8.ofNat m.val ≠ 93 ∧ UInt8.ofNat m.val ≠ 40 ∧ UInt8.ofNat m.val ≠ 91 ∧ UInt8.ofNat m.val ≠ 123 ∧ UInt8.ofNat m.val ≠ 46 ∧ UInt8.ofNat m.val ≠ 124 ∧ UInt8.ofNat m.val ≠ 41 ∧ UInt8.ofNat m.val ≠ 42 ∧ UInt8.ofNat m.val ≠ 43 ∧ UInt8.ofNat m.val ≠ 63) := by decide +kernel
  unfold byteT
  by_cases p : plainC b = true
  · rw [if_pos p]
    have hb := key ⟨b.toNat, by omega⟩
    simp only [Int.toNat_of_nonneg h0] at hb
    exact ⟨_, _, rfl, hb p⟩
  · rw [if_neg p]
    exact ⟨92, _, rfl, by decide, by decide, by decide, by decide, by decide, by decide, by decide, by decide, by decide, by decide, by decide, by decide⟩
theorem nat_ne {c d : UInt8} (h : c ≠ d) : (c.toNat : Int) ≠ (d.toNat : Int) := fun e => h (UInt8.toNat_inj.1 (by omega))
def itemT (x : Int × Int) : List UInt8 := byteT x.1 ++ (if x.1 < x.2 then [45] ++ byteT x.2 else [])
theorem itemP_run {S : ByteArray} {i : Nat} {x : Int × Int} {r : List UInt8} (hx : okP x) (h : Sx S i (itemT x ++ r)) (hr : ∀ m, r ≠ 45 :: m) : itemP (nx S) i = .ok (byK (ofK x.1 x.2)) (i + (itemT x).length) := by
  unfold okP at hx
  unfold itemT at h ⊢
  rw [List.append_assoc] at h
  have h1 := oneP_byte true (by omega) (by omega) h
  have h2 := h.app
  unfold itemP
  rw [h1]
  by_cases p : x.1 < x.2
  · rw [if_pos p] at h2 ⊢
    obtain ⟨e, h3⟩ := h2.cons
    have h4 := oneP_byte true (b := x.2) (r := r) (by omega) (by omega) h3
    simp only [e]
    rw [if_pos (by rfl), h4]
    simp only
    rw [if_neg (by omega)]
    simp only [List.length_append, List.length_cons, List.length_nil]
    congr 1
    omega
  · rw [if_neg p] at h2 ⊢
    rw [List.nil_append] at h2
    have hne : nx S (i + (byteT x.1).length) ≠ 45 := by
      cases r with
      | nil => rw [h2.nil]; omega
      | cons c m =>
        rw [h2.cons.1]
        have hc : c ≠ 45 := fun e => hr m (by rw [e])
        exact nat_ne hc
    simp only
    rw [if_neg hne, List.append_nil, show x.2 = x.1 by omega]
theorem cls_items (x : Int × Int) (xs : List (Int × Int)) : cls (x :: xs) = itemT x ++ cls xs := by simp [cls, itemT]
/-- The union of runs. -/
def orL (s : Nat → Int) : List (Int × Int) → Nat → Int
  | [] => s
  | x :: xs => orL (orS s (byK (ofK x.1 x.2))) xs
theorem itemsP_runs {S : ByteArray} : ∀ (xs : List (Int × Int)) {x : Int × Int} {s : Nat → Int} {f i : Nat} {r : List UInt8}, (∀ y ∈ x :: xs, okP y) → Sx S i (cls (x :: xs) ++ 93 :: r) → S.size < i + f → itemsP (nx S) f s i = .ok (orL s (x :: xs)) (i + (cls (x :: xs)).length + 1)
  | xs, x, s, 0, i, r, hx, h, hf => by have := h.len; omega
  | [], x, s, f + 1, i, r, hx, h, hf => by
    rw [cls_items, List.append_assoc] at h
    have h1 := itemP_run (hx x (by simp)) h (by intro m e; simp [cls] at e)
    have h2 := h.app.cons
    rw [itemsP, h1]
    simp only
    rw [if_pos (by rw [h2.1]; rfl), cls_items]
    simp [cls, orL]
  | y :: ys, x, s, f + 1, i, r, hx, h, hf => by
    have hy := hx y (by simp)
    unfold okP at hy
    obtain ⟨c, m, hc, _, h45, h93, _⟩ := byteT_first (b := y.1) (by omega) (by omega)
    have hcl : cls (y :: ys) = c :: (m ++ ((if y.1 < y.2 then [45] ++ byteT y.2 else []) ++ cls ys)) := by rw [cls, hc]; rfl
    rw [cls_items, List.append_assoc] at h
    have h1 := itemP_run (hx x (by simp)) h (by intro q e; rw [hcl] at e; simp at e; exact h45 e.1)
    have h2 := h.app
    have h3 := h2
    rw [hcl] at h3
    have h4 := h3.cons.1
    have hx1 : 1 ≤ (itemT x).length := by
      have hxx := hx x (by simp)
      unfold okP at hxx
      obtain ⟨c', m', hc', _⟩ := byteT_first (b := x.1) (by omega) (by omega)
      unfold itemT; rw [hc']; simp
    rw [itemsP, h1]
    simp only
    rw [if_neg (by rw [h4]; exact nat_ne h93)]
    rw [itemsP_runs ys (x := y) (fun z hz => hx z (by simp at hz ⊢; exact Or.inr hz)) h2 (by omega), cls_items x]
    simp only [orL, List.length_append]
    congr 1
    omega
theorem wf_orL : ∀ (xs : List (Int × Int)) {s : Nat → Int}, Wf s → Wf (orL s xs)
  | [], _, h => h
  | x :: xs, s, h => wf_orL xs (wf_or h (wf_byK _))
theorem hasI_orL : ∀ (xs : List (Int × Int)) {s : Nat → Int}, Wf s → ∀ b : Int, 0 ≤ b → b < 256 → (hasI (orL s xs) b = true ↔ (hasI s b = true ∨ ∃ x ∈ xs, x.1 ≤ b ∧ b ≤ x.2))
  | [], _, _, b, _, _ => by simp [orL]
  | x :: xs, s, h, b, h0, h1 => by
    rw [orL, hasI_orL xs (wf_or h (wf_byK _)) b h0 h1, hasI_or h (wf_byK _), hasI_byK _ h0 h1, Bool.or_eq_true]
    simp only [ofK, Bool.and_eq_true, decide_eq_true_eq, List.mem_cons]
    constructor
    · rintro ((q | q) | ⟨y, hy, q⟩)
      · exact Or.inl q
      · exact Or.inr ⟨x, Or.inl rfl, q⟩
      · exact Or.inr ⟨y, Or.inr hy, q⟩
    · rintro (q | ⟨y, rfl | hy, q⟩)
      · exact Or.inl (Or.inl q)
      · exact Or.inl (Or.inr q)
      · exact Or.inr ⟨y, hy, q⟩
theorem orL_same {s : Nat → Int} (hs : Wf s) : eqS (orL (fun _ => 0) (pairsL (runsS s) (runsN s))) s = true := by
  refine ext_eqS (wf_orL _ wf0) hs fun b h0 h1 => ?_
  have e1 := hasI_orL (pairsL (runsS s) (runsN s)) wf0 b h0 h1
  have e2 := (rn_set s).has b h0 h1
  change (hasI s b = true ↔ ∃ i, i < runsN s ∧ lo (runsS s) i ≤ b ∧ b ≤ hi (runsS s) i) at e2
  rw [hasI_0 h0 h1] at e1
  have : hasI (orL (fun _ => 0) (pairsL (runsS s) (runsN s))) b = true ↔ hasI s b = true := by
    rw [e1, e2]
    constructor
    · rintro (q | ⟨x, hx, q⟩)
      · cases q
      · obtain ⟨i, hi', rfl⟩ := List.mem_map.1 hx
        exact ⟨i, List.mem_range.1 hi', q⟩
    · rintro ⟨i, hi', q⟩
      exact Or.inr ⟨(lo (runsS s) i, hi (runsS s) i), List.mem_map.2 ⟨i, List.mem_range.2 hi', rfl⟩, q⟩
  cases p : hasI (orL (fun _ => 0) (pairsL (runsS s) (runsN s))) b <;> cases q : hasI s b <;> simp_all
theorem eqS_symm {s t : Nat → Int} (h : eqS s t = true) : eqS t s = true := by
  simp only [eqS, Bool.and_eq_true, beq_iff_eq] at h ⊢
  omega
theorem plain_congr' {s s' : Nat → Int} (h : eqS s s' = true) : eqS s z0 = eqS s' z0 := by
  simp only [eqS, Bool.and_eq_true, beq_iff_eq] at h
  simp only [eqS, h.1, h.2.1, h.2.2.1, h.2.2.2]
/-- A set that is printed is read to the same. -/
theorem atom_set {G : Nat → Nat → Rs (Tr × Nat)} {S : ByteArray} {D : Df} {n i c : Nat} {s : Nat → Int} {r : List UInt8} (hs : Wf s) (hne : eqS s z0 = false) (h : Sx S i (setT s ++ r)) :
    ∃ F, atomG G S D n false i c = .ok (lfT 2 F, c) (i + (setT s).length) ∧ eqS F s = true := by
  unfold setT at h ⊢
  by_cases p : oneB s = true
  · obtain ⟨p1, p2, p3, p4⟩ := one_ok p
    rw [if_pos p] at h ⊢
    obtain ⟨c0, m, hc, _, _, _, h40, h91, h123, h46, _⟩ := byteT_first p3 p4
    have h' := h
    rw [hc] at h'
    have e := h'.cons.1
    refine ⟨foldB false (byK (ofK (lo (runsS s) 0) (lo (runsS s) 0))), ?_, ?_⟩
    · unfold atomG
      rw [e, if_neg (show ¬ (c0.toNat : Int) = 40 from nat_ne h40), if_neg (show ¬ (c0.toNat : Int) = 91 from nat_ne h91), if_neg (show ¬ (c0.toNat : Int) = 123 from nat_ne h123), if_neg (show ¬ (c0.toNat : Int) = 46 from nat_ne h46), oneP_byte false p3 p4 h]
      rfl
    · have hx : pairsL (runsS s) (runsN s) = [(lo (runsS s) 0, lo (runsS s) 0)] := by rw [p1]; simp [pairsL, List.range_succ, ← p2]
      have h1 := orL_same hs
      rw [hx] at h1
      show eqS (byK _) s = true
      refine ext_eqS (wf_byK _) hs fun b h0 h1' => ?_
      have h2 := hasI_congr h1 b
      rw [orL, orL, hasI_or wf0 (wf_byK _), hasI_0 h0 h1', Bool.false_or] at h2
      exact h2
  · rw [if_neg p, cls_pairs] at h ⊢
    have hpos : pairsL (runsS s) (runsN s) ≠ [] := by
      intro e
      have h1 := orL_same hs
      rw [e] at h1
      have := eqS_symm h1
      change eqS s z0 = true at this
      rw [hne] at this; cases this
    obtain ⟨x, xs, hxs⟩ : ∃ x xs, pairsL (runsS s) (runsN s) = x :: xs := by
      cases q : pairsL (runsS s) (runsN s) with
      | nil => exact absurd q hpos
      | cons x xs => exact ⟨x, xs, rfl⟩
    have hok := pairs_ok s
    rw [hxs] at h hok ⊢
    have hsame := orL_same hs
    rw [hxs] at hsame
    simp only [List.cons_append, List.nil_append, List.append_assoc] at h
    obtain ⟨e0, h1⟩ := h.cons
    have hxo := hok x (by simp)
    unfold okP at hxo
    obtain ⟨c0, m, hc, h94, _⟩ := byteT_first (b := x.1) (by omega) (by omega)
    have h1' := h1
    rw [cls, hc] at h1'
    have e1 := h1'.cons.1
    have hlen := h.len
    have hit := itemsP_runs xs hok h1 (s := fun _ => 0) (f := S.size + 1) (by omega)
    have hcl : classP (nx S) S.size false i = .ok (orL (fun _ => 0) (x :: xs)) (i + 1 + (cls (x :: xs)).length + 1) := by
      unfold classP
      have hnn : ¬ nx S (i + 1) = 94 := by rw [e1]; exact nat_ne h94
      simp only [if_neg hnn]
      rw [hit]
      simp only
      have hz : eqS (foldB false (orL (fun _ => 0) (x :: xs))) z0 = false := by
        cases q : eqS (foldB false (orL (fun _ => 0) (x :: xs))) z0
        · rfl
        · have hq : eqS (orL (fun _ => 0) (x :: xs)) z0 = true := q
          rw [plain_congr' hsame] at hq
          rw [hne] at hq; cases hq
      rw [hz]
      rfl
    refine ⟨_, ?_, hsame⟩
    unfold atomG
    rw [e0, if_neg (by decide), if_pos (by rfl), hcl]
    simp only [leafR, List.length_append, List.length_cons, List.length_nil]
    congr 1
    omega
end Go.Proofs.YtnloepanbjgbaaaGreatDoor
/- What is printed is read to the same: counts, parts, patterns. -/
namespace Go.Proofs.YtnloepanbjgbaaaGreatDoor
open Go.RowKit
/-- No quantifier begins there. -/
def NoQ (r : List UInt8) : Prop := ∀ c m, r = c :: m → c ≠ 42 ∧ c ≠ 43 ∧ c ≠ 63 ∧ c ≠ 123
theorem atQ_no {S : ByteArray} {i : Nat} {r : List UInt8} (h : Sx S i r) (hr : NoQ r) : atQP (nx S) i = false := by
  unfold atQP
  cases r with
  | nil => rw [h.nil]; rfl
  | cons c m =>
    obtain ⟨h1, h2, h3, h4⟩ := hr c m rfl
    rw [h.cons.1]
    have e1 : ¬ (c.toNat : Int) = 42 := nat_ne h1
    have e2 : ¬ (c.toNat : Int) = 43 := nat_ne h2
    have e3 : ¬ (c.toNat : Int) = 63 := nat_ne h3
    have e4 : ¬ (c.toNat : Int) = 123 := nat_ne h4
    simp [e1, e2, e3, e4]
theorem dig_all : ∀ m : Fin 21, ∃ d, (digs m.val = [d] ∧ digC (d.toNat : Int) = true ∧ (d.toNat : Int) - 48 = (m.val : Int)) ∨ (∃ e, digs m.val = [d, e] ∧ digC (d.toNat : Int) = true ∧ digC (e.toNat : Int) = true ∧ (d.toNat : Int) ≠ 48 ∧ ((d.toNat : Int) - 48) * 10 + (e.toNat : Int) - 48 = (m.val : Int)) := by
  intro m
  have : ∀ m : Fin 21, (match digs m.val with
    | [d] => decide (digC (d.toNat : Int) = true ∧ (d.toNat : Int) - 48 = (m.val : Int))
    | [d, e] => decide (digC (d.toNat : Int) = true ∧ digC (e.toNat : Int) = true ∧ (d.toNat : Int) ≠ 48 ∧ ((d.toNat : Int) - 48) * 10 + (e.toNat : Int) - 48 = (m.val : Int))
    | _ => false) = true := by decide +kernel
  have h := this m
  split at h
  · rename_i d hd; exact ⟨d, Or.inl ⟨hd, of_decide_eq_true h⟩⟩
  · rename_i d e hd; exact ⟨d, Or.inr ⟨e, hd, of_decide_eq_true h⟩⟩
  · cases h
theorem numP_digs {S : ByteArray} {i m : Nat} {c : UInt8} {r : List UInt8} (hm : m ≤ 20) (h : Sx S i (digs m ++ c :: r)) (hc : digC (c.toNat : Int) = false) : numP (nx S) i = .ok (m : Int) (i + (digs m).length) := by
  obtain ⟨d, hd⟩ := dig_all ⟨m, by omega⟩
  rcases hd with ⟨e1, e2, e3⟩ | ⟨d2, e1, e2, e3, e4, e5⟩
  · simp only at e1 e2 e3
    rw [e1] at h ⊢
    obtain ⟨n0, h1⟩ := h.cons
    obtain ⟨n1, _⟩ := h1.cons
    unfold numP
    rw [n0, if_neg (by rw [e2]; simp)]
    by_cases q : (d.toNat : Int) = 48
    · rw [if_pos q]
      simp only [numL, n0, e2, if_true]
      simp; omega
    · rw [if_neg q]
      simp only [numL, n0, n1, e2, hc, if_true]
      simp; omega
  · simp only at e1 e2 e3 e4 e5
    rw [e1] at h ⊢
    obtain ⟨n0, h1⟩ := h.cons
    obtain ⟨n1, h2⟩ := h1.cons
    obtain ⟨n2, _⟩ := h2.cons
    unfold numP
    rw [n0, if_neg (by rw [e2]; simp), if_neg e4]
    simp only [numL, n0, n1, n2, e2, e3, hc, if_true]
    simp; omega
theorem digs_pos {m : Nat} (hm : m ≤ 20) : ∃ d t, digs m = d :: t ∧ digC (d.toNat : Int) = true := by
  obtain ⟨d, hd⟩ := dig_all ⟨m, by omega⟩
  rcases hd with ⟨e1, e2, _⟩ | ⟨d2, e1, e2, _⟩
  · exact ⟨d, [], e1, e2⟩
  · exact ⟨d, [d2], e1, e2⟩
theorem counts_read {S : ByteArray} {i : Nat} {lo hi : Int} {r : List UInt8} (hc : countsB lo hi = true) (h : Sx S i (countsT lo hi ++ r)) : atQP (nx S) i = true ∧ quantP (nx S) i = .ok (lo, hi) (i + (countsT lo hi).length) := by
  have hc' := hc
  simp only [countsB, Bool.and_eq_true, Bool.or_eq_true, decide_eq_true_eq] at hc'
  obtain ⟨l0, l20, hh⟩ := hc'
  unfold countsT at h ⊢
  simp only [List.append_assoc, List.cons_append, List.nil_append] at h
  obtain ⟨n0, h1⟩ := h.cons
  obtain ⟨d, t, hd, hdd⟩ := digs_pos (m := lo.toNat) (by omega)
  have h1' := h1
  rw [hd] at h1'
  obtain ⟨n1, _⟩ := h1'.cons
  have k1 := numP_digs (m := lo.toNat) (c := 44) (by omega) h1 (by decide)
  have h2 := h1.app
  obtain ⟨n2, h3⟩ := h2.cons
  refine ⟨by unfold atQP; rw [n0, n1, hdd]; rfl, ?_⟩
  unfold quantP
  rw [if_pos (by rw [n0]; rfl)]
  unfold bracesP
  rw [k1]
  simp only
  unfold upperP
  rw [n2, if_pos (by rfl)]
  by_cases q : hi = -1
  · rw [if_pos q] at h3 ⊢
    rw [List.nil_append] at h3
    obtain ⟨n3, _⟩ := h3.cons
    rw [n3, if_pos (by rfl)]
    simp only
    rw [n3, if_pos (by rfl), if_pos (by rw [Int.toNat_of_nonneg l0, ← q]; exact hc)]
    simp [q, l0]
    omega
  · rw [if_neg q] at h3 ⊢
    have hh' : 0 ≤ hi ∧ hi ≤ 20 := by omega
    obtain ⟨d2, t2, hd2, hdd2⟩ := digs_pos (m := hi.toNat) (by omega)
    have h3' := h3
    rw [hd2] at h3'
    obtain ⟨n3, _⟩ := h3'.cons
    have k2 := numP_digs (m := hi.toNat) (c := 125) (by omega) h3 (by decide)
    have h4 := h3.app
    obtain ⟨n4, _⟩ := h4.cons
    have hne : ¬ (d2.toNat : Int) = 125 := fun e => by rw [e] at hdd2; cases hdd2
    rw [n3, if_neg hne, k2]
    simp only
    rw [n4, if_pos (by rfl), if_pos (by rw [Int.toNat_of_nonneg l0, Int.toNat_of_nonneg hh'.1]; exact hc)]
    simp [l0, hh'.1]
    omega
end Go.Proofs.YtnloepanbjgbaaaGreatDoor
/- What is printed is read to the same: patterns. -/
namespace Go.Proofs.YtnloepanbjgbaaaGreatDoor
open Go.RowKit
/-- How a pattern's text begins. -/
def Gq (l : List UInt8) : Prop := ∃ c m, l = c :: m ∧ c ≠ 41 ∧ c ≠ 42 ∧ c ≠ 43 ∧ c ≠ 63 ∧ c ≠ 123 ∧ c ≠ 124
theorem Gq.append {l : List UInt8} (h : Gq l) (m : List UInt8) : Gq (l ++ m) := by
  obtain ⟨c, m', rfl, h⟩ := h
  exact ⟨c, m' ++ m, rfl, h⟩
theorem gq_40 (m : List UInt8) : Gq (40 :: m) := ⟨40, m, rfl, by decide, by decide, by decide, by decide, by decide, by decide⟩
theorem gq_set (s : Nat → Int) : Gq (setT s) := by
  unfold setT
  by_cases h : oneB s = true
  · obtain ⟨_, _, h3, h4⟩ := one_ok h
    obtain ⟨c, m, hc, _, _, _, _, _, g5, _, g7, g8, g9, g10, g11⟩ := byteT_first h3 h4
    rw [if_pos h]
    exact ⟨c, m, hc, g8, g9, g10, g11, g5, g7⟩
  · rw [if_neg h]
    exact ⟨91, _, rfl, by decide, by decide, by decide, by decide, by decide, by decide⟩
theorem txt_gq : ∀ {t : Tr}, Ok t → Gq (txt t) := by
  intro t
  induction t with
  | nul => intro h; rcases h.cases with q | q | q | q <;> simp [Tr.k] at q
  | node k s lo hi a n cap kid ih =>
    intro h
    have hk := fun i (hi' : i < n) => ih i (h.kid (i := i) hi')
    rcases h.cases with ⟨q, _⟩ | ⟨q, _⟩ | ⟨q | q, hn⟩ | ⟨q, hn⟩
    · rw [txt_1 q]; exact gq_40 _
    · rw [txt_2 q]; exact gq_set s
    · rw [txt_3 q]
      change 2 ≤ n at hn
      obtain ⟨m, rfl⟩ : ∃ m, n = m + 1 := ⟨n - 1, by omega⟩
      show Gq (facL (kidsL kid (m + 1)))
      have : kidsL kid (m + 1) = kid 0 :: kidsL (fun i => kid (i + 1)) m := by
        simp [kidsL, List.range_succ_eq_map, Function.comp_def]
      rw [this]
      show Gq (fac (kid 0) ++ _)
      apply Gq.append
      by_cases h4 : (kid 0).k = 4
      · rw [fac_4 h4]; exact gq_40 _
      · rw [fac_ne h4]; exact hk 0 (by omega)
    · rw [txt_4 q (by omega)]
      change 2 ≤ n at hn
      exact (hk 0 (by omega)).append _
    · rw [txt_5 q hn]
      change n = 1 at hn
      apply Gq.append
      show Gq (atom (kid 0))
      have h0 : Ok (kid 0) := h.kid (i := 0) (by show 0 < n; omega)
      rcases h0.cases with ⟨p, _⟩ | ⟨p, _⟩ | ⟨p, _⟩ | ⟨p, _⟩
      · rw [atom_le (Or.inl p)]; exact hk 0 (by omega)
      · rw [atom_le (Or.inr p)]; exact hk 0 (by omega)
      · rw [atom_ge (by rcases p with p | p; exact Or.inl p; exact Or.inr (Or.inl p))]; exact gq_40 _
      · rw [atom_ge (Or.inr (Or.inr p))]; exact gq_40 _
theorem fac_gq {t : Tr} (h : Ok t) : Gq (fac t) := by
  by_cases h4 : t.k = 4
  · rw [fac_4 h4]; exact gq_40 _
  · rw [fac_ne h4]; exact txt_gq h
theorem Gq.noQ {l : List UInt8} (h : Gq l) : NoQ l := by
  intro c m e
  obtain ⟨c', m', e', h1, h2, h3, h4, h5, h6⟩ := h
  rw [e'] at e
  injection e with e _
  subst e
  exact ⟨h2, h3, h4, h5⟩
/-- Behind a sequence. -/
def EndQ (r : List UInt8) : Prop := r = [] ∨ (∃ m, r = 41 :: m) ∨ ∃ m, r = 124 :: m
theorem EndQ.noQ {r : List UInt8} (h : EndQ r) : NoQ r := by
  intro c m e
  rcases h with h | ⟨m', h⟩ | ⟨m', h⟩
  · rw [h] at e; cases e
  · rw [h] at e; injection e with e _; subst e; decide
  · rw [h] at e; injection e with e _; subst e; decide
theorem EndQ.stop {S : ByteArray} {i : Nat} {r : List UInt8} (h : EndQ r) (hs : Sx S i r) : nx S i = 124 ∨ nx S i = 41 ∨ nx S i = -1 := by
  rcases h with h | ⟨m', h⟩ | ⟨m', h⟩
  · rw [h] at hs; exact Or.inr (Or.inr hs.nil)
  · rw [h] at hs; exact Or.inr (Or.inl hs.cons.1)
  · rw [h] at hs; exact Or.inl hs.cons.1
/-- What is known of reading in brackets. -/
def FullAt (S : ByteArray) (D : Df) (n d : Nat) : Prop := ∀ (t : Tr) (lv i c : Nat) (r : List UInt8), okT t lv = true → lv ≤ d → WfT t → Sx S i (txt t ++ r) → IsClose r →
  ∃ T, choF (grpD S D n false d) S D n false i c = .ok (T, c) (i + (txt t).length) ∧ sameT T t = true
theorem group_read {S : ByteArray} {D : Df} {n d : Nat} (hF : FullAt S D n d) {t : Tr} {lv i c : Nat} {r : List UInt8} (ht : okT t lv = true) (hl : lv ≤ d) (hw : WfT t) (h : Sx S i (40 :: (txt t ++ [41]) ++ r)) :
    ∃ T, grpD S D n false (d + 1) i c = .ok (T, c) (i + (txt t).length + 2) ∧ sameT T t = true := by
  simp only [List.cons_append, List.append_assoc, List.nil_append] at h
  obtain ⟨_, h1⟩ := h.cons
  obtain ⟨T, hT, hs⟩ := hF t lv (i + 1) c (41 :: r) ht hl hw h1 (Or.inr ⟨r, rfl⟩)
  have h2 := h1.app.cons.1
  refine ⟨T, ?_, hs⟩
  rw [grpD]
  unfold grpG
  rw [hT]
  simp only
  rw [if_pos (by rw [h2]; rfl)]
  congr 1
  omega
theorem empty_read {S : ByteArray} {D : Df} {n d i c : Nat} {r : List UInt8} (h : Sx S i (40 :: 41 :: r)) : grpD S D n false (d + 1) i c = .ok (lfT 1 z0, c) (i + 2) := by
  obtain ⟨_, h1⟩ := h.cons
  have n1 := h1.cons.1
  have hq : seqF (grpD S D n false d) S D n false (i + 1) c = .ok (lfT 1 z0, c) (i + 1) := by
    unfold seqF
    rw [seqG, if_pos (Or.inr (Or.inl (by rw [n1]; rfl)))]
    rfl
  rw [grpD]
  unfold grpG choF
  rw [choiceG, hq]
  simp only
  rw [if_neg (by rw [n1]; decide)]
  simp only
  rw [if_pos (by rw [n1]; rfl)]
  rfl
theorem same_symm : ∀ {t u : Tr}, sameT t u = true → sameT u t = true
  | .node k s lo hi a n cap kid, u, h => by
    obtain ⟨hk, hs, hl, hh, hn, hkid⟩ := same_like h
    exact same_mk hk.symm (eqS_symm hs) hl.symm hh.symm hn.symm fun i hi => same_symm (t := kid i) (hkid i (by show i < n; exact (show n = u.n from hn) ▸ hi))
  | .nul, u, h => by
    obtain ⟨hk, hs, hl, hh, hn, hkid⟩ := same_like h
    exact same_mk hk.symm (eqS_symm hs) hl.symm hh.symm hn.symm fun i hi => absurd (show i < 0 from (show (0 : Nat) = u.n from hn) ▸ hi) (by omega)
theorem ok_of {t : Tr} {lv : Nat} (h : okT t lv = true) (hw : WfT t) : Ok t := ⟨fit_of_ok h, hw⟩
theorem WfT.kid {t : Tr} (h : WfT t) {i : Nat} (hi : i < t.n) : WfT (t.kid i) := by
  cases t with
  | nul => exact absurd hi (by show ¬ i < 0; omega)
  | node => exact h.2 i hi
/-- An atom. -/
theorem atom_read {S : ByteArray} {D : Df} {n d : Nat} (hF : FullAt S D n d) {x : Tr} {lv i c : Nat} {r : List UInt8} (hx : okT x lv = true) (hl : x.k ≠ 1 → x.k ≠ 2 → lv ≤ d) (hw : WfT x) (h : Sx S i (atom x ++ r)) :
    ∃ T, atomG (grpD S D n false (d + 1)) S D n false i c = .ok (T, c) (i + (atom x).length) ∧ sameT T x = true := by
  have hO := ok_of hx hw
  obtain ⟨m1, m2, m3⟩ := hO.more
  rcases hO.cases with ⟨q, hn⟩ | ⟨q, hn⟩ | ⟨q, hn⟩ | ⟨q, hn⟩
  · rw [atom_le (Or.inl q), txt_1 q] at h ⊢
    have e := h.cons.1
    refine ⟨lfT 1 z0, ?_, same_mk q.symm (eqS_symm (m1 (by omega))) (m2 (by omega)).1.symm (m2 (by omega)).2.symm hn.symm fun i hi => absurd hi (by show ¬ i < 0; omega)⟩
    unfold atomG
    rw [if_pos (by rw [e]; rfl), empty_read h]
    rfl
  · rw [atom_le (Or.inr q), txt_2 q] at h ⊢
    have hne : eqS x.s z0 = false := by
      have hf := fitT_fits hO.1
      unfold fitsB at hf
      rw [if_pos q] at hf
      simp only [Bool.and_eq_true, Bool.not_eq_true'] at hf
      exact hf.1
    obtain ⟨F, h1, h2⟩ := atom_set (G := grpD S D n false (d + 1)) (D := D) (n := n) (c := c) hO.wf hne h
    exact ⟨lfT 2 F, h1, same_mk q.symm h2 (m2 (by omega)).1.symm (m2 (by omega)).2.symm hn.symm fun i hi => absurd hi (by show ¬ i < 0; omega)⟩
  all_goals
    have q' : x.k = 3 ∨ x.k = 4 ∨ x.k = 5 := by omega
    rw [atom_ge q'] at h ⊢
    obtain ⟨T, hT, hs⟩ := group_read hF (c := c) hx (hl (by omega) (by omega)) hw h
    have e : nx S i = 40 := h.cons.1
    refine ⟨T, ?_, hs⟩
    unfold atomG
    rw [if_pos e, hT]
    congr 1
    simp
    omega
/-- What may stand al a part of a sequence. -/
def PcH (d : Nat) (f : Tr) : Prop := WfT f ∧ f.k ≠ 3 ∧ ∃ lv, okT f lv = true ∧ lv ≤ d + 1 ∧ (f.k = 4 → lv ≤ d)
theorem piece_read {S : ByteArray} {D : Df} {n d : Nat} (hF : FullAt S D n d) {f : Tr} {i c : Nat} {r : List UInt8} (hf : PcH d f) (h : Sx S i (fac f ++ r)) (hr : NoQ r) :
    ∃ T, pieceG (atomG (grpD S D n false (d + 1)) S D n false) S i c = .ok (T, c) (i + (fac f).length) ∧ sameT T f = true := by
  obtain ⟨hw, h3, lv, hok, hlv, h4⟩ := hf
  have hO := ok_of hok hw
  have hsz := h.len
  rw [fac_split hO h3] at h ⊢
  rw [List.append_assoc] at h
  by_cases q5 : f.k = 5
  · have hn : f.n = 1 := by rcases hO.cases with p | p | p | p <;> omega
    obtain ⟨_, hlp, hkid⟩ := okT_kid hok
    have hcb : countsB f.lo f.hi = true := by
      have hf := fitT_fits hO.1
      unfold fitsB at hf
      rw [if_neg (by omega), if_neg (by omega), if_pos q5] at hf
      simp only [Bool.and_eq_true] at hf
      exact hf.1
    unfold baseT tailT at h ⊢
    rw [if_pos q5] at h ⊢
    rw [if_pos q5] at h ⊢
    obtain ⟨T, hT, hs⟩ := atom_read hF (c := c) (hkid 0 (by omega)) (fun _ _ => by omega) (hw.kid (by omega)) h
    have h1 := h.app
    obtain ⟨k1, k2⟩ := counts_read hcb h1
    have h2 := h1.app
    have k3 := atQ_no h2 hr
    have hlen := h1.len
    have hclen : 1 ≤ (countsT f.lo f.hi).length := by unfold countsT; simp
    refine ⟨repN f.lo f.hi T, ?_, same_mk q5.symm (eqS_symm (hO.more.1 (by omega))) rfl rfl hn.symm fun i hi => ?_⟩
    · unfold pieceG
      rw [hT]
      simp only
      obtain ⟨m, hm⟩ : ∃ m, S.size + 1 = m + 1 + 1 := ⟨S.size - 1, by simp at hlen; omega⟩
      rw [hm, quantsG, if_pos k1, k2]
      simp only
      rw [quantsG, if_neg (by rw [k3]; simp)]
      simp only [List.length_append]
      congr 1
      omega
    · obtain rfl : i = 0 := by have : i < 1 := hi; omega
      exact hs
  · unfold baseT tailT at h ⊢
    rw [if_neg q5] at h ⊢
    rw [if_neg q5] at h ⊢
    rw [List.nil_append] at h
    obtain ⟨T, hT, hs⟩ := atom_read hF (c := c) hok (fun p1 p2 => h4 (by rcases hO.cases with p | p | p | p <;> omega)) hw h
    have k3 := atQ_no h.app hr
    refine ⟨T, ?_, hs⟩
    unfold pieceG
    rw [hT]
    simp only
    rw [quantsG, if_neg (by rw [k3]; simp)]
    simp
theorem gq_next {fs : List Tr} {r : List UInt8} (hf : ∀ f ∈ fs, Ok f) (hr : EndQ r) : NoQ (facL fs ++ r) := by
  cases fs with
  | nil => simpa [facL] using hr.noQ
  | cons f fs =>
    have : facL (f :: fs) = fac f ++ facL fs := by simp [facL]
    rw [this, List.append_assoc]
    exact ((fac_gq (hf f (by simp))).append _).noQ
theorem seq_read {S : ByteArray} {D : Df} {n d : Nat} (hF : FullAt S D n d) : ∀ (fs : List Tr) {L : List Tr} {fu i c : Nat} {r : List UInt8}, (∀ f ∈ fs, PcH d f) → Sx S i (facL fs ++ r) → EndQ r → S.size < i + fu →
    ∃ Ts, seqG (pieceG (atomG (grpD S D n false (d + 1)) S D n false) S) (nx S) fu L i c = .ok (joinP 3 (L ++ Ts), c) (i + (facL fs).length) ∧ sameL Ts fs
  | fs, L, 0, i, c, r, _, h, _, hfu => by have := h.len; omega
  | [], L, fu + 1, i, c, r, _, h, hr, _ => by
    refine ⟨[], ?_, trivial⟩
    have h' : Sx S i r := by simpa [facL] using h
    rw [seqG, if_pos (hr.stop h')]
    simp [facL]
  | f :: fs, L, fu + 1, i, c, r, hf, h, hr, hfu => by
    have e : facL (f :: fs) = fac f ++ facL fs := by simp [facL]
    rw [e, List.append_assoc] at h
    have hP := hf f (by simp)
    obtain ⟨hw, h3, lv, hok, _⟩ := id hP
    have hO := ok_of hok hw
    have hall : ∀ g ∈ fs, Ok g := fun g hg => by
      obtain ⟨gw, _, glv, gok, _⟩ := hf g (by simp [hg])
      exact ok_of gok gw
    obtain ⟨T, hT, hs⟩ := piece_read hF (c := c) hP h (gq_next hall hr)
    obtain ⟨c0, m, hc, g1, _, _, _, _, g6⟩ := fac_gq hO
    have h' := h
    rw [hc] at h'
    have n0 := h'.cons.1
    have hpos : 1 ≤ (fac f).length := by rw [hc]; simp
    obtain ⟨Ts, hTs, hsL⟩ := seq_read hF fs (L := L ++ [T]) (c := c) (fun g hg => hf g (by simp [hg])) h.app hr (fu := fu) (by omega)
    refine ⟨T :: Ts, ?_, hs, hsL⟩
    rw [seqG, if_neg (by
      rw [n0]
      intro q
      rcases q with q | q | q
      · exact nat_ne g6 q
      · exact nat_ne g1 q
      · omega), hT]
    simp only
    rw [hTs, e]
    simp [List.append_assoc, Nat.add_assoc]
/-- A row of patterns, none of which is of the row's kind, is the row itself. -/
theorem flat_self {kind : Int} : ∀ {Ts fs : List Tr}, sameL Ts fs → (∀ f ∈ fs, f.k ≠ kind) → Ts.flatMap (partL kind) = Ts
  | [], [], _, _ => rfl
  | T :: Ts, f :: fs, h, hk => by
    have h1 : T.k ≠ kind := by rw [(same_like h.1).1]; exact hk f (by simp)
    rw [List.flatMap_cons, flat_self (Ts := Ts) (fs := fs) h.2 fun g hg => hk g (by simp [hg])]
    unfold partL
    rw [if_neg h1]
    rfl
  | [], _ :: _, h, _ => False.elim h
  | _ :: _, [], h, _ => False.elim h
theorem join_same {kind : Int} (hk : kind = 3 ∨ kind = 4) {t : Tr} (hO : Ok t) (hkt : t.k = kind) {Ts : List Tr} (h : sameL Ts (kidsL t.kid t.n)) : sameT (joinP kind Ts) t = true := by
  obtain ⟨h2, hne⟩ := fits_many_ne (fitT_fits hO.1) (by omega)
  obtain ⟨hlen, hget⟩ := sameL_get h
  rw [kidsL_len] at hlen
  have hfl := flat_self (kind := kind) h fun f hf => by
    obtain ⟨i, hi, rfl⟩ := kidsL_mem hf
    rw [← hkt]; exact hne i hi
  match Ts, hlen, h, hget, hfl with
  | [], hlen, _, _, _ => simp at hlen; omega
  | [_], hlen, _, _, _ => simp at hlen; omega
  | T1 :: T2 :: Ts, hlen, h, hget, hfl =>
    have e : joinP kind (T1 :: T2 :: Ts) = rowT kind none 0 (T1 :: T2 :: Ts) := by
      show rowT kind none 0 ((T1 :: T2 :: Ts).flatMap (partL kind)) = _
      rw [hfl]
    rw [e]
    refine same_mk hkt.symm (eqS_symm (hO.more.1 (by omega))) (hO.more.2.1 (by omega)).1.symm (hO.more.2.1 (by omega)).2.symm hlen fun i hi => ?_
    have := hget i hi
    rwa [kidsL_getD (by rw [← hlen]; exact hi)] at this
/-- One alternative. -/
theorem alt_read {S : ByteArray} {D : Df} {n d : Nat} (hF : FullAt S D n d) {a : Tr} {lv i c : Nat} {r : List UInt8} (ha : okT a lv = true) (hl : lv ≤ d + 1) (hw : WfT a) (h4 : a.k ≠ 4) (h : Sx S i (txt a ++ r)) (hr : EndQ r) :
    ∃ T, seqF (grpD S D n false (d + 1)) S D n false i c = .ok (T, c) (i + (txt a).length) ∧ sameT T a = true := by
  have hO := ok_of ha hw
  rw [facs_txt h4] at h ⊢
  have hP : ∀ f ∈ facs a, PcH d f := fun f hf => by
    unfold facs at hf
    split at hf
    · rename_i q3
      obtain ⟨j, hj, rfl⟩ := kidsL_mem hf
      obtain ⟨_, hlp, hkid⟩ := okT_kid ha
      have := (fits_many_ne (fitT_fits hO.1) (Or.inl q3)).2 j hj
      exact ⟨hw.kid hj, by omega, lv - 1, hkid j hj, by omega, fun _ => by omega⟩
    · rename_i q3
      rw [List.mem_singleton] at hf; subst hf
      exact ⟨hw, q3, lv, ha, hl, fun q => absurd q h4⟩
  obtain ⟨Ts, hTs, hsL⟩ := seq_read hF (facs a) (L := []) (c := c) hP h hr (fu := S.size + 1) (by omega)
  refine ⟨joinP 3 Ts, hTs, ?_⟩
  unfold facs at hsL
  split at hsL
  · rename_i q3
    exact join_same (Or.inl rfl) hO q3 hsL
  · match Ts, hsL with
    | [T], hsL => exact hsL.1
theorem sep_endQ {al : List Tr} {r : List UInt8} (hr : IsClose r) : EndQ (sepL al ++ r) := by
  cases al with
  | nil =>
    rcases hr with h | ⟨m, h⟩
    · exact Or.inl (by simpa [sepL] using h)
    · exact Or.inr (Or.inl ⟨m, by simpa [sepL] using h⟩)
  | cons a al => exact Or.inr (Or.inr ⟨txt a ++ (sepL al ++ r), by simp [sepL]⟩)
theorem choice_read {S : ByteArray} {D : Df} {n d : Nat} (hF : FullAt S D n d) : ∀ (al : List Tr) {a : Tr} {L : List Tr} {fu i c : Nat} {r : List UInt8}, (∀ x ∈ a :: al, WfT x ∧ x.k ≠ 4 ∧ ∃ lv, okT x lv = true ∧ lv ≤ d + 1) → Sx S i (txt a ++ (sepL al ++ r)) → IsClose r → S.size < i + fu →
    ∃ Ts, choiceG (seqF (grpD S D n false (d + 1)) S D n false) (nx S) fu L i c = .ok (joinP 4 (L ++ Ts), c) (i + (txt a).length + (sepL al).length) ∧ sameL Ts (a :: al)
  | al, a, L, 0, i, c, r, _, h, _, hfu => by have := h.len; omega
  | [], a, L, fu + 1, i, c, r, ha, h, hr, hfu => by
    obtain ⟨hw, h4, lv, hok, hl⟩ := ha a (by simp)
    obtain ⟨T, hT, hs⟩ := alt_read hF (c := c) hok hl hw h4 h (sep_endQ hr)
    have h1 := h.app
    refine ⟨[T], ?_, hs, trivial⟩
    have hne : ¬ nx S (i + (txt a).length) = 124 := by
      rcases hr with q | ⟨m, q⟩
      · rw [q] at h1; rw [show sepL [] ++ [] = ([] : List UInt8) from rfl] at h1; rw [h1.nil]; omega
      · rw [q] at h1; rw [show sepL [] ++ 41 :: m = 41 :: m from rfl] at h1; rw [h1.cons.1]; decide
    rw [choiceG, hT]
    simp only
    rw [if_neg hne]
    simp [sepL]
  | b :: bs, a, L, fu + 1, i, c, r, ha, h, hr, hfu => by
    obtain ⟨hw, h4, lv, hok, hl⟩ := ha a (by simp)
    obtain ⟨T, hT, hs⟩ := alt_read hF (c := c) hok hl hw h4 h (sep_endQ hr)
    have h1 := h.app
    have e : sepL (b :: bs) ++ r = 124 :: (txt b ++ (sepL bs ++ r)) := by simp [sepL]
    rw [e] at h1
    obtain ⟨n1, h2⟩ := h1.cons
    obtain ⟨Ts, hTs, hsL⟩ := choice_read hF bs (a := b) (L := L ++ [T]) (c := c) (fun x hx => ha x (by simp at hx ⊢; exact Or.inr hx)) h2 hr (fu := fu) (by omega)
    refine ⟨T :: Ts, ?_, hs, hsL⟩
    rw [choiceG, hT]
    simp only
    rw [if_pos (by rw [n1]; rfl), hTs]
    simp [sepL, List.append_assoc]
    omega
/-- What is printed is read to the same, at any depth. -/
theorem full_read (S : ByteArray) (D : Df) (n : Nat) : ∀ d, FullAt S D n d
  | 0 => fun t lv i c r ht hl hw h hr => by
    have := (okT_kid ht).2.1
    omega
  | d + 1 => fun t lv i c r ht hl hw h hr => by
    have hF := full_read S D n d
    have hO := ok_of ht hw
    rw [alts_txt hO, List.append_assoc] at h
    have hall : ∀ x ∈ altH t :: altT t, WfT x ∧ x.k ≠ 4 ∧ ∃ lv, okT x lv = true ∧ lv ≤ d + 1 := fun x hx => by
      have hx' : x = altH t ∨ x ∈ altT t := by simpa using hx
      obtain ⟨ox, k4, _, _⟩ := alts_ok hO x hx'
      refine ⟨ox.2, k4, ?_⟩
      obtain ⟨_, hlp, hkid⟩ := okT_kid ht
      unfold altH altT at hx'
      by_cases q : t.k = 4
      · rw [if_pos q, if_pos q] at hx'
        have hn := (fits_many_ne (fitT_fits hO.1) (Or.inr q)).1
        rcases hx' with rfl | hx'
        · exact ⟨lv - 1, hkid 0 (by omega), by omega⟩
        · obtain ⟨j, hj, rfl⟩ := kidsL_mem hx'
          exact ⟨lv - 1, hkid (j + 1) (by omega), by omega⟩
      · rw [if_neg q, if_neg q] at hx'
        rcases hx' with rfl | hx'
        · exact ⟨lv, ht, hl⟩
        · simp at hx'
    have hlen := h.len
    obtain ⟨Ts, hTs, hsL⟩ := choice_read hF (altT t) (a := altH t) (L := []) (c := c) hall h hr (fu := S.size + 1) (by omega)
    refine ⟨joinP 4 Ts, ?_, ?_⟩
    · unfold choF
      rw [hTs, alts_txt hO, List.length_append, Nat.add_assoc]
      rfl
    · by_cases q : t.k = 4
      · have hn := (fits_many_ne (fitT_fits hO.1) (Or.inr q)).1
        have e : altH t :: altT t = kidsL t.kid t.n := by
          obtain ⟨m, hm⟩ : ∃ m, t.n = m + 1 := ⟨t.n - 1, by omega⟩
          unfold altH altT
          rw [if_pos q, if_pos q, hm]
          simp [kidsL, List.range_succ_eq_map, Function.comp_def]
        rw [e] at hsL
        exact join_same (Or.inr rfl) hO q hsL
      · have e : altH t :: altT t = [t] := by unfold altH altT; rw [if_neg q, if_neg q]
        rw [e] at hsL
        match Ts, hsL with
        | [T], hsL => exact hsL.1
end Go.Proofs.YtnloepanbjgbaaaGreatDoor
/- What is printed is read to the same. -/
namespace Go.Proofs.YtnloepanbjgbaaaGreatDoor
open Go.RowKit
theorem right_ok {x : Tr} (h : rightB x = true) : okT x 20 = true := by
  unfold rightB at h
  exact (Bool.and_eq_true _ _ ▸ h).1
theorem back_read {x : Tr} (hx : rightB x = true) (hw : WfT x) (hl : (txt x).length ≤ 10000) (D : Df) (n : Nat) :
    ∃ T, readP ⟨(txt x).toArray⟩ D n false = .ok (T, 0) (txt x).length ∧ sameT T x = true := by
  have hS : Sx ⟨(txt x).toArray⟩ 0 (txt x ++ []) := ⟨by simp, Nat.zero_le _⟩
  obtain ⟨T, hT, hs⟩ := full_read ⟨(txt x).toArray⟩ D n 20 x 20 0 0 [] (right_ok hx) (Nat.le_refl _) hw hS (Or.inl rfl)
  refine ⟨T, ?_, hs⟩
  have hsz : (ByteArray.mk (txt x).toArray).size = (txt x).length := by simp [ByteArray.size]
  rw [readP, if_neg (by rw [hsz]; omega), wholeP, hT]
  have e := hS.app.nil
  rw [Nat.zero_add] at e ⊢
  simp only
  rw [if_pos e, if_pos (by rw [right_same hs]; exact hx)]
end Go.Proofs.YtnloepanbjgbaaaGreatDoor
