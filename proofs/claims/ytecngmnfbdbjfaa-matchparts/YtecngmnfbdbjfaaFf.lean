/- What MatchParts leans on: a Cat of two patterns matches what can be parted so, an Alt what one of both matches; both are right. -/
import Derived.Test.YtecngmnfbdbjfaaFd
namespace Go.Proofs.Ytecngmnfbdbjfaa
open Go.RowKit Go.Maps Go
/-- One behind the other, of a list. -/
def chL (c : Nat → Int) (L : Nat) : List Tr → Nat → Nat → Prop
  | [] => fun i j => i = j
  | t :: l => fun i j => ∃ x, mt c L t i x ∧ chL c L l x j
theorem chL_append (c : Nat → Int) (L : Nat) : ∀ (l m : List Tr) (i j : Nat), chL c L (l ++ m) i j ↔ ∃ x, chL c L l i x ∧ chL c L m x j
  | [], m, i, j => ⟨fun h => ⟨i, rfl, h⟩, fun ⟨_, e, h⟩ => by cases e; exact h⟩
  | t :: l, m, i, j => by
    constructor
    · rintro ⟨x, h1, h2⟩
      obtain ⟨y, h3, h4⟩ := (chL_append c L l m x j).1 h2
      exact ⟨y, ⟨x, h1, h3⟩, h4⟩
    · rintro ⟨y, ⟨x, h1, h3⟩, h4⟩
      exact ⟨x, h1, (chL_append c L l m x j).2 ⟨y, h3, h4⟩⟩
theorem chL_one (c : Nat → Int) (L : Nat) (t : Tr) (i j : Nat) : chL c L [t] i j ↔ mt c L t i j := ⟨fun ⟨_, h, e⟩ => by cases e; exact h, fun h => ⟨j, h, rfl⟩⟩
theorem chL_kids (c : Nat → Int) (L : Nat) (kid : Nat → Tr) : ∀ (n i j : Nat), chL c L (kidsL kid n) i j ↔ chain (fun q => mt c L (kid q)) n i j
  | 0, i, j => Iff.rfl
  | n + 1, i, j => by
    rw [kidsL_succ, chL_append]
    exact exists_congr fun x => and_congr (chL_kids c L kid n i x) (chL_one c L (kid n) x j)
theorem chL_part (S : ByteArray) (t : Tr) (i j : Nat) : chL (nx S) S.size (partL 3 t) i j ↔ mt (nx S) S.size t i j := by
  unfold partL
  split
  · rename_i h; rw [chL_kids, chain_mt h]
  · exact chL_one _ _ t i j
/-- One of a list. -/
def anL (c : Nat → Int) (L : Nat) (l : List Tr) (i j : Nat) : Prop := ∃ t, t ∈ l ∧ mt c L t i j
theorem anL_kids (c : Nat → Int) (L : Nat) (kid : Nat → Tr) (n i j : Nat) : anL c L (kidsL kid n) i j ↔ ∃ q, q < n ∧ mt c L (kid q) i j := by
  unfold anL kidsL
  constructor
  · rintro ⟨t, ht, h⟩
    obtain ⟨q, hq, rfl⟩ := List.mem_map.1 ht
    exact ⟨q, List.mem_range.1 hq, h⟩
  · rintro ⟨q, hq, h⟩
    exact ⟨kid q, List.mem_map.2 ⟨q, List.mem_range.2 hq, rfl⟩, h⟩
theorem anL_part (S : ByteArray) (t : Tr) (i j : Nat) : anL (nx S) S.size (partL 4 t) i j ↔ mt (nx S) S.size t i j := by
  unfold partL
  split
  · rename_i h; rw [anL_kids, alt_mt h]
  · exact ⟨fun ⟨u, hu, h⟩ => by rw [List.mem_singleton.1 hu] at h; exact h, fun h => ⟨t, List.mem_singleton.2 rfl, h⟩⟩
theorem rowT_cat (S : ByteArray) (a : Option Addr) (cap : Nat) (l : List Tr) : mt (nx S) S.size (rowT 3 a cap l) = chL (nx S) S.size l := by
  rw [chain_mt (show (rowT 3 a cap l).k = 3 from rfl)]
  refine ext2 fun i j => ?_
  have := chL_kids (nx S) S.size (fun i => l.getD i .nul) l.length i j
  rw [kidsL_get] at this
  exact this.symm
theorem rowT_alt (S : ByteArray) (a : Option Addr) (cap : Nat) (l : List Tr) : mt (nx S) S.size (rowT 4 a cap l) = anL (nx S) S.size l := by
  rw [alt_mt (show (rowT 4 a cap l).k = 4 from rfl)]
  refine ext2 fun i j => ?_
  have := anL_kids (nx S) S.size (fun i => l.getD i .nul) l.length i j
  rw [kidsL_get] at this
  exact this.symm
theorem cat_mt (S : ByteArray) (a : Option Addr) (cap : Nat) (x y : Tr) (i j : Nat) : mt (nx S) S.size (rowT 3 a cap (partL 3 x ++ partL 3 y)) i j ↔ ∃ m, mt (nx S) S.size x i m ∧ mt (nx S) S.size y m j := by
  rw [rowT_cat, chL_append]
  exact exists_congr fun m => and_congr (chL_part S x i m) (chL_part S y m j)
theorem alt2_mt (S : ByteArray) (a : Option Addr) (cap : Nat) (x y : Tr) (i j : Nat) : mt (nx S) S.size (rowT 4 a cap (partL 4 x ++ partL 4 y)) i j ↔ (mt (nx S) S.size x i j ∨ mt (nx S) S.size y i j) := by
  rw [rowT_alt, ← anL_part S x, ← anL_part S y]
  unfold anL
  constructor
  · rintro ⟨t, ht, h⟩
    rcases List.mem_append.1 ht with q | q
    · exact Or.inl ⟨t, q, h⟩
    · exact Or.inr ⟨t, q, h⟩
  · rintro (⟨t, q, h⟩ | ⟨t, q, h⟩)
    · exact ⟨t, List.mem_append.2 (Or.inl q), h⟩
    · exact ⟨t, List.mem_append.2 (Or.inr q), h⟩
/-- What can be parted at a place up to k. -/
def prt (S : ByteArray) (x y : Tr) (k : Nat) : Prop := ∃ i, i < k ∧ mt (nx S) S.size x 0 i ∧ mt (nx S) S.size y i S.size
theorem prt_all {S : ByteArray} {x y : Tr} {a : Option Addr} {cap : Nat} (hx : ∀ i j, mt (nx S) S.size y i j → i ≤ j) : prt S x y (S.size + 1) ↔ mt (nx S) S.size (rowT 3 a cap (partL 3 x ++ partL 3 y)) 0 S.size := by
  rw [cat_mt]
  constructor
  · rintro ⟨i, _, h1, h2⟩; exact ⟨i, h1, h2⟩
  · rintro ⟨i, h1, h2⟩; exact ⟨i, by have := hx i _ h2; omega, h1, h2⟩
theorem prt_succ {S : ByteArray} {x y : Tr} {i : Nat} : prt S x y (i + 1) ↔ (prt S x y i ∨ (mt (nx S) S.size x 0 i ∧ mt (nx S) S.size y i S.size)) := by
  constructor
  · rintro ⟨q, hq, h⟩
    by_cases e : q = i
    · exact Or.inr (e ▸ h)
    · exact Or.inl ⟨q, by omega, h⟩
  · rintro (⟨q, hq, h⟩ | h)
    · exact ⟨q, by omega, h⟩
    · exact ⟨i, by omega, h⟩
theorem prt_zero (S : ByteArray) (x y : Tr) : ¬ prt S x y 0 := fun ⟨_, h, _⟩ => by omega
theorem mat_head (S : ByteArray) (t : Tr) {i : Nat} (hi : i ≤ S.size) (hS : S.size ≤ 10000) (hr : rightB t = true) : matB (S.extract 0 i) t ↔ mt (nx S) S.size t 0 i := mat_sub S t (Nat.zero_le _) hi hS hr
theorem mat_tail (S : ByteArray) (t : Tr) {i : Nat} (hi : i ≤ S.size) (hS : S.size ≤ 10000) (hr : rightB t = true) : matB (S.extract i S.size) t ↔ mt (nx S) S.size t i S.size := mat_sub S t hi (Nat.le_refl _) hS hr
theorem mat_cat {S : ByteArray} {x y : Tr} {a : Option Addr} {cap : Nat} (hS : S.size ≤ 10000) (hr : rightB (rowT 3 a cap (partL 3 x ++ partL 3 y)) = true) : matB S (rowT 3 a cap (partL 3 x ++ partL 3 y)) ↔ prt S x y (S.size + 1) := by
  rw [prt_all (a := a) (cap := cap) (mt_up _ _ y)]
  exact ⟨fun h => h.2.2, fun h => ⟨hr, hS, h⟩⟩
theorem mat_alt {S : ByteArray} {x y : Tr} {a : Option Addr} {cap : Nat} (hS : S.size ≤ 10000) (hx : rightB x = true) (hy : rightB y = true) (hr : rightB (rowT 4 a cap (partL 4 x ++ partL 4 y)) = true) : matB S (rowT 4 a cap (partL 4 x ++ partL 4 y)) ↔ (matB S x ∨ matB S y) := by
  unfold matB
  rw [alt2_mt]
  constructor
  · rintro ⟨_, _, h | h⟩
    · exact Or.inl ⟨hx, hS, h⟩
    · exact Or.inr ⟨hy, hS, h⟩
  · rintro (h | h)
    · exact ⟨hr, hS, Or.inl h.2.2⟩
    · exact ⟨hr, hS, Or.inr h.2.2⟩
/-- The sizes of a list. -/
def szL (L : List Tr) : Nat := (L.map sz).sum
theorem szL_append (L M : List Tr) : szL (L ++ M) = szL L + szL M := by simp [szL]
theorem szL_kids (kid : Nat → Tr) : ∀ n, szL (kidsL kid n) = sumTo (fun i => sz (kid i)) n
  | 0 => rfl
  | n + 1 => by rw [kidsL_succ, szL_append, szL_kids kid n]; simp [szL, sumTo]
theorem rowT_sz {kind : Int} (hk : kind = 3 ∨ kind = 4) (a : Option Addr) (cap : Nat) (l : List Tr) : sz (rowT kind a cap l) = szL l := by
  rw [sz_eq]
  have e1 : ownT (rowT kind a cap l) = 0 := if_neg (show ¬ kind = 2 by omega)
  have e2 : timT (rowT kind a cap l) = 1 := if_pos hk
  have e3 : sumTo (fun i => sz ((rowT kind a cap l).kid i)) (rowT kind a cap l).n = szL l := by
    have := szL_kids (fun i => l.getD i .nul) l.length
    rw [kidsL_get] at this
    exact this.symm
  rw [e1, e2, e3]; omega
theorem part_sz {kind : Int} (hk : kind = 3 ∨ kind = 4) (t : Tr) : szL (partL kind t) = sz t := by
  unfold partL
  split
  · rename_i h
    rw [szL_kids, sz_eq t]
    have e1 : ownT t = 0 := if_neg (by omega)
    have e2 : timT t = 1 := if_pos (by omega)
    rw [e1, e2]; omega
  · simp [szL]
theorem both_right {kind : Int} (hk : kind = 3 ∨ kind = 4) {x y : Tr} (hx : okT x 10 = true) (hy : okT y 10 = true) (sx : sz x ≤ 40) (sy : sz y ≤ 40) (cx : cnt x ≤ 100) (cy : cnt y ≤ 100) (a : Option Addr) (cap : Nat) : rightB (rowT kind a cap (partL kind x ++ partL kind y)) = true := by
  obtain ⟨p1, p2, p3⟩ := part_ok hk hx
  obtain ⟨q1, q2, q3⟩ := part_ok hk hy
  have hok : okT (rowT kind a cap (partL kind x ++ partL kind y)) 11 = true := rowT_ok hk (by rw [List.length_append]; omega) fun u hu => by
    rcases List.mem_append.1 hu with q | q
    · exact p3 u q
    · exact q3 u q
  have hcn : cnt (rowT kind a cap (partL kind x ++ partL kind y)) ≤ 201 := by rw [rowT_cnt, cntL_append]; omega
  have hsz : sz (rowT kind a cap (partL kind x ++ partL kind y)) ≤ 80 := by rw [rowT_sz hk, szL_append, part_sz hk, part_sz hk]; omega
  simp only [rightB, okT_mono hok (show 11 ≤ 20 by omega), Bool.true_and, Bool.and_eq_true, decide_eq_true_eq]
  omega
end Go.Proofs.Ytecngmnfbdbjfaa
