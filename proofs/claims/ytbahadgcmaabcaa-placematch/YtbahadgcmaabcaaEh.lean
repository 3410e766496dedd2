/- What the document's answers for layer 5 are told with: the rows of Ends, whether a pattern matches a text. Carried over from stage 5. -/
import Derived.Test.YtbahadgcmaabcaaKp
import Derived.Test.YtbahadgcmaabcaaM
namespace Go.Proofs.Ytbahadgcmaabcaa
open Go.RowKit Go
theorem counts_hi {t : Tr} (h : fitsB t = true) (hk : t.k = 5) : t.hi = -1 ∨ (t.lo ≤ t.hi ∧ 1 ≤ t.hi) := by
  unfold fitsB at h
  rw [if_neg (by omega), if_neg (by omega), if_pos hk] at h
  simp only [Bool.and_eq_true, decide_eq_true_eq, countsB, Bool.or_eq_true] at h
  omega
theorem chain_ids {r : Nat → Nat → Nat → Prop} : ∀ {n : Nat}, (∀ q, q < n → r q = fun i j => i = j) → chain r n = fun i j => i = j
  | 0, _ => rfl
  | n + 1, h => ext2 fun i j => by
    rw [chain, chain_ids (n := n) fun q hq => h q (by omega), h n (by omega)]
    exact ⟨fun ⟨x, e, e'⟩ => e.trans e', fun e => ⟨i, rfl, e⟩⟩
theorem pw_id : ∀ q i j, pw (fun i j => i = j) q i j ↔ i = j
  | 0, _, _ => Iff.rfl
  | q + 1, i, _j => ⟨fun ⟨x, h, e⟩ => ((pw_id q i x).1 h).trans e, fun e => ⟨i, (pw_id q i i).2 rfl, e⟩⟩
theorem tms_id {lo hi : Int} (h0 : 0 ≤ lo) (hh : hi = -1 ∨ (lo ≤ hi ∧ 1 ≤ hi)) : tms (fun i j => i = j) lo hi = fun i j => i = j := ext2 fun i j => by
  constructor
  · rintro ⟨q, _, _, h⟩; exact (pw_id q i j).1 h
  · intro e; exact ⟨lo.toNat, by omega, by omega, (pw_id _ i j).2 e⟩
theorem mt_zero (c : Nat → Int) (L : Nat) : ∀ {t : Tr}, fitT t = true → sz t = 0 → mt c L t = fun i j => i = j
  | .node k s lo hi a n cap kid, hf, hz => by
    have hfit := fitT_fits hf
    have hk := fun i (hi : i < n) => mt_zero c L (t := kid i) (fitT_kid hf hi)
    have hs := sz_eq (.node k s lo hi a n cap kid)
    rw [hz] at hs
    have hc := fits_cases hfit
    have hh := counts_hi hfit
    have h3 : k = 3 ∨ k = 4 → sumTo (fun i => sz (kid i)) n = 0 := fun q => by
      have e1 : timT (.node k s lo hi a n cap kid) = 1 := if_pos q
      rw [e1, Nat.one_mul] at hs
      have : sumTo (fun i => sz (kid i)) n = sumTo (fun i => sz ((Tr.node k s lo hi a n cap kid).kid i)) (Tr.node k s lo hi a n cap kid).n := rfl
      omega
    have h5 : k = 5 → timT (.node k s lo hi a n cap kid) = repM lo hi := fun q => (if_neg (show ¬ (k = 3 ∨ k = 4) by omega)).trans (if_pos q)
    have h2' : k = 2 → ownT (.node k s lo hi a n cap kid) = 1 := fun q => if_pos q
    simp only [Tr.k, Tr.n, Tr.lo, Tr.hi, Tr.kid] at hs hc hh
    rcases hc with ⟨rfl, rfl⟩ | ⟨rfl, rfl⟩ | ⟨h34, h2⟩ | ⟨rfl, rfl, h0, _, _, _⟩
    · exact ext2 fun i j => by simp [mt]
    · rw [h2' rfl] at hs; omega
    · have hz' := fun i (hi : i < n) => hk i hi (sumTo_zero (f := fun i => sz (kid i)) (h3 h34) i hi)
      rcases h34 with rfl | rfl
      · have := chain_ids (r := fun q => mt c L (kid q)) hz'
        exact ext2 fun i j => by simp [mt, this]
      · exact ext2 fun i j => by
          simp only [mt]
          rw [if_neg (by omega), if_neg (by omega), if_neg (by omega), if_pos trivial]
          constructor
          · rintro ⟨q, hq, h⟩; rw [hz' q hq] at h; exact h
          · intro e; exact ⟨0, by omega, by rw [hz' 0 (by omega)]; exact e⟩
    · have hz' := hk 0 (by omega) (by
        simp only [sumTo] at hs
        have : 0 < repM lo hi := by unfold repM; omega
        rw [h5 rfl, Nat.zero_add] at hs
        rcases Nat.eq_zero_or_pos (sz (kid 0)) with q | q
        · exact q
        · have := Nat.mul_pos this q; omega)
      have := tms_id h0 (hh rfl)
      exact ext2 fun i j => by simp [mt, hz', this]
  | .nul, hf, _ => by cases hf
/-- The places of a set, in order. -/
noncomputable def lst (L : Nat) (S : Nat → Prop) : List Nat := by
  classical
  exact (List.range (L + 1)).filter fun i => decide (S i)
/-- The byte at a place; -1: there is none. -/
def nx (S : ByteArray) (i : Nat) : Int := if h : i < S.size then (S[i].toNat : Int) else -1
theorem nx_in {S : ByteArray} {i : Nat} (h : i < S.size) : nx S i = (S[i].toNat : Int) := by unfold nx; rw [dif_pos h]
/-- What Ends answers. -/
noncomputable def endsL (S : ByteArray) (t : Tr) (at' : Int) : List Nat :=
  if rightB t = true ∧ S.size ≤ 10000 ∧ 0 ≤ at' ∧ at' ≤ (S.size : Int) then lst S.size (mt (nx S) S.size t at'.toNat) else []
theorem endsL_no {S : ByteArray} {t : Tr} {at' : Int} (h : ¬ (rightB t = true ∧ S.size ≤ 10000 ∧ 0 ≤ at' ∧ at' ≤ (S.size : Int))) : endsL S t at' = [] := by unfold endsL; rw [if_neg h]
abbrev natV (l : List Nat) : List Value := l.map fun i : Nat => Value.int .i64 (i : Int)
theorem own_base {w : World} {b b' e size n : Nat} {v : Value} {xs : List Value} (h : w.ownsRow b' e size v n xs) (hb : b ≤ b') : w.ownsRow b e size v n xs := by
  refine ⟨h.1, h.2.imp id ?_⟩
  rintro ⟨g, cap, cur, h1, h2, h3⟩
  exact ⟨g, cap, cur, h1, by omega, h3⟩
def EndsP (S : ByteArray) (t : Tr) (at' : Int) (w : World) (e : Ending) (w' : World) : Prop :=
  ∃ v, e = .returned v ∧ w'.ownsRow w.heap.size 3 1 v (endsL S t at').length (natV (endsL S t at')) ∧ Below w.heap.size w w'
theorem ends_none {S : ByteArray} {t : Tr} {at' : Int} {w w' : World} (h : ¬ (rightB t = true ∧ S.size ≤ 10000 ∧ 0 ≤ at' ∧ at' ≤ (S.size : Int))) (hb : Below w.heap.size w w') : EndsP S t at' w (.returned (.slice none 0 0)) w' := by
  refine ⟨_, rfl, ?_, hb⟩
  rw [endsL_no h]
  exact World.ownsRow_nil _ _ _ _
/-- What Match answers. -/
def matB (S : ByteArray) (t : Tr) : Prop := rightB t = true ∧ S.size ≤ 10000 ∧ mt (nx S) S.size t 0 S.size
theorem lst_last {L : Nat} {R : Nat → Prop} : (0 < (lst L R).length ∧ (lst L R).getD ((lst L R).length - 1) 0 = L) ↔ R L := by
  classical
  constructor
  · rintro ⟨h, e⟩
    have hm : L ∈ lst L R := by
      have := List.getElem_mem (l := lst L R) (n := (lst L R).length - 1) (by omega)
      rw [List.getD_eq_getElem?_getD, List.getElem?_eq_getElem (by omega)] at e
      simp only [Option.getD_some] at e
      rw [e] at this
      exact this
    unfold lst at hm
    simp only [List.mem_filter, decide_eq_true_eq] at hm
    exact hm.2
  · intro h
    have e : lst L R = ((List.range L).filter fun i => decide (R i)) ++ [L] := by
      unfold lst
      rw [List.range_succ, List.filter_append]
      simp [h]
    have hl : 0 < (lst L R).length := by rw [e]; simp
    refine ⟨hl, ?_⟩
    rw [e]
    simp
theorem ends_zero (S : ByteArray) (t : Tr) : (0 < (endsL S t 0).length ∧ (endsL S t 0).getD ((endsL S t 0).length - 1) 0 = S.size) ↔ matB S t := by
  by_cases h : rightB t = true ∧ S.size ≤ 10000 ∧ (0 : Int) ≤ 0 ∧ (0 : Int) ≤ (S.size : Int)
  · have e : endsL S t 0 = lst S.size (mt (nx S) S.size t 0) := by unfold endsL; rw [if_pos h]; rfl
    rw [e, lst_last]
    exact ⟨fun q => ⟨h.1, h.2.1, q⟩, fun q => q.2.2⟩
  · rw [endsL_no h]
    constructor
    · rintro ⟨q, _⟩; simp at q
    · intro q; exact absurd ⟨q.1, q.2.1, by omega, by omega⟩ h
theorem natV_cell {w : World} {B g n c : Nat} {l : List Nat} (h : w.ownsRow B 3 1 (.slice (some ⟨g, 0, none⟩) n c) l.length (natV l)) {i : Nat} (hi : i < l.length) : w.cell? ⟨g, i, none⟩ = some (.int .i64 (l.getD i 0 : Nat)) := by
  have := h.cells (g := g) rfl i (.int .i64 (l.getD i 0 : Nat)) (by simp [natV, hi])
  rw [Addr.add_lit] at this
  simpa using this
end Go.Proofs.Ytbahadgcmaabcaa
