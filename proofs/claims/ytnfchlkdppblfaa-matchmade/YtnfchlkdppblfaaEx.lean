/- The law's own Ints (of equal rows), its char; what (ab)* matches. -/
import Derived.Test.YtnfchlkdppblfaaEw
namespace Go.Proofs.Ytnfchlkdppblfaa
open Go.RowKit Go.Maps Go
theorem natV_has {w : World} {B : Nat} {v : Value} {l : List Nat} (h : w.ownsRow B 3 1 v l.length (natV l)) : ∃ a c, v = .slice a l.length c ∧ l.length ≤ maxLen ∧ (0 < l.length → ∃ g, a = some ⟨g, 0, none⟩ ∧ g < w.heap.size ∧ ∀ i, i < l.length → w.cell? ⟨g, i, none⟩ = some (.int .i64 (l.getD i 0 : Nat))) := by
  rcases h.2 with ⟨rfl, h0⟩ | ⟨g, cap, cur, rfl, hb, hg, h3, h4, _⟩
  · exact ⟨none, 0, by rw [h0], by omega, fun q => by omega⟩
  · exact ⟨_, cap, rfl, by omega, fun _ => ⟨g, rfl, lt_of_some hg, fun i hi => natV_cell h hi⟩⟩
set_option maxRecDepth 100000 in
set_option maxHeartbeats 1000000 in
theorem ints_same (l : List Nat) (v1 v2 : Value) (B1 B2 : Nat) (w : World) (h1 : w.ownsRow B1 3 1 v1 l.length (natV l)) (h2 : w.ownsRow B2 3 1 v2 l.length (natV l)) : Calls Try.prog 9 #[v1, v2] w fun e w' => e = .returned (.bool true) ∧ Below w.heap.size w w' := by
  obtain ⟨a1, c1, rfl, hm, hc1⟩ := natV_has h1
  obtain ⟨a2, c2, rfl, _, hc2⟩ := natV_has h2
  have H1 := Lib.hid hc1
  have H2 := Lib.hid hc2
  obtain ⟨n, hn⟩ : ∃ n, n = l.length := ⟨_, rfl⟩
  rw [← hn] at H1 H2 hm ⊢
  have hnm : n ≤ 9223372036854775807 := by unfold maxLen at hm; omega
  clear h1 h2 hc1 hc2 hn hm
  go_enter Try.func9, Try.ntmps9
  go_wp2
  go_loopw [5] (fun i wr => ∃ q : Nat, q ≤ n ∧ i = .int .i64 q ∧ ∃ k, wr = w.drewN k) (fun i _ => n - (RowKit.intOf i).toNat)
  case atStart => exact ⟨0, Nat.zero_le _, rfl, 0, rfl⟩
  case round =>
    obtain ⟨q, hq, rfl, kk, rfl⟩ := hrel
    by_cases hlt : q < n
    · have hlt' : (q : Int) < (n : Int) := by omega
      obtain ⟨g1, hg1, hl1, hcc1⟩ := H1.out (by omega)
      obtain ⟨g2, hg2, hl2, hcc2⟩ := H2.out (by omega)
      have d1 := hcc1 q hlt
      have d2 := hcc2 q hlt
      clear hcc1 hcc2
      subst hg1 hg2
      go_wp2
      go_quiet (fail)
      go_wp2
      go_roundw
      case rel => exact ⟨q + 1, by omega, by go_num, _, rfl⟩
      case measure => simp [RowKit.intOf]; omega
    · have hlt' : ¬ (q : Int) < (n : Int) := by omega
      go_wp2
      go_ret
      exact ⟨rfl, below_drewN (Below.refl _ _) _⟩
set_option maxRecDepth 100000 in
set_option maxHeartbeats 2000000 in
theorem char5_any (b : Int) (w : World) : Calls Try.prog 8 #[.int .i64 b] w fun e w' => e = .returned (nodeV 2 (sE b b) 0 0 (.slice none 0 0)) ∧ Below w.heap.size w w' := by
  obtain ⟨f, hf⟩ : ∃ f, f = sE b b := ⟨_, rfl⟩
  rw [← hf]
  have HOF := Lib.hid (fun w => (refof_any b b w).mono (fun e w' h => (show e = .returned (SV f) ∧ Below w.heap.size w w' from ⟨by rw [h.1, hf], h.2⟩)))
  clear hf
  go_enter Try.func8, Try.ntmps8
  go_wp2_with fail
  refine (HOF.out _).mono ?_
  rintro e w1 ⟨rfl, hb1⟩
  have hr : w1.heap[w.heap.size]? = some (.cells (row8 0 z0 0 0 (.slice none 0 0)) 30 (0, 0)) := box_kept hb1
  have hB := box_below hb1
  obtain ⟨d0, d1, d2, d3, d4, d5, d6, d7⟩ := cell8 hr
  have f0 := frozen_of_row _ _ 0 _ _ hr
  have f1 := frozen_of_row _ _ 1 _ _ hr
  have f2 := frozen_of_row _ _ 2 _ _ hr
  have f3 := frozen_of_row _ _ 3 _ _ hr
  have f4 := frozen_of_row _ _ 4 _ _ hr
  have f5 := frozen_of_row _ _ 5 _ _ hr
  have f6 := frozen_of_row _ _ 6 _ _ hr
  have f7 := frozen_of_row _ _ 7 _ _ hr
  have HR := Lib.hid (stored8 2 f 0 0 (.slice none 0 0) hr)
  clear hr hb1
  go_wp2
  refine bodyPost_ret (v := nodeV 2 f 0 0 (.slice none 0 0)) (ret8 Try.results8 rfl HR.out) rfl ⟨rfl, ?_⟩
  exact (((((((hB.setCell (by simp) _).setCell (by simp) _).setCell (by simp) _).setCell (by simp) _).setCell (by simp) _).setCell (by simp) _).setCell (by simp) _).setCell (by simp) _
/-- (ab)*, in memory. -/
def abC (g : Nat) : Tr := .node 3 z0 0 0 (some ⟨g, 0, none⟩) 2 2 fun i => if i = 0 then leafT (sE 97 97) else leafT (sE 98 98)
def abT (g g' : Nat) : Tr := .node 5 z0 0 (-1) (some ⟨g', 0, none⟩) 1 1 fun _ => abC g
theorem has_E {x b : Int} (hx : 0 ≤ x) (h0 : -1 ≤ b) (h1 : b < 256) : hasI (sE x x) b = decide (b = x) := by
  rw [agreeE hx b h0 h1]
  unfold ofK
  by_cases e : b = x
  · subst e; simp
  · rw [decide_eq_false e]
    by_cases h : x ≤ b
    · rw [decide_eq_true h, decide_eq_false (by omega)]; rfl
    · rw [decide_eq_false h]; rfl
theorem nx_bd (S : ByteArray) (i : Nat) : -1 ≤ nx S i ∧ nx S i < 256 := by
  unfold nx
  split
  · have := S[i].toNat_lt; omega
  · omega
/-- One ab. -/
def abR (S : ByteArray) (i j : Nat) : Prop := i + 1 < S.size ∧ nx S i = 97 ∧ nx S (i + 1) = 98 ∧ j = i + 2
theorem ab_step (S : ByteArray) (g : Nat) : mt (nx S) S.size (abC g) = abR S := by
  have h0 : mt (nx S) S.size (leafT (sE 97 97)) = bytR (nx S) S.size (sE 97 97) := ext2 fun i j => by simp [leafT, mt]
  have h1 : mt (nx S) S.size (leafT (sE 98 98)) = bytR (nx S) S.size (sE 98 98) := ext2 fun i j => by simp [leafT, mt]
  rw [chain_mt rfl]
  refine ext2 fun i j => ?_
  show (∃ x, (∃ y, i = y ∧ mt (nx S) S.size (leafT (sE 97 97)) y x) ∧ mt (nx S) S.size (leafT (sE 98 98)) x j) ↔ _
  rw [h0, h1]
  have hb := nx_bd S
  constructor
  · rintro ⟨x, ⟨y, rfl, h1, h2, rfl⟩, h3, h4, rfl⟩
    rw [has_E (by omega) (hb _).1 (hb _).2, decide_eq_true_eq] at h2 h4
    exact ⟨h3, h2, h4, rfl⟩
  · rintro ⟨h1, h2, h3, rfl⟩
    exact ⟨i + 1, ⟨i, rfl, by omega, by rw [has_E (by omega) (hb _).1 (hb _).2, h2]; rfl, rfl⟩, h1, by rw [has_E (by omega) (hb _).1 (hb _).2, h3]; rfl, rfl⟩
theorem ab_star (S : ByteArray) (g g' : Nat) (i j : Nat) : mt (nx S) S.size (abT g g') i j ↔ ∃ q, pw (abR S) q i j := by
  rw [rep_mt rfl]
  show tms (mt (nx S) S.size (abC g)) 0 (-1) i j ↔ _
  rw [ab_step]
  exact ⟨fun ⟨q, _, _, h⟩ => ⟨q, h⟩, fun ⟨q, h⟩ => ⟨q, by omega, Or.inl rfl, h⟩⟩
theorem lst_eq {L : Nat} {R : Nat → Prop} (f : Nat → Bool) (h : ∀ i, i ≤ L → (R i ↔ f i = true)) : lst L R = (List.range (L + 1)).filter f := by
  classical
  unfold lst
  refine List.filter_congr fun i hi => ?_
  have := h i (by have := List.mem_range.1 hi; omega)
  by_cases q : R i
  · rw [decide_eq_true q, this.1 q]
  · rw [decide_eq_false q]
    cases e : f i
    · rfl
    · exact absurd (this.2 e) q
/-- What is come to by ab's: a set that holds where one begins, and is closed. -/
theorem star_le {r : Nat → Nat → Prop} {p : Nat} (f : Nat → Bool) (h0 : f p = true) (h1 : ∀ i j, f i = true → r i j → f j = true) : ∀ q j, pw r q p j → f j = true
  | 0, j, e => by cases e; exact h0
  | q + 1, j, ⟨x, hx, hr⟩ => h1 x j (star_le f h0 h1 q x hx) hr
end Go.Proofs.Ytnfchlkdppblfaa
