/- Contract of the landed code's Match. -/
import Derived.Test.YtecngmnfbdbjfaaEv
namespace Go.Proofs.Ytecngmnfbdbjfaa
open Go.RowKit Go.Maps Go
theorem ends_zero (S : ByteArray) (t : Tr) : (0 < (endsL S t 0).length ∧ (endsL S t 0).getD ((endsL S t 0).length - 1) 0 = S.size) ↔ matB S t := by
  by_cases h : rightB t = true ∧ S.size ≤ 10000 ∧ (0 : Int) ≤ 0 ∧ (0 : Int) ≤ (S.size : Int)
  · have e : endsL S t 0 = lst S.size (mt (nx S) S.size t 0) := by unfold endsL; rw [if_pos h]; rfl
    rw [e, lst_last]
    exact ⟨fun q => ⟨h.1, h.2.1, q⟩, fun q => q.2.2⟩
  · rw [endsL_no h]
    constructor
    · rintro ⟨q, _⟩; simp at q
    · intro q; exact absurd ⟨q.1, q.2.1, by omega, by omega⟩ h
theorem natV_cell {w : World} {B g n c : Nat} {l : List Nat} (h : w.ownsRow B 3 1 (.slice (some ⟨g, 0, none⟩) n c) l.length (natV l)) {i : Nat} (hi : i < l.length) : w.cell? ⟨g, i, none⟩ = some (.int .i64 (l.getD i 0 : Nat)) := by
  have := h.cells (g := g) rfl i (.int .i64 (l.getD i 0 : Nat)) (by simp [natV, hi])
  rw [Addr.add_lit] at this
  simpa using this
set_option maxRecDepth 100000 in
set_option maxHeartbeats 1000000 in
theorem match_any (S : ByteArray) (t : Tr) (w : World) (hL : Lives w w.heap.size t) : Calls Try.prog 11 #[t.val, .string S] w fun e w' => ∃ b : Bool, e = .returned (.bool b) ∧ (b = true ↔ matB S t) ∧ Below w.heap.size w w' := by
  have HE : Hid (∀ o, Calls Try.prog 13 #[t.val, .string S, .int .i64 0] (w.alloc o) (EndsP S t 0 (w.alloc o))) := Lib.hid fun o => ends_any S t 0 (w.alloc o) (hL.now (alloc_below _ _))
  have HM := Lib.hid (ends_zero S t)
  rw [show t.val = nodeV t.k t.s t.lo t.hi (.slice t.a t.n t.cap) from rfl] at HE ⊢
  clear hL
  go_enter Try.func11, Try.ntmps11
  go_wp2_with fail
  refine (HE.out _).mono ?_
  rintro e w1 ⟨v, rfl, hrow, hb⟩
  have HB := Lib.hid (box_below hb)
  clear hb
  obtain ⟨l, hl⟩ : ∃ l, l = endsL S t 0 := ⟨_, rfl⟩
  rw [← hl] at hrow HM
  clear hl
  rcases hrow.2 with ⟨rfl, h0⟩ | ⟨g, cap, cur, rfl, hbg, hgg, hnc, hcm, _⟩
  · have hlz : ¬ 0 < l.length := by omega
    have HF : Hid (matB S t → False) := Lib.hid fun h => by obtain ⟨q, _⟩ := HM.out.2 h; exact hlz q
    clear hrow h0 hlz HM
    go_wp2
    go_ret
    exact ⟨false, rfl, ⟨fun h => by (cases h), fun h => (HF.out h).elim⟩, HB.out⟩
  · rcases Nat.eq_zero_or_pos l.length with h0 | h0
    · have HF : Hid (matB S t → False) := Lib.hid fun h => by obtain ⟨q, _⟩ := HM.out.2 h; omega
      rw [h0]
      clear hrow HM hnc hbg hgg
      go_wp2
      go_ret
      exact ⟨false, rfl, ⟨fun h => by (cases h), fun h => (HF.out h).elim⟩, HB.out⟩
    · have hc := natV_cell hrow (i := l.length - 1) (by omega)
      obtain ⟨x, hx⟩ : ∃ x : Nat, x = l.getD (l.length - 1) 0 := ⟨_, rfl⟩
      rw [← hx] at hc
      have HX : Hid (x = S.size ↔ matB S t) := Lib.hid (by rw [← HM.out, hx]; exact ⟨fun e => ⟨h0, e⟩, fun ⟨_, e⟩ => e⟩)
      have hlm : l.length ≤ 9223372036854775807 := by unfold maxLen at hcm; omega
      obtain ⟨n, hn⟩ : ∃ n, n = l.length := ⟨_, rfl⟩
      rw [← hn] at hc h0 hlm hnc ⊢
      have hpos : (0 : Int) < (n : Int) := by omega
      have hsub : ((n : Int) - 1).toNat = n - 1 := by omega
      have hge : (0 : Int) ≤ (n : Int) - 1 := by omega
      have hlt : (n : Int) - 1 < (n : Int) := by omega
      have hlt' : n - 1 < n := by omega
      clear hrow HM hbg hgg hx hn
      by_cases he : x = S.size
      · have he' : ((x : Int) == (S.size : Int)) = true := by simp; omega
        have HE2 := Lib.hid (HX.out.1 he)
        clear he
        go_wp2
        go_ret
        exact ⟨true, rfl, ⟨fun _ => HE2.out, fun _ => rfl⟩, HB.out⟩
      · have he' : ((x : Int) == (S.size : Int)) = false := by simp; omega
        have HE2 : Hid (¬ matB S t) := Lib.hid (fun q => he (HX.out.2 q))
        clear he
        go_wp2
        go_ret
        exact ⟨false, rfl, ⟨fun h => by (cases h), fun h => (HE2.out h).elim⟩, HB.out⟩
end Go.Proofs.Ytecngmnfbdbjfaa
