/- Contract of the document's own Least of layer 2. -/
import Derived.Test.YtjjnpobppmmgbaaL
namespace Go.Proofs.Ytjjnpobppmmgbaa
open Go.RowKit
theorem leastL_succ (zs : List Int) (n : Nat) : leastL zs (n + 1) = leastL zs n ++ [leastI zs (n : Int)] := by simp [leastL, List.range_succ]
/-- How far the search from the end has come: the places from m on have been looked at. -/
def SoughtL (zs : List Int) (k : Int) (m : Nat) (q : Int) : Prop :=
  (q = -1 ∧ ∀ c, m ≤ c → c < zs.length → zs.getD c 0 ≠ k) ∨ (∃ i : Nat, q = i ∧ m ≤ i ∧ i < zs.length ∧ zs.getD i 0 = k ∧ ∀ c, m ≤ c → c < i → zs.getD c 0 ≠ k)
theorem soughtL_end {zs : List Int} {k q : Int} (h : SoughtL zs k 0 q) : leastI zs k = q := by
  rcases h with ⟨rfl, h⟩ | ⟨i, rfl, _, h1, h2, h3⟩
  · exact leastI_none fun c hc => h c (by omega) hc
  · exact leastI_at h1 h2 fun c hc => h3 c (by omega) hc
theorem soughtL_yes {zs : List Int} {k q : Int} {m : Nat} (hm : m < zs.length) (h : zs.getD m 0 = k) (_hs : SoughtL zs k (m + 1) q) : SoughtL zs k m m :=
  Or.inr ⟨m, rfl, by omega, hm, h, fun c h1 h2 => by omega⟩
theorem soughtL_no {zs : List Int} {k q : Int} {m : Nat} (h : zs.getD m 0 ≠ k) (hs : SoughtL zs k (m + 1) q) : SoughtL zs k m q := by
  rcases hs with ⟨rfl, h1⟩ | ⟨i, rfl, h0, h1, h2, h3⟩
  · refine Or.inl ⟨rfl, fun c hc1 hc2 => ?_⟩
    by_cases e : c = m
    · subst e; exact h
    · exact h1 c (by omega) hc2
  · refine Or.inr ⟨i, rfl, by omega, h1, h2, fun c hc1 hc2 => ?_⟩
    by_cases e : c = m
    · subst e; exact h
    · exact h3 c (by omega) hc2
/-- The inner loop's relation. -/
def SoughtRelL (zs : List Int) (k : Int) (L : Nat) (nth b : Value) : Prop :=
  ∃ i q : Int, b = .int .i64 i ∧ nth = .int .i64 q ∧ (-1 ≤ i ∧ i < L) ∧ (-1 ≤ q ∧ q ≤ L) ∧ SoughtL zs k (i + 1).toNat q
set_option maxRecDepth 100000 in
set_option maxHeartbeats 4000000 in
theorem refleast_some (zs : List Int) (n : Int) (N L g off cap : Nat) (w : World) (hN : Hid ((N : Int) = min (max n 0) 256)) (hL : Hid (zs.length = L)) (hl : L ≤ 1000) (hp : 0 < L) (hg : g < w.heap.size)
    (hc : Hid (∀ i, i < L → w.cell? ⟨g, off + i, none⟩ = some (.int .i64 (zs.getD i 0)))) :
    Calls Try.prog 13 #[.slice (some ⟨g, off, none⟩) L cap, .int .i64 n] w (GivesInts w (leastL zs N)) := by
  obtain ⟨i0, hi, hz0, hz1, hz2⟩ := info_parts info3
  have hN2 : N ≤ 256 := by have := hN.out; omega
  go_enter Try.func13, Try.ntmps13
  go_wp2
  go_loopw [5, 6] (fun out k wr => ∃ j : Nat, j ≤ N ∧ k = .int .i64 j ∧ wr.ownsRow w.heap.size 3 1 out j ((leastL zs j).map (Value.int .i64)) ∧ Below w.heap.size w wr) (fun _ k _ => N - (intOf k).toNat)
  case atStart => exact ⟨0, by omega, rfl, World.ownsRow_nil _ _ _ _, Below.refl _ _⟩
  case round =>
    obtain ⟨j, hj, rfl, hown, hb⟩ := hrel
    by_cases hlt : j < N
    · have h1 : (j : Int) < n := by have := hN.out; omega
      go_wp2
      go_loop [7, 8] (fun nth b => SoughtRelL zs j L nth b) (fun _ b => (intOf b + 1).toNat)
      case atStart =>
        refine ⟨_, -1, rfl, rfl, by omega, by omega, Or.inl ⟨rfl, fun c hc1 hc2 => ?_⟩⟩
        rw [hL.out] at hc2; omega
      case round =>
        obtain ⟨i, q, rfl, rfl, hib, hq, hS⟩ := hrel
        have HS := Lib.hid hS
        clear hS
        by_cases hi0 : 0 ≤ i
        · obtain ⟨m, rfl⟩ : ∃ m : Nat, i = m := ⟨i.toNat, by omega⟩
          have hm : m < L := by omega
          have cc := (hb.cell (p := ⟨g, off + m, none⟩) hg).trans (hc.out m hm)
          have e1 : ((m : Int) + 1).toNat = m + 1 := by omega
          have HS' := Lib.hid (show SoughtL zs j (m + 1) q from e1 ▸ HS.out)
          clear HS e1
          by_cases he : zs.getD m 0 = (j : Int)
          · rw [he] at cc
            have HE := Lib.hid (soughtL_yes (by rw [hL.out]; exact hm) he HS'.out)
            clear he
            go_wp2
            go_round
            case rel =>
              refine ⟨_, _, rfl, rfl, by omega, by omega, ?_⟩
              rw [show ((m : Int) - 1 + 1).toNat = m by omega]; exact HE.out
            case measure => simp [intOf]
          · have hef : (zs.getD m 0 == (j : Int)) = false := by simpa using he
            have HE := Lib.hid (soughtL_no he HS'.out)
            generalize zs.getD m 0 = y at cc hef
            clear he
            go_wp2
            go_round
            case rel =>
              refine ⟨_, _, rfl, rfl, by omega, by omega, ?_⟩
              rw [show ((m : Int) - 1 + 1).toNat = m by omega]; exact HE.out
            case measure => simp [intOf]
        · obtain rfl : i = -1 := by omega
          have HE := Lib.hid (soughtL_end HS.out)
          go_wp2_with (at_builtin; refine wpList_append_own _ rfl _ _ 28 rfl w.heap.size 3 i0 (.int .i64 0) 1 8 Try.underlying28 hi hz0 hz1 hz2 rfl (by decide) _ _ _ rfl (hown.alloc _) ⟨wr.heap.size, 0, none⟩ 1 1 [.int .i64 q] rfl rfl (cell_one_new _ _ _) (ints_oneCell .i64 [q]) (by unfold maxLen; omega) (by omega) (by have := hb.size; simp; omega) ?_; intro v' w2 hown2 hgrow hnil)
          have hB2 : Below w.heap.size w w2 := (hb.alloc hb.size _).grown hgrow (by simp; have := hb.size; omega) (fun k hk => own_ge hown k hk)
          clear hgrow
          go_roundw
          case rel => exact ⟨j + 1, by omega, by go_num, by rw [leastL_succ, HE.out]; simpa using hown2, hB2⟩
          case measure => simp [intOf]; omega
    · obtain rfl : j = N := by omega
      by_cases h1 : (j : Int) < n
      · have h2 : ¬ j < 256 := by have := hN.out; omega
        go_wp2
        go_ret
        exact ⟨_, rfl, by rw [leastL_length]; exact hown, hb⟩
      · go_wp2
        go_ret
        exact ⟨_, rfl, by rw [leastL_length]; exact hown, hb⟩
set_option maxRecDepth 100000 in
set_option maxHeartbeats 4000000 in
theorem refleast_none (ad : Option Addr) (cap : Nat) (n : Int) (N : Nat) (w : World) (hN : Hid ((N : Int) = min (max n 0) 256)) :
    Calls Try.prog 13 #[.slice ad 0 cap, .int .i64 n] w (GivesInts w (leastL [] N)) := by
  obtain ⟨i0, hi, hz0, hz1, hz2⟩ := info_parts info3
  have hN2 : N ≤ 256 := by have := hN.out; omega
  go_enter Try.func13, Try.ntmps13
  go_wp2
  go_loopw [5, 6] (fun out k wr => ∃ j : Nat, j ≤ N ∧ k = .int .i64 j ∧ wr.ownsRow w.heap.size 3 1 out j ((leastL [] j).map (Value.int .i64)) ∧ Below w.heap.size w wr) (fun _ k _ => N - (intOf k).toNat)
  case atStart => exact ⟨0, by omega, rfl, World.ownsRow_nil _ _ _ _, Below.refl _ _⟩
  case round =>
    obtain ⟨j, hj, rfl, hown, hb⟩ := hrel
    by_cases hlt : j < N
    · have h1 : (j : Int) < n := by have := hN.out; omega
      go_wp2
      refine wp_loop_rounds 1 ?_
      rw [rounds_succ]
      go_wp2_with (at_builtin; refine wpList_append_own _ rfl _ _ 28 rfl w.heap.size 3 i0 (.int .i64 0) 1 8 Try.underlying28 hi hz0 hz1 hz2 rfl (by decide) _ _ _ rfl (hown.alloc _) ⟨wr.heap.size, 0, none⟩ 1 1 [.int .i64 (-1)] rfl rfl (cell_one_new _ _ _) (ints_oneCell .i64 [-1]) (by unfold maxLen; omega) (by omega) (by have := hb.size; simp; omega) ?_; intro v' w2 hown2 hgrow hnil)
      have hB2 : Below w.heap.size w w2 := (hb.alloc hb.size _).grown hgrow (by simp; have := hb.size; omega) (fun k hk => own_ge hown k hk)
      clear hgrow
      go_roundw
      case rel => exact ⟨j + 1, by omega, by go_num, by rw [leastL_succ, show leastI [] (j : Int) = -1 from rfl]; simpa using hown2, hB2⟩
      case measure => simp [intOf]; omega
    · obtain rfl : j = N := by omega
      by_cases h1 : (j : Int) < n
      · have h2 : ¬ j < 256 := by have := hN.out; omega
        go_wp2
        go_ret
        exact ⟨_, rfl, by rw [leastL_length]; exact hown, hb⟩
      · go_wp2
        go_ret
        exact ⟨_, rfl, by rw [leastL_length]; exact hown, hb⟩
theorem refleast_any (zs : List Int) (v : Value) (n : Int) (N : Nat) (w : World) (hN : (N : Int) = min (max n 0) 256) (h : IntsAt w v zs) :
    Calls Try.prog 13 #[v, .int .i64 n] w (GivesInts w (leastL zs N)) := by
  obtain ⟨a, cap, rfl, hl, hc⟩ := h
  by_cases hp : 0 < zs.length
  · obtain ⟨g, off, rfl, hg, hc⟩ := hc hp
    exact refleast_some zs n N zs.length g off cap w (Lib.hid hN) (Lib.hid rfl) hl hp hg (Lib.hid hc)
  · obtain rfl : zs = [] := List.eq_nil_of_length_eq_zero (by omega)
    exact refleast_none a cap n N w (Lib.hid hN)
end Go.Proofs.Ytjjnpobppmmgbaa
