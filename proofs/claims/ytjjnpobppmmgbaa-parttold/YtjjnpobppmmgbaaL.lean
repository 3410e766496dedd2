/- Contracts of part.Least over the landed code, and of the document's own Least of layer 2. -/
import Derived.Test.YtjjnpobppmmgbaaA
namespace Go.Proofs.Ytjjnpobppmmgbaa
open Go.RowKit
/-- The smallest place at which k stands, or -1. -/
def leastI (zs : List Int) (k : Int) : Int := match zs.findIdx? (· == k) with | some i => (i : Int) | none => -1
theorem leastI_bd (zs : List Int) (k : Int) : -1 ≤ leastI zs k ∧ leastI zs k ≤ zs.length := by
  unfold leastI
  cases h : zs.findIdx? (· == k) with
  | none => simp
  | some i =>
    have := (List.findIdx?_eq_some_iff_getElem.1 h).1
    simp; omega
theorem leastI_snoc (zs : List Int) (c k : Int) : leastI (zs ++ [c]) k = if leastI zs k = -1 ∧ c = k then (zs.length : Int) else leastI zs k := by
  unfold leastI
  rw [List.findIdx?_append]
  cases h : zs.findIdx? (· == k) with
  | none =>
    by_cases e : c = k
    · subst e; simp
    · simp [e]
  | some i =>
    simp
theorem leastI_at {zs : List Int} {k : Int} {i : Nat} (hi : i < zs.length) (h : zs.getD i 0 = k) (hm : ∀ c, c < i → zs.getD c 0 ≠ k) : leastI zs k = i := by
  unfold leastI
  have : zs.findIdx? (· == k) = some i := by
    rw [List.findIdx?_eq_some_iff_getElem]
    refine ⟨hi, ?_, fun j hj => ?_⟩
    · rw [List.getD_eq_getElem?_getD, List.getElem?_eq_getElem hi] at h; simpa using h
    · have := hm j hj
      rw [List.getD_eq_getElem?_getD, List.getElem?_eq_getElem (by omega)] at this
      simpa using this
  rw [this]
theorem leastI_none {zs : List Int} {k : Int} (hm : ∀ c, c < zs.length → zs.getD c 0 ≠ k) : leastI zs k = -1 := by
  unfold leastI
  have : zs.findIdx? (· == k) = none := by
    rw [List.findIdx?_eq_none_iff]
    intro x hx
    obtain ⟨j, hj, rfl⟩ := List.getElem_of_mem hx
    have := hm j hj
    rw [List.getD_eq_getElem?_getD, List.getElem?_eq_getElem hj] at this
    simpa using this
  rw [this]
/-- A slice that reads as some numbers. -/
def IntsAt (w : World) (v : Value) (zs : List Int) : Prop :=
  ∃ a cap, v = .slice a zs.length cap ∧ zs.length ≤ 1000 ∧ (0 < zs.length → ∃ g off, a = some ⟨g, off, none⟩ ∧ g < w.heap.size ∧ ∀ i, i < zs.length → w.cell? ⟨g, off + i, none⟩ = some (.int .i64 (zs.getD i 0)))
theorem IntsAt.below {w w' : World} {v : Value} {zs : List Int} (h : IntsAt w v zs) (hb : Below w.heap.size w w') : IntsAt w' v zs := by
  obtain ⟨a, cap, rfl, hl, hc⟩ := h
  refine ⟨a, cap, rfl, hl, fun hp => ?_⟩
  obtain ⟨g, off, rfl, hg, hc⟩ := hc hp
  exact ⟨g, off, rfl, Nat.lt_of_lt_of_le hg hb.size, fun i hi => (hb.cell (p := ⟨g, _, none⟩) hg).trans (hc i hi)⟩
/-- N numbers in a row. -/
def rowL (N : Nat) (h : Nat → Int) : List Value := (List.range N).map fun k => Value.int .i64 (h k)
theorem rowL_length (N : Nat) (h : Nat → Int) : (rowL N h).length = N := by simp [rowL]
theorem rowL_get {N : Nat} (h : Nat → Int) {i : Nat} (hi : i < N) : (rowL N h)[i]? = some (.int .i64 (h i)) := by simp [rowL, hi]
theorem rowL_congr {N : Nat} {h h' : Nat → Int} (e : ∀ k, k < N → h k = h' k) : rowL N h = rowL N h' := by
  unfold rowL
  exact List.map_congr_left fun k hk => by rw [e k (List.mem_range.1 hk)]
theorem rowL_set {N : Nat} (h : Nat → Int) (j : Nat) (x : Int) : (rowL N h).set j (.int .i64 x) = rowL N fun k => if k = j then x else h k := by
  apply List.ext_getElem?
  intro i
  rw [List.getElem?_set]
  by_cases hi : i < N
  · rw [rowL_get _ hi, rowL_get _ hi, rowL_length]
    by_cases e : j = i
    · subst e; rw [if_pos rfl, if_pos hi, if_pos rfl]
    · rw [if_neg e, if_neg (fun h => e h.symm)]
  · rw [List.getElem?_eq_none (by rw [rowL_length]; omega), List.getElem?_eq_none (by rw [rowL_length]; omega), rowL_length]
    split
    · rw [if_neg (by omega)]
    · rfl
theorem rowL_made (N : Nat) : (madeCells (Value.int .i64 0).cells (N * 1)).toList = rowL N fun _ => 0 := by
  show (madeCells #[Value.int .i64 0] (N * 1)).toList = _
  rw [toList_madeCells_one, Nat.mul_one]
  apply List.ext_getElem?
  intro i
  by_cases hi : i < N
  · rw [rowL_get _ hi]; simp [hi]
  · rw [List.getElem?_eq_none (by simp; omega), List.getElem?_eq_none (by rw [rowL_length]; omega)]
def leastL (zs : List Int) (N : Nat) : List Int := (List.range N).map fun (k : Nat) => leastI zs (k : Int)
theorem leastL_row (zs : List Int) (N : Nat) : rowL N (fun k => leastI zs k) = (leastL zs N).map (Value.int .i64) := by simp [rowL, leastL]
theorem leastL_length (zs : List Int) (N : Nat) : (leastL zs N).length = N := by simp [leastL]
/-- How many classes Least answers for. -/
def capN (n : Int) : Nat := (min (max n 0) 256).toNat
theorem capN_le (n : Int) : capN n ≤ 256 := by unfold capN; omega
theorem take_snoc {zs : List Int} {i : Nat} (h : i < zs.length) : zs.take (i + 1) = zs.take i ++ [zs.getD i 0] := by
  rw [List.take_succ_eq_append_getElem h, List.getD_eq_getElem?_getD, List.getElem?_eq_getElem h]; rfl
/-- A number that is no class, or whose place is known. -/
theorem row_stay {zs : List Int} {i N : Nat} (h : i < zs.length) (hk : ∀ k : Nat, k < N → zs.getD i 0 = k → leastI (zs.take i) k ≠ -1) : rowL N (fun k => leastI (zs.take i) k) = rowL N fun k => leastI (zs.take (i + 1)) k := by
  refine rowL_congr fun k hkN => ?_
  rw [take_snoc h, leastI_snoc, if_neg]
  rintro ⟨h1, h2⟩
  exact hk k hkN h2 h1
/-- A number whose first place this is. -/
theorem row_turn {zs : List Int} {i N k : Nat} (h : i < zs.length) (hk : zs.getD i 0 = k) (h1 : leastI (zs.take i) k = -1) : (rowL N fun c => leastI (zs.take i) c).set k (.int .i64 i) = rowL N fun c => leastI (zs.take (i + 1)) c := by
  rw [rowL_set]
  refine rowL_congr fun c _ => ?_
  rw [take_snoc h, leastI_snoc, hk]
  by_cases e : c = k
  · subst e; rw [if_pos rfl, if_pos ⟨h1, rfl⟩, List.length_take]; omega
  · rw [if_neg e, if_neg (fun h => e (by omega))]
theorem below_store {w : World} {base e size g n cap : Nat} {xs : List Value} {B : Nat} {wo : World} (h : w.ownsRow base e size (.slice (some ⟨g, 0, none⟩) n cap) n xs) (hb : Below B wo w) (hB : B ≤ g) (j : Nat) (u : Value) :
    (w.setCell ⟨g, j, none⟩ u).ownsRow base e size (.slice (some ⟨g, 0, none⟩) n cap) n (xs.set j u) ∧ Below B wo (w.setCell ⟨g, j, none⟩ u) := ⟨(h.stored j u).1, hb.setCell hB u⟩
set_option maxRecDepth 100000 in
set_option maxHeartbeats 4000000 in
theorem least_some (zs : List Int) (n : Int) (N L g off cap : Nat) (w : World) (hN : Hid ((N : Int) = min (max n 0) 256)) (hL : Hid (zs.length = L)) (hl : L ≤ 1000) (hg : g < w.heap.size)
    (hc : Hid (∀ i, i < L → w.cell? ⟨g, off + i, none⟩ = some (.int .i64 (zs.getD i 0)))) :
    Calls Try.prog 12 #[.slice (some ⟨g, off, none⟩) L cap, .int .i64 n] w (GivesInts w (leastL zs N)) := by
  obtain ⟨i0, hi, hz0, hz1, hz2⟩ := info_parts info3
  have hN2 : N ≤ 256 := by have := hN.out; omega
  go_enter Try.func12, Try.ntmps12
  go_wp2_with (at_make; refine wpList_make_full _ rfl _ _ 28 rfl w.heap.size 3 i0 (.int .i64 0) 1 Try.underlying28 hi hz0 hz1 .i64 .i64 _ _ N rfl rfl (by have := hN.out; omega) (by have := hN.out; omega) (by rw [hz2]; omega) (by unfold maxLen; omega) (Nat.le_refl _) ?_; intro w1 hown1 hgrow1)
  all_goals
    rw [rowL_made] at hown1
    have hB1 : Below w.heap.size w w1 := (Below.refl _ _).grown hgrow1 (Nat.le_refl _) (fun k hk => by cases hk)
    have hs1 : w.heap.size < w1.heap.size := (hown1.lt w.heap.size rfl).2
    clear hgrow1
    go_loopw [15] (fun c wr => ∃ j : Nat, j ≤ N ∧ c = .int .i64 j ∧ wr.ownsRow w.heap.size 3 1 (.slice (some ⟨w.heap.size, 0, none⟩) N N) N (rowL N fun k => if k < j then -1 else 0) ∧ Below w.heap.size w wr) (fun c _ => N - (intOf c).toNat)
    case atStart => exact ⟨0, by omega, rfl, hown1, hB1⟩
    case round =>
      obtain ⟨j, hj, rfl, hown, hb⟩ := hrel
      by_cases hlt : j < N
      · have c0 := hown.cellAt j (by omega)
        rw [rowL_get _ hlt] at c0
        have f0 := hown.frozenAt j
        have HS := Lib.hid (below_store hown hb (Nat.le_refl _) j (.int .i64 (-1)))
        clear hown hown1
        go_wp2
        go_roundw
        case rel =>
          refine ⟨j + 1, by omega, by go_num, ?_, HS.out.2⟩
          have := HS.out.1
          rw [rowL_set] at this
          rwa [rowL_congr (h' := fun k => if k < j + 1 then -1 else 0) fun k _ => ?_] at this
          by_cases e : k = j
          · rw [if_pos e, if_pos (by omega)]
          · rw [if_neg e]
            by_cases e2 : k < j
            · rw [if_pos e2, if_pos (by omega)]
            · rw [if_neg e2, if_neg (by omega)]
        case measure => simp [intOf]; omega
      · obtain rfl : j = N := by omega
        have hown2 : wr.ownsRow w.heap.size 3 1 (.slice (some ⟨w.heap.size, 0, none⟩) j j) j (rowL j fun k => leastI (zs.take 0) k) := by
          rwa [rowL_congr (h' := fun k => leastI (zs.take 0) k) fun k hk => ?_] at hown
          rw [if_pos hk]; rfl
        clear hown hown1
        obtain ⟨wo, ho⟩ : ∃ x, x = wr := ⟨wr, rfl⟩
        subst ho
        go_wp2
        go_loopw [24] (fun c wr => ∃ i : Nat, i ≤ L ∧ c = .int .i64 i ∧ wr.ownsRow w.heap.size 3 1 (.slice (some ⟨w.heap.size, 0, none⟩) j j) j (rowL j fun k => leastI (zs.take i) k) ∧ Below w.heap.size w wr) (fun c _ => L - (intOf c).toNat)
        case atStart => exact ⟨0, by omega, rfl, hown2, hb⟩
        case round =>
          obtain ⟨i, hiL, rfl, hown, hbr⟩ := hrel
          by_cases hlt2 : i < L
          · have cc := (hbr.cell (p := ⟨g, off + i, none⟩) hg).trans (hc.out i hlt2)
            have HL := Lib.hid (show i < zs.length by rw [hL.out]; exact hlt2)
            have HST := Lib.hid (row_stay (N := j) HL.out)
            have HTU := Lib.hid (fun k => row_turn (N := j) (k := k) HL.out)
            generalize zs.getD i 0 = c at *
            by_cases h0 : 0 ≤ c
            · obtain ⟨k, rfl⟩ : ∃ k : Nat, c = k := ⟨c.toNat, by omega⟩
              by_cases h1 : k < j
              · have c0 := hown.cellAt k (by omega)
                rw [rowL_get _ h1] at c0
                have f0 := hown.frozenAt k
                by_cases h2 : leastI (zs.take i) k = -1
                · have HS := Lib.hid (below_store hown hbr (Nat.le_refl _) k (.int .i64 i))
                  rw [h2] at c0
                  have H2 := Lib.hid h2
                  clear h2 hown hown2
                  go_wp2
                  go_roundw
                  case rel => exact ⟨i + 1, by omega, by go_num, by rw [← HTU.out k rfl H2.out]; exact HS.out.1, HS.out.2⟩
                  case measure => simp [intOf]; omega
                · have h3 : (leastI (zs.take i) k == -1) = false := by simpa using h2
                  have H2 := Lib.hid h2
                  have HO := Lib.hid hown
                  clear h2 hown hown2
                  go_wp2
                  go_roundw
                  case rel => exact ⟨i + 1, by omega, by go_num, by rw [← HST.out fun c hc e => by obtain rfl : k = c := (by omega); exact H2.out]; exact HO.out, hbr⟩
                  case measure => simp [intOf]; omega
              · have HO := Lib.hid hown
                clear hown hown2
                go_wp2
                go_roundw
                case rel => exact ⟨i + 1, by omega, by go_num, by rw [← HST.out fun c hc e => by omega]; exact HO.out, hbr⟩
                case measure => simp [intOf]; omega
            · have HO := Lib.hid hown
              clear hown hown2
              go_wp2
              go_roundw
              case rel => exact ⟨i + 1, by omega, by go_num, by rw [← HST.out fun c hc e => by omega]; exact HO.out, hbr⟩
              case measure => simp [intOf]; omega
          · obtain rfl : i = L := by omega
            go_wp2
            go_ret
            rw [List.take_of_length_le (by rw [hL.out]; exact Nat.le_refl _), leastL_row] at hown
            exact ⟨_, rfl, by rw [leastL_length]; exact hown, hbr⟩
set_option maxRecDepth 100000 in
set_option maxHeartbeats 4000000 in
theorem least_none (ad : Option Addr) (cap : Nat) (n : Int) (N : Nat) (w : World) (hN : Hid ((N : Int) = min (max n 0) 256)) :
    Calls Try.prog 12 #[.slice ad 0 cap, .int .i64 n] w (GivesInts w (leastL [] N)) := by
  obtain ⟨i0, hi, hz0, hz1, hz2⟩ := info_parts info3
  have hN2 : N ≤ 256 := by have := hN.out; omega
  go_enter Try.func12, Try.ntmps12
  go_wp2_with (at_make; refine wpList_make_full _ rfl _ _ 28 rfl w.heap.size 3 i0 (.int .i64 0) 1 Try.underlying28 hi hz0 hz1 .i64 .i64 _ _ N rfl rfl (by have := hN.out; omega) (by have := hN.out; omega) (by rw [hz2]; omega) (by unfold maxLen; omega) (Nat.le_refl _) ?_; intro w1 hown1 hgrow1)
  all_goals
    rw [rowL_made] at hown1
    have hB1 : Below w.heap.size w w1 := (Below.refl _ _).grown hgrow1 (Nat.le_refl _) (fun k hk => by cases hk)
    have hs1 : w.heap.size < w1.heap.size := (hown1.lt w.heap.size rfl).2
    clear hgrow1
    go_loopw [15] (fun c wr => ∃ j : Nat, j ≤ N ∧ c = .int .i64 j ∧ wr.ownsRow w.heap.size 3 1 (.slice (some ⟨w.heap.size, 0, none⟩) N N) N (rowL N fun k => if k < j then -1 else 0) ∧ Below w.heap.size w wr) (fun c _ => N - (intOf c).toNat)
    case atStart => exact ⟨0, by omega, rfl, hown1, hB1⟩
    case round =>
      obtain ⟨j, hj, rfl, hown, hb⟩ := hrel
      by_cases hlt : j < N
      · have c0 := hown.cellAt j (by omega)
        rw [rowL_get _ hlt] at c0
        have f0 := hown.frozenAt j
        have HS := Lib.hid (below_store hown hb (Nat.le_refl _) j (.int .i64 (-1)))
        clear hown hown1
        go_wp2
        go_roundw
        case rel =>
          refine ⟨j + 1, by omega, by go_num, ?_, HS.out.2⟩
          have := HS.out.1
          rw [rowL_set] at this
          rwa [rowL_congr (h' := fun k => if k < j + 1 then -1 else 0) fun k _ => ?_] at this
          by_cases e : k = j
          · rw [if_pos e, if_pos (by omega)]
          · rw [if_neg e]
            by_cases e2 : k < j
            · rw [if_pos e2, if_pos (by omega)]
            · rw [if_neg e2, if_neg (by omega)]
        case measure => simp [intOf]; omega
      · obtain rfl : j = N := by omega
        have hown2 : wr.ownsRow w.heap.size 3 1 (.slice (some ⟨w.heap.size, 0, none⟩) j j) j (rowL j fun k => leastI [] k) := by
          rwa [rowL_congr (h' := fun k => leastI [] k) fun k hk => ?_] at hown
          rw [if_pos hk]; rfl
        clear hown hown1
        go_wp2
        refine wp_loop_rounds 1 ?_
        rw [rounds_succ]
        go_wp2
        go_ret
        rw [leastL_row] at hown2
        exact ⟨_, rfl, by rw [leastL_length]; exact hown2, hb⟩
theorem least_any (zs : List Int) (v : Value) (n : Int) (N : Nat) (w : World) (hN : (N : Int) = min (max n 0) 256) (h : IntsAt w v zs) :
    Calls Try.prog 12 #[v, .int .i64 n] w (GivesInts w (leastL zs N)) := by
  obtain ⟨a, cap, rfl, hl, hc⟩ := h
  by_cases hp : 0 < zs.length
  · obtain ⟨g, off, rfl, hg, hc⟩ := hc hp
    exact least_some zs n N zs.length g off cap w (Lib.hid hN) (Lib.hid rfl) hl hg (Lib.hid hc)
  · obtain rfl : zs = [] := List.eq_nil_of_length_eq_zero (by omega)
    exact least_none a cap n N w (Lib.hid hN)
end Go.Proofs.Ytjjnpobppmmgbaa
