/- Contract of part.Split over the landed code: the classes of any sets. -/
import Derived.Test.YtjjnpobppmmgbaaB
namespace Go.Proofs.Ytjjnpobppmmgbaa
open Go.RowKit
/-- The i-th of some sets. -/
def getF (fs : List (Nat → Int)) (i : Nat) : Nat → Int := fs.getD i fun _ => 0
/-- A slice that reads as some sets. -/
def SetsAt (w : World) (v : Value) (fs : List (Nat → Int)) : Prop :=
  ∃ a cap, v = .slice a fs.length cap ∧ fs.length ≤ 1000 ∧ (0 < fs.length → ∃ g off, a = some ⟨g, off, none⟩ ∧ g < w.heap.size ∧ ∀ i, i < fs.length → ∀ k, k < 4 → w.cell? ⟨g, off + i * 4 + k, none⟩ = some (.int .u64 (getF fs i k)))
theorem SetsAt.below {w w' : World} {v : Value} {fs : List (Nat → Int)} (h : SetsAt w v fs) (hb : Below w.heap.size w w') : SetsAt w' v fs := by
  obtain ⟨a, cap, rfl, hl, hc⟩ := h
  refine ⟨a, cap, rfl, hl, fun hp => ?_⟩
  obtain ⟨g, off, rfl, hg, hc⟩ := hc hp
  exact ⟨g, off, rfl, Nat.lt_of_lt_of_le hg hb.size, fun i hi k hk => (hb.cell (p := ⟨g, _, none⟩) hg).trans (hc i hi k hk)⟩
/-- No set tells them apart. -/
def alike (fs : List (Nat → Int)) (a b : Nat) : Bool := fs.all fun f => hasI f a == hasI f b
theorem eqv_alike (fs : List (Nat → Int)) : Eqv (alike fs) where
  refl a := by simp [alike]
  symm a b h := by
    simp only [alike, List.all_eq_true, beq_iff_eq] at h ⊢
    exact fun f hf => (h f hf).symm
  trans a b c h k := by
    simp only [alike, List.all_eq_true, beq_iff_eq] at h k ⊢
    exact fun f hf => (h f hf).trans (k f hf)
theorem alike_take {fs : List (Nat → Int)} {i : Nat} (h : i < fs.length) : alike (fs.take (i + 1)) = andR (alike (fs.take i)) (getF fs i) := by
  funext a b
  unfold alike andR getF
  rw [List.take_succ_eq_append_getElem h, List.all_append, List.getD_eq_getElem?_getD, List.getElem?_eq_getElem h]
  simp
theorem alike_all (fs : List (Nat → Int)) : alike (fs.take fs.length) = alike fs := by rw [List.take_length]
theorem alike_none (a b : Nat) : alike [] a b = true := rfl
theorem fst_none (b : Nat) : fstR (alike []) b = 0 := by
  cases b with
  | zero => rfl
  | succ b => exact fst_at (by omega) (alike_none _ _) fun c hc => by omega
theorem cls_none (b : Nat) : clsR (alike []) b = 0 := by unfold clsR; rw [fst_none]; rfl
theorem cnt_none (n : Nat) : cntR (alike []) (n + 1) = 1 := by
  induction n with
  | zero => exact cnt_new (fst_zero _)
  | succ n ih => rw [cnt_old (by rw [fst_none]; omega), ih]
theorem row_none : rowN (clsR (alike [])) = rowN fun _ => 0 := rowN_ext (rowN_size _) fun i hi => by rw [rowN_get _ hi, cls_none]
theorem make256 (w : World) : (Instr.makeSlice 28 (.int .i64 256) (.int .i64 256)).run Try.prog w = .ok (.slice (some ⟨w.heap.size, 0, none⟩) 256 256) (w.alloc (.cells (rowN fun _ => 0) 3)) := by kernel_rfl
/-- What Split leaves. -/
def GivesSplit (w : World) (R : Nat → Nat → Bool) (e : Ending) (w' : World) : Prop :=
  e = .returned (.tuple #[.slice (some ⟨w.heap.size, 0, none⟩) 256 256, .int .i64 (cntR R 256)]) ∧ w'.heap[w.heap.size]? = some (.cells (rowN (clsR R)) 3 (0, 0)) ∧ Below w.heap.size w w'
theorem cnt_ret (w : World) {a b : Nat} (h : a = b) : Ending.returned (.tuple #[.slice (some ⟨w.heap.size, 0, none⟩) 256 256, .int .i64 (a : Int)]) = .returned (.tuple #[.slice (some ⟨w.heap.size, 0, none⟩) 256 256, .int .i64 (b : Int)]) := by rw [h]
set_option maxHeartbeats 1000000 in
theorem split_none (a : Option Addr) (cap : Nat) (w : World) : Calls Try.prog 14 #[.slice a 0 cap] w (GivesSplit w (alike [])) := by
  have hmk := make256
  go_enter Try.func14, Try.ntmps14
  go_wp2
  refine wp_loop_rounds 1 ?_
  rw [rounds_succ]
  go_wp2
  go_ret2
  exact ⟨cnt_ret w (cnt_none 255).symm, by rw [row_none]; exact heap_alloc_new _ _, (Below.refl _ _).alloc (Nat.le_refl _) _⟩
set_option maxRecDepth 100000 in
set_option maxHeartbeats 2000000 in
theorem split_some (fs : List (Nat → Int)) (n g off cap : Nat) (w : World) (hn : Hid (fs.length = n)) (hp : 0 < n) (hl : n ≤ 1000) (hg : g < w.heap.size)
    (hc : Hid (∀ i, i < n → ∀ k, k < 4 → w.cell? ⟨g, off + i * 4 + k, none⟩ = some (.int .u64 (getF fs i k)))) : Calls Try.prog 14 #[.slice (some ⟨g, off, none⟩) n cap] w (GivesSplit w (alike fs)) := by
  have hmk := make256
  go_enter Try.func14, Try.ntmps14
  go_wp2
  go_loopw [5, 11] (fun c i wr => ∃ j : Nat, j ≤ n ∧ i = .int .i64 j ∧ c = .int .i64 (cntR (alike (fs.take j)) 256) ∧ wr.heap[w.heap.size]? = some (.cells (rowN (clsR (alike (fs.take j)))) 3 (0, 0)) ∧ w.heap.size + 1 ≤ wr.heap.size ∧ Below w.heap.size w wr) (fun _ i _ => n - (intOf i).toNat)
  case atStart => 
    refine ⟨0, by omega, rfl, ?_, ?_, by simp, (Below.refl _ _).alloc (Nat.le_refl _) _⟩
    · rw [List.take_zero, cnt_none 255]; rfl
    · rw [List.take_zero, row_none]; exact heap_alloc_new _ _
  case round =>
    obtain ⟨j, hj, rfl, rfl, hr, hs, hb⟩ := hrel
    by_cases hlt : j < n
    · have HR := Lib.hid hr
      have c0 : wr.cell? ⟨g, off + j * 4, none⟩ = _ := (hb.cell (p := ⟨g, off + j * 4, none⟩) hg).trans (hc.out j hlt 0 (by omega))
      have c1 := (hb.cell (p := ⟨g, off + j * 4 + 1, none⟩) hg).trans (hc.out j hlt 1 (by omega))
      have c2 := (hb.cell (p := ⟨g, off + j * 4 + 2, none⟩) hg).trans (hc.out j hlt 2 (by omega))
      have c3 := (hb.cell (p := ⟨g, off + j * 4 + 3, none⟩) hg).trans (hc.out j hlt 3 (by omega))
      have HA := Lib.hid (alike_take (fs := fs) (i := j) (by rw [hn.out]; exact hlt))
      clear hr
      generalize getF fs j = f at *
      go_wp2_with fail
      refine (divide_any (alike (fs.take j)) (eqv_alike _) f _ _ w.heap.size _ (Nat.le_refl _) (by simp; omega) ((Below.heap_alloc _ _ _ (by omega)).trans HR.out)).mono ?_
      rintro e w2 ⟨rfl, hr2, hb2⟩
      rw [← HA.out] at hr2
      have HR2 := Lib.hid hr2
      have HN := Lib.hid (congrArg (fun R => cntR R 256) HA.out)
      have hs2 := hb2.size
      have hB2 : Below w.heap.size w w2 := (hb.alloc (by omega) _).trans hb2
      clear hr2 hb2 c0 c1 c2 c3 hb HR
      go_wp2
      go_roundw
      case rel => exact ⟨j + 1, by omega, by go_num, by rw [HN.out], HR2.out, by simp at hs2; omega, hB2⟩
      case measure => simp [intOf]; omega
    · obtain rfl : n = j := by omega
      go_wp2
      go_ret2
      have e : alike (fs.take n) = alike fs := by rw [← hn.out, alike_all]
      rw [e] at hr ⊢
      exact ⟨rfl, hr, hb⟩
theorem split_any (fs : List (Nat → Int)) (v : Value) (w : World) (h : SetsAt w v fs) : Calls Try.prog 14 #[v] w (GivesSplit w (alike fs)) := by
  obtain ⟨a, cap, rfl, hl, hc⟩ := h
  by_cases hp : 0 < fs.length
  · obtain ⟨g, off, rfl, hg, hc⟩ := hc hp
    exact split_some fs fs.length g off cap w (Lib.hid rfl) hp hl hg (Lib.hid hc)
  · obtain rfl : fs = [] := List.eq_nil_of_length_eq_zero (by omega)
    exact split_none a cap w
end Go.Proofs.Ytjjnpobppmmgbaa
