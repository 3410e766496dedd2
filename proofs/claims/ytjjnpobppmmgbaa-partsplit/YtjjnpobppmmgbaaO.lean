/- How arguments of types []int, []api.Set and [][4]uint8 are opened. -/
import Derived.Test.YtjjnpobppmmgbaaC
import Derived.Test.YtjjnpobppmmgbaaL
import Derived.ProofKit
import Derived.OpenShut
import Derived.Lib.SmallJoins
import Derived.Deep.Slices
namespace Go.Proofs.Ytjjnpobppmmgbaa
open Go.ChangeShapes Go.WideShapes Go.ChangeAt Go.RowKit Go.Joins
theorem own : ownKnob Try.prog.godebug = none := by kernel_rfl
theorem cells34 : Try.prog.cellsOf 34 = 1 := by kernel_rfl
theorem cells5 : Try.prog.cellsOf 5 = 1 := by kernel_rfl
theorem cells36 : Try.prog.cellsOf 36 = 4 := by kernel_rfl
theorem cells42 : Try.prog.cellsOf 42 = 4 := by kernel_rfl
/-- Four numbers, by their places. -/
def four (a b c d : Int) : Nat → Int
  | 0 => a
  | 1 => b
  | 2 => c
  | _ => d
theorem open_zs {H : Type} {enc : TypeId × Value → H} {w : World} {b0 : Nat} {r : Reach} {v : Value} {d : DataW H} {p : List MemPlace}
    (hv : Value.okWide Try.prog w r b0 28 v) (h : DataW.Trod enc Try.prog w 0 (fun _ => true) true 28 v d p) (hlt : ∀ x ∈ p, x.block < w.heap.size) :
    ∃ (a : Option Addr) (n cap : Nat) (zs : List Int), v = .slice a n cap ∧ n ≤ maxLen ∧ (n ≤ 1000 → IntsAt w v zs) := by
  obtain ⟨a0, len, cap, rfl⟩ := okWide_slice Try.underlying28 hv
  obtain ⟨fuel, hf⟩ := h
  rcases open_ints Try.underlying28 Try.underlying3 cells3 hf with ⟨hcs, hx⟩ | ⟨a, len', cap', zs, hcs, _, hl, hm, hz, hx, hcell, hwz⟩
  · simp [Value.cells] at hcs
    obtain ⟨rfl, rfl, rfl⟩ := hcs
    exact ⟨none, 0, 0, [], rfl, by unfold maxLen; omega, fun _ => ⟨none, 0, rfl, by simp, fun h => by simp at h⟩⟩
  · simp [Value.cells] at hcs
    obtain ⟨rfl, rfl, rfl⟩ := hcs
    simp only [Prod.mk.injEq] at hx
    obtain ⟨rfl, rfl⟩ := hx
    simp only [if_true] at hz
    have hzl : (zs.take len).length = len := by rw [List.length_take]; omega
    refine ⟨some a, len, cap, zs.take len, rfl, by omega, fun h1000 => ⟨some a, cap, by rw [hzl], by omega, fun hp => ?_⟩⟩
    rw [hzl] at hp ⊢
    obtain ⟨b, off, spot⟩ := a
    have hspot : spot = none := by simpa [Addr.add] using World.cell?_spot (hcell 0 (by omega))
    subst hspot
    refine ⟨b, off, rfl, hlt (.cell b off) (MemPlace.mem_row.2 ⟨0, by omega, by simp⟩), fun i hi => ?_⟩
    rw [← add_plain, hcell i (by omega), List.getD_eq_getElem?_getD, List.getD_eq_getElem?_getD, List.getElem?_take, if_pos hi]
/-- A slice whose elements are four numbers each. -/
theorem open_rows4 {t e c : TypeId} {q : IntKind} (ht : Try.prog.underlying t = some (.slice e)) (he : Try.prog.underlying e = some (.array 4 c)) (hc : Try.prog.underlying c = some (.int q)) (ce : Try.prog.cellsOf e = 4) (cc : Try.prog.cellsOf c = 1)
    {H : Type} {enc : TypeId × Value → H} {w : World} {b0 : Nat} {r : Reach} {v : Value} {d : DataW H} {p : List MemPlace}
    (hv : Value.okWide Try.prog w r b0 t v) (h : DataW.Trod enc Try.prog w 0 (fun _ => true) true t v d p) (hlt : ∀ x ∈ p, x.block < w.heap.size) :
    ∃ (a : Option Addr) (n cap : Nat) (fs : List (Nat → Int)), v = .slice a n cap ∧ n ≤ maxLen ∧ fs.length = n ∧ (∀ i, i < n → ∀ k, k < 4 → (Lit.int q (getF fs i k)).wf = true) ∧
      (0 < n → ∃ g off, a = some ⟨g, off, none⟩ ∧ g < w.heap.size ∧ ∀ i, i < n → ∀ k, k < 4 → w.cell? ⟨g, off + i * 4 + k, none⟩ = some (.int q (getF fs i k))) := by
  obtain ⟨a0, len, cap, rfl⟩ := okWide_slice ht hv
  obtain ⟨fuel, hf⟩ := h
  rcases Deep.open_slice ht hf with ⟨hcs, hx⟩ | ⟨a, len', cap', m, n, D, Pl, hcs, _, hl, hm, hmm, hx, hel⟩
  · simp [Value.cells] at hcs
    obtain ⟨rfl, rfl, rfl⟩ := hcs
    exact ⟨none, 0, 0, [], rfl, by unfold maxLen; omega, rfl, fun i hi => by omega, fun h => by omega⟩
  · simp [Value.cells] at hcs
    obtain ⟨rfl, rfl, rfl⟩ := hcs
    simp only [Prod.mk.injEq] at hx
    obtain ⟨rfl, rfl⟩ := hx
    simp only [if_true] at hmm
    subst hmm
    have each : ∀ i, i < m → ∃ f : Nat → Int, ∀ k, k < 4 → (Lit.int q (f k)).wf = true ∧ w.cell? ((a.add (i * 4)).add k) = some (.int q (f k)) := by
      intro i hi
      obtain ⟨cs', h1, h2⟩ := hel i hi
      rw [ce] at h1
      obtain ⟨_, hlen, hget⟩ := World.cells?_some h1
      match cs', hlen with
      | [c0, c1, c2, c3], _ =>
        obtain ⟨y0, y1, y2, y3, n', _, t0, t1, t2, t3⟩ := trod_array4 he cc h2
        obtain ⟨a0, e0, _, w0⟩ := DataW.trod_int hc t0
        obtain ⟨a1, e1, _, w1⟩ := DataW.trod_int hc t1
        obtain ⟨a2, e2, _, w2⟩ := DataW.trod_int hc t2
        obtain ⟨a3, e3, _, w3⟩ := DataW.trod_int hc t3
        simp at e0 e1 e2 e3
        subst e0 e1 e2 e3
        refine ⟨four a0 a1 a2 a3, fun k hk => ?_⟩
        rw [hget k hk]
        match k, hk with
        | 0, _ => exact ⟨w0, rfl⟩
        | 1, _ => exact ⟨w1, rfl⟩
        | 2, _ => exact ⟨w2, rfl⟩
        | 3, _ => exact ⟨w3, rfl⟩
    obtain ⟨F, hF⟩ := Deep.choose_lt each
    have hget : ∀ i, i < len → getF ((List.range len).map F) i = F i := fun i hi => by
      unfold getF; rw [List.getD_eq_getElem?_getD, List.getElem?_map, List.getElem?_range hi]; rfl
    refine ⟨some a, len, m, (List.range len).map F, rfl, by omega, by simp, fun i hi k hk => by rw [hget i hi]; exact (hF i (by omega) k hk).1, fun hp => ?_⟩
    obtain ⟨b, off, spot⟩ := a
    have hspot : spot = none := by simpa [Addr.add] using World.cell?_spot (hF 0 (by omega) 0 (by omega)).2
    subst hspot
    refine ⟨b, off, rfl, hlt (.cell b off) (List.mem_append_left _ (MemPlace.mem_row.2 ⟨0, by rw [ce]; omega, by simp⟩)), fun i hi k hk => ?_⟩
    have := (hF i (by omega) k hk).2
    rw [add_plain, add_plain] at this
    rw [this, hget i hi]
theorem u64_lt {a : Int} (h : (Lit.int .u64 a).wf = true) : 0 ≤ a ∧ a < 18446744073709551616 := by
  have := bounds_u64 h; omega
theorem open_sets {H : Type} {enc : TypeId × Value → H} {w : World} {b0 : Nat} {r : Reach} {v : Value} {d : DataW H} {p : List MemPlace}
    (hv : Value.okWide Try.prog w r b0 22 v) (h : DataW.Trod enc Try.prog w 0 (fun _ => true) true 22 v d p) (hlt : ∀ x ∈ p, x.block < w.heap.size) :
    ∃ (a : Option Addr) (n cap : Nat) (fs : List (Nat → Int)), v = .slice a n cap ∧ n ≤ maxLen ∧ (n ≤ 1000 → SetsAt w v fs) := by
  obtain ⟨a, n, cap, fs, rfl, hn, rfl, _, hc⟩ := open_rows4 Try.underlying22 Try.underlying36 Try.underlying34 cells36 cells34 hv h hlt
  exact ⟨a, _, cap, fs, rfl, hn, fun h1 => ⟨a, cap, rfl, h1, hc⟩⟩
end Go.Proofs.Ytjjnpobppmmgbaa
