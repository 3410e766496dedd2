/- How an argument of type api.Rx is opened: a pattern that lies in memory. -/
import Derived.Test.YtbahadgcmaabcaaT
import Derived.ProofKit
import Derived.OpenShut
import Derived.Lib.SmallJoins
import Derived.Deep.Slices
import Derived.Test.YtbahadgcmaabcaaMg
namespace Go.Proofs.Ytbahadgcmaabcaa
open Go.ChangeShapes Go.WideShapes Go.ChangeAt Go.RowKit Go.Joins
set_option maxRecDepth 100000 in
theorem own : ownKnob Try.prog.godebug = none := by kernel_rfl
set_option maxRecDepth 100000 in
theorem laidOut : laidOutB Try.prog = true := by kernel_rfl
set_option maxRecDepth 100000 in
theorem cells24 : Try.prog.cellsOf 24 = 4 := by kernel_rfl
set_option maxRecDepth 100000 in
theorem cells25 : Try.prog.cellsOf 25 = 1 := by kernel_rfl
set_option maxRecDepth 100000 in
theorem cells27 : Try.prog.cellsOf 27 = 8 := by kernel_rfl
/-- Four words, by their places. -/
def four (a b c d : Int) : Nat → Int
  | 0 => a
  | 1 => b
  | 2 => c
  | _ => d
set_option maxRecDepth 100000 in
theorem u64_lt {a : Int} (h : (Lit.int .u64 a).wf = true) : 0 ≤ a ∧ a < 18446744073709551616 := by
  have := bounds_u64 h; omega
set_option maxRecDepth 100000 in
theorem wf_four {a b c d : Int} (ha : 0 ≤ a ∧ a < 18446744073709551616) (hb : 0 ≤ b ∧ b < 18446744073709551616) (hc : 0 ≤ c ∧ c < 18446744073709551616) (hd : 0 ≤ d ∧ d < 18446744073709551616) : Wf (four a b c d) := by
  intro i hi
  match i, hi with
  | 0, _ => exact ha
  | 1, _ => exact hb
  | 2, _ => exact hc
  | 3, _ => exact hd
set_option maxRecDepth 100000 in
/-- Cells that read as a pattern hold one. -/
theorem open_cells {H : Type} {enc : TypeId × Value → H} {w : World} : ∀ (fuel : Nat) (cs : List Value) (x : DataW H × List MemPlace), DataW.trod enc Try.prog w 0 (fun _ => true) true fuel 27 cs = some x → (∀ y ∈ x.2, y.block < w.heap.size) →
    ∃ t : Tr, cs = (row8 t.k t.s t.lo t.hi (.slice t.a t.n t.cap)).toList ∧ Lives w w.heap.size t := by
  intro fuel
  induction fuel using Nat.strongRecOn with
  | _ fuel ih =>
  intro cs x h hlt
  obtain ⟨xs, n, rfl, rfl, hl, hxl, hf⟩ := DataW.trod_struct Try.underlying27 h
  rw [cells27] at hl
  match cs, hl with
  | [c0, c1, c2, c3, c4, c5, c6, c7], _ =>
  match xs, hxl with
  | [y0, y1, y2, y3, y4], _ =>
  have g0 : DataW.trod enc Try.prog w 0 (fun _ => true) true n 3 (([c0, c1, c2, c3, c4, c5, c6, c7].drop 0).take (Try.prog.cellsOf 3)) = some y0 := hf 0 _ rfl
  have g1 : DataW.trod enc Try.prog w 0 (fun _ => true) true n 24 (([c0, c1, c2, c3, c4, c5, c6, c7].drop 1).take (Try.prog.cellsOf 24)) = some y1 := hf 1 _ rfl
  have g2 : DataW.trod enc Try.prog w 0 (fun _ => true) true n 3 (([c0, c1, c2, c3, c4, c5, c6, c7].drop 5).take (Try.prog.cellsOf 3)) = some y2 := hf 2 _ rfl
  have g3 : DataW.trod enc Try.prog w 0 (fun _ => true) true n 3 (([c0, c1, c2, c3, c4, c5, c6, c7].drop 6).take (Try.prog.cellsOf 3)) = some y3 := hf 3 _ rfl
  have g4 : DataW.trod enc Try.prog w 0 (fun _ => true) true n 25 (([c0, c1, c2, c3, c4, c5, c6, c7].drop 7).take (Try.prog.cellsOf 25)) = some y4 := hf 4 _ rfl
  rw [cells3] at g0 g2 g3
  rw [cells24] at g1
  rw [cells25] at g4
  change DataW.trod enc Try.prog w 0 (fun _ => true) true n 3 [c0] = some y0 at g0
  change DataW.trod enc Try.prog w 0 (fun _ => true) true n 24 [c1, c2, c3, c4] = some y1 at g1
  change DataW.trod enc Try.prog w 0 (fun _ => true) true n 3 [c5] = some y2 at g2
  change DataW.trod enc Try.prog w 0 (fun _ => true) true n 3 [c6] = some y3 at g3
  change DataW.trod enc Try.prog w 0 (fun _ => true) true n 25 [c7] = some y4 at g4
  have hlt4 : ∀ y ∈ y4.2, y.block < w.heap.size := fun y hy => hlt y (by simp [hy])
  obtain ⟨k, e0, _, _⟩ := DataW.trod_int Try.underlying3 g0
  obtain ⟨lo, e2, _, _⟩ := DataW.trod_int Try.underlying3 g2
  obtain ⟨hi, e3, _, _⟩ := DataW.trod_int Try.underlying3 g3
  obtain ⟨z0', z1', z2', z3', n', _, t0, t1, t2, t3⟩ := trod_array4 Try.underlying24 cells22 g1
  obtain ⟨a0, s0, _, w0⟩ := DataW.trod_int Try.underlying22 t0
  obtain ⟨a1, s1, _, w1⟩ := DataW.trod_int Try.underlying22 t1
  obtain ⟨a2, s2, _, w2⟩ := DataW.trod_int Try.underlying22 t2
  obtain ⟨a3, s3, _, w3⟩ := DataW.trod_int Try.underlying22 t3
  simp at e0 e2 e3 s0 s1 s2 s3
  subst e0 e2 e3 s0 s1 s2 s3
  have hws := wf_four (u64_lt w0) (u64_lt w1) (u64_lt w2) (u64_lt w3)
  clear t0 t1 t2 t3 g0 g1 g2 g3 w0 w1 w2 w3 hf h hlt
  rcases DataW.trod_slice Try.underlying25 g4 with ⟨hcs, hx⟩ | ⟨a, len, cap, elems, rest, m, rfl, hcs, hx, _, hl, hcm, hel, hget, hsp, _⟩
  · simp at hcs
    subst hcs
    exact ⟨.node k (four a0 a1 a2 a3) lo hi none 0 0 (fun _ => .nul), rfl, hws, Nat.le_refl _, by unfold maxLen; omega, fun h => by omega, fun i h => by omega⟩
  · simp at hcs
    subst hcs
    have each : ∀ i, i < len → ∃ t : Tr, w.cells? 0 (a.add (i * 8)) 8 = some (row8 t.k t.s t.lo t.hi (.slice t.a t.n t.cap)).toList ∧ Lives w w.heap.size t := by
      intro i hi
      have h1 := hget i hi
      rw [cells27, List.getElem?_eq_getElem (by omega)] at h1
      obtain ⟨cs', q1, q2⟩ := Option.bind_eq_some_iff.1 h1
      obtain ⟨t, ht, hL⟩ := ih m (by omega) cs' _ q2 (fun y hy => hlt4 y (by
        rw [hx]
        refine List.mem_append_right _ (List.mem_flatMap.2 ⟨elems[i], by simp, hy⟩)))
      exact ⟨t, by rw [q1, ht], hL⟩
    obtain ⟨F, hF⟩ : ∃ F : Nat → Tr, ∀ i, i < len → w.cells? 0 (a.add (i * 8)) 8 = some (row8 (F i).k (F i).s (F i).lo (F i).hi (.slice (F i).a (F i).n (F i).cap)).toList ∧ Lives w w.heap.size (F i) := by
      refine ⟨fun i => if h : i < len then Classical.choose (each i h) else .nul, fun i hi => ?_⟩
      have := Classical.choose_spec (each i hi)
      simp only [hi, dif_pos]
      exact this
    refine ⟨.node k (four a0 a1 a2 a3) lo hi (some a) len cap F, rfl, hws, hl, hcm, fun hp => ?_, fun i hi => (hF i hi).2⟩
    obtain ⟨b, off, spot⟩ := a
    have hc : ∀ i, i < len → ∀ j v, (row8 (F i).k (F i).s (F i).lo (F i).hi (.slice (F i).a (F i).n (F i).cap)).toList[j]? = some v → w.cell? (((⟨b, off, spot⟩ : Addr).add (i * 8)).add j) = some v := by
      intro i hi j v hv
      obtain ⟨_, hlen, hg⟩ := World.cells?_some (hF i hi).1
      have hj : j < 8 := by
        rcases Nat.lt_or_ge j 8 with q | q
        · exact q
        · rw [List.getElem?_eq_none (by simpa using q)] at hv; cases hv
      rw [hg j hj, hv]
    have hspot : spot = none := by simpa [Addr.add] using World.cell?_spot (hc 0 hp 0 _ rfl)
    subst hspot
    refine ⟨b, off, rfl, hlt4 (.cell b off) (by rw [hx]; exact List.mem_append_left _ (MemPlace.mem_row.2 ⟨0, by rw [cells27]; omega, by simp⟩)), fun i hi => ?_⟩
    have hh : ∀ j v, (row8 (F i).k (F i).s (F i).lo (F i).hi (.slice (F i).a (F i).n (F i).cap)).toList[j]? = some v → w.cell? ⟨b, off + i * 8 + j, none⟩ = some v := fun j v hv => by
      have := hc i hi j v hv
      rw [add_plain, add_plain] at this
      exact this
    exact ⟨hh 0 _ rfl, hh 1 _ rfl, hh 2 _ rfl, hh 3 _ rfl, hh 4 _ rfl, hh 5 _ rfl, hh 6 _ rfl, hh 7 _ rfl⟩
set_option maxRecDepth 100000 in
theorem open_rx {H : Type} {enc : TypeId × Value → H} {w : World} {b0 : Nat} {r : Reach} {v : Value} {d : DataW H} {p : List MemPlace}
    (hv : Value.okWide Try.prog w r b0 27 v) (h : DataW.Trod enc Try.prog w 0 (fun _ => true) true 27 v d p) (hlt : ∀ x ∈ p, x.block < w.heap.size) : ∃ t : Tr, v = t.val ∧ Lives w w.heap.size t := by
  obtain ⟨cs, rfl, hsz⟩ := okWide_struct Try.underlying27 hv
  obtain ⟨fuel, hf⟩ := h
  obtain ⟨t, ht, hL⟩ := open_cells fuel _ _ hf hlt
  refine ⟨t, ?_, hL⟩
  have e : cs = row8 t.k t.s t.lo t.hi (.slice t.a t.n t.cap) := by
    apply Array.ext'
    exact ht
  rw [e]; rfl
end Go.Proofs.Ytbahadgcmaabcaa
/- How an argument of type []uint8 is opened: a row of bytes in memory. -/
namespace Go.Proofs.Ytbahadgcmaabcaa
open Go.ChangeShapes Go.WideShapes Go.ChangeAt Go.RowKit Go.Joins
set_option maxRecDepth 100000 in
theorem cells5u : Try.prog.cellsOf 5 = 1 := by kernel_rfl
set_option maxRecDepth 100000 in
theorem u8_lt {a : Int} (h : (Lit.int .u8 a).wf = true) : 0 ≤ a ∧ a < 256 := by
  have := bounds_u8 h; omega
set_option maxRecDepth 100000 in
theorem add_flat (b off i : Nat) : (⟨b, off, none⟩ : Addr).add i = ⟨b, off + i, none⟩ := by unfold Addr.add; split <;> simp_all
set_option maxRecDepth 100000 in
theorem open_bytes {H : Type} {enc : TypeId × Value → H} {w : World} {b0 : Nat} {r : Reach} {v : Value} {d : DataW H} {p : List MemPlace}
    (hv : Value.okWide Try.prog w r b0 31 v) (h : DataW.Trod enc Try.prog w 0 (fun _ => true) true 31 v d p) (hlt : ∀ x ∈ p, x.block < w.heap.size) :
    ∃ (a : Option Addr) (n cap : Nat) (F : Nat → Int), v = .slice a n cap ∧ n ≤ cap ∧ cap ≤ maxLen ∧ ByteRow w a n F ∧ ∀ i, 0 ≤ F i ∧ F i < 256 := by
  obtain ⟨a0, len, cap, rfl⟩ := okWide_slice Try.underlying31 hv
  obtain ⟨fuel, hf⟩ := h
  rcases open_ints Try.underlying31 Try.underlying5 cells5u hf with ⟨hcs, hx⟩ | ⟨a, len', cap', zs, hcs, _, hl, hm, hz, hx, hcell, hwz⟩
  · simp [Value.cells] at hcs
    obtain ⟨rfl, rfl, rfl⟩ := hcs
    exact ⟨none, 0, 0, fun _ => 0, rfl, Nat.le_refl _, by unfold maxLen; omega, fun h => by omega, fun i => ⟨by simp, by simp⟩⟩
  · simp [Value.cells] at hcs
    obtain ⟨rfl, rfl, rfl⟩ := hcs
    simp only [Prod.mk.injEq] at hx
    obtain ⟨rfl, rfl⟩ := hx
    simp only [if_true] at hz
    refine ⟨some a, len, cap, fun i => zs.getD i 0, rfl, hl, hm, fun hp => ?_, fun i => ?_⟩
    · obtain ⟨b, off, spot⟩ := a
      have hspot : spot = none := by simpa [Addr.add] using World.cell?_spot (hcell 0 (by omega))
      subst hspot
      refine ⟨b, off, rfl, hlt (.cell b off) (MemPlace.mem_row.2 ⟨0, by omega, by simp⟩), fun i hi => ?_⟩
      rw [← add_flat, hcell i (by omega)]
    · show 0 ≤ zs.getD i 0 ∧ zs.getD i 0 < 256
      by_cases hi : i < zs.length
      · rw [List.getD_eq_getElem?_getD, List.getElem?_eq_getElem hi]
        exact u8_lt (hwz _ (List.getElem_mem hi))
      · rw [List.getD_eq_getElem?_getD, List.getElem?_eq_none (by omega)]
        exact ⟨by simp, by simp⟩
end Go.Proofs.Ytbahadgcmaabcaa
