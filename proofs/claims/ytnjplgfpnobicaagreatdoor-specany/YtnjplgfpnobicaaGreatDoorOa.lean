/- How an argument of type api.Spec is opened: a specification that lies in memory. -/
import Derived.Test.YtnjplgfpnobicaaGreatDoorOn
import Derived.Test.YtnjplgfpnobicaaGreatDoorCa
import Derived.SizedLaws
namespace Go.Proofs.YtnjplgfpnobicaaGreatDoor
open Go.ChangeShapes Go.WideShapes Go.ChangeAt Go.RowKit Go.Joins
set_option maxRecDepth 100000 in
theorem cellsCond : Tryz.prog.cellsOf 44 = 2 := by kernel_rfl
set_option maxRecDepth 100000 in
theorem cellsRule : Tryz.prog.cellsOf 42 = 22 := by kernel_rfl
set_option maxRecDepth 100000 in
theorem cellsSpec : Tryz.prog.cellsOf 25 = 3 := by kernel_rfl
set_option maxRecDepth 100000 in
theorem cellsNums : Tryz.prog.cellsOf 34 = 1 := by kernel_rfl
set_option maxRecDepth 100000 in
theorem cellsConds : Tryz.prog.cellsOf 22 = 1 := by kernel_rfl
set_option maxRecDepth 100000 in
theorem cellsRules : Tryz.prog.cellsOf 23 = 1 := by kernel_rfl
set_option maxRecDepth 100000 in
theorem cellsBool : Tryz.prog.cellsOf 4 = 1 := by kernel_rfl
set_option maxRecDepth 100000 in
theorem cellsStr : Tryz.prog.cellsOf 9 = 1 := by kernel_rfl
theorem weights_all {H : Type} {P : Program} {e : TypeId} : ∀ {l : List (DataW H)} {d : DataW H}, d ∈ l → ∀ n ∈ d.weights P e, n ∈ DataW.weightsAll P e l
  | _ :: _, _, .head _, n, hn => by simp only [DataW.weightsAll, List.mem_append]; exact Or.inl hn
  | _ :: _, _, .tail _ h, n, hn => by simp only [DataW.weightsAll, List.mem_append]; exact Or.inr (weights_all h n hn)
/-- All that a datum weighs is within reach. -/
def Light {H : Type} (t : TypeId) (d : DataW H) : Prop := ∀ k ∈ d.weights Tryz.prog t, k ≤ reachBytes
set_option maxRecDepth 100000 in
theorem bytesInt : Tryz.prog.bytesOf 3 = 8 := by kernel_rfl
set_option maxRecDepth 100000 in
theorem bytesCond : Tryz.prog.bytesOf 44 = 24 := by kernel_rfl
set_option maxRecDepth 100000 in
theorem bytesRule : 1 ≤ Tryz.prog.bytesOf 42 := of_decide_eq_true (by kernel_rfl)
set_option maxRecDepth 100000 in
/-- A row of things of one type, opened. -/
theorem open_row {H : Type} {enc : TypeId × Value → H} {w : World} {E T m : Nat} (ht : Tryz.prog.underlying T = some (.slice E)) (hE : Tryz.prog.cellsOf E = m) (hm0 : 0 < m) {α : Type} (row : α → List Value) (ok : α → Prop) (hlen : ∀ x, (row x).length = m) (dflt : α)
    (each : ∀ n cs x, DataW.trod enc Tryz.prog w 0 (fun _ => true) true n E cs = some x → (∀ y ∈ x.2, y.block < w.heap.size) → Light E x.1 → ∃ c, cs = row c ∧ ok c)
    {n : Nat} {cs : List Value} {x : DataW H × List MemPlace} (h : DataW.trod enc Tryz.prog w 0 (fun _ => true) true n T cs = some x) (hlt : ∀ y ∈ x.2, y.block < w.heap.size) (hwt : Light T x.1) :
    ∃ (a : Option Addr) (len cap : Nat) (F : Nat → α), cs = [.slice a len cap] ∧ len * Tryz.prog.bytesOf E ≤ reachBytes ∧ len ≤ cap ∧ cap ≤ maxLen ∧ (0 < len → ∃ g off, a = some ⟨g, off, none⟩ ∧ g < w.heap.size ∧ ∀ i, i < len → ∀ j v, (row (F i))[j]? = some v → w.cell? ⟨g, off + i * m + j, none⟩ = some v) ∧ ∀ i, i < len → ok (F i) := by
  rcases DataW.trod_slice ht h with ⟨hcs, hx⟩ | ⟨a, len, cap, elems, rest, k, rfl, hcs, hx, _, hl, hcm, hel, hget, hsp, _⟩
  · exact ⟨none, 0, 0, fun _ => dflt, hcs, by simp, Nat.le_refl _, by unfold maxLen; omega, fun h => absurd h (by omega), fun i h => absurd h (by omega)⟩
  · have hW := hwt
    unfold Light at hW
    rw [hx] at hW
    simp only [DataW.weights, ht, List.length_map, List.mem_cons, List.mem_append, forall_eq_or_imp] at hW
    have hlen2 : len * Tryz.prog.bytesOf E ≤ reachBytes := by
      refine Nat.le_trans (Nat.mul_le_mul_right _ ?_) hW.1
      omega
    have one : ∀ i, i < len → ∃ t : α, w.cells? 0 (a.add (i * m)) m = some (row t) ∧ ok t := by
      intro i hi
      have h1 := hget i hi
      rw [hE, List.getElem?_eq_getElem (by omega)] at h1
      obtain ⟨cs', q1, q2⟩ := Option.bind_eq_some_iff.1 h1
      obtain ⟨t, ht, hL⟩ := each k cs' _ q2 (fun y hy => hlt y (by
        rw [hx]
        refine List.mem_append_right _ (List.mem_flatMap.2 ⟨elems[i], List.mem_append_left _ (List.getElem_mem _), hy⟩)))
        (fun k hk => hW.2 k (Or.inl (weights_all (List.mem_map.2 ⟨elems[i], List.getElem_mem _, rfl⟩) k hk)))
      exact ⟨t, by rw [q1, ht], hL⟩
    obtain ⟨F, hF⟩ : ∃ F : Nat → α, ∀ i, i < len → w.cells? 0 (a.add (i * m)) m = some (row (F i)) ∧ ok (F i) := by
      refine ⟨fun i => if h : i < len then Classical.choose (one i h) else dflt, fun i hi => ?_⟩
      have := Classical.choose_spec (one i hi)
      simp only [hi, dif_pos]
      exact this
    refine ⟨some a, len, cap, F, hcs, hlen2, hl, hcm, fun hp => ?_, fun i hi => (hF i hi).2⟩
    obtain ⟨b, off, spot⟩ := a
    have hc : ∀ i, i < len → ∀ j v, (row (F i))[j]? = some v → w.cell? (((⟨b, off, spot⟩ : Addr).add (i * m)).add j) = some v := by
      intro i hi j v hv
      obtain ⟨_, hlen', hg⟩ := World.cells?_some (hF i hi).1
      have hj : j < m := by
        rcases Nat.lt_or_ge j m with q | q
        · exact q
        · rw [List.getElem?_eq_none (by rw [hlen]; exact q)] at hv; cases hv
      rw [hg j hj, hv]
    have hspot : spot = none := by
      obtain ⟨v, hv⟩ : ∃ v, (row (F 0))[0]? = some v := ⟨_, List.getElem?_eq_getElem (by rw [hlen]; exact hm0)⟩
      simpa [Addr.add] using World.cell?_spot (hc 0 hp 0 _ hv)
    subst hspot
    refine ⟨b, off, rfl, hlt (.cell b off) (by rw [hx]; exact List.mem_append_left _ (MemPlace.mem_row.2 ⟨0, by rw [hE, hel]; exact Nat.mul_pos (by omega) hm0, by simp⟩)), fun i hi j v hv => ?_⟩
    have := hc i hi j v hv
    rw [add_plain, add_plain] at this
    exact this
set_option maxRecDepth 100000 in
theorem open_cond {H : Type} {enc : TypeId × Value → H} {w : World} (fuel : Nat) (cs : List Value) (x : DataW H × List MemPlace) (h : DataW.trod enc Tryz.prog w 0 (fun _ => true) true fuel 44 cs = some x) (_ : ∀ y ∈ x.2, y.block < w.heap.size) (_ : Light 44 x.1) : ∃ c : Cn, cs = (row2 c).toList ∧ c.nm.size ≤ maxLen := by
  obtain ⟨xs, n, rfl, rfl, hl, hxl, hf⟩ := DataW.trod_struct Tryz.underlying44 h
  rw [cellsCond] at hl
  match cs, hl with
  | [c0, c1], _ =>
  match xs, hxl with
  | [y0, y1], _ =>
  have g0 : DataW.trod enc Tryz.prog w 0 (fun _ => true) true n 9 (([c0, c1].drop 0).take (Tryz.prog.cellsOf 9)) = some y0 := hf 0 _ rfl
  have g1 : DataW.trod enc Tryz.prog w 0 (fun _ => true) true n 4 (([c0, c1].drop 1).take (Tryz.prog.cellsOf 4)) = some y1 := hf 1 _ rfl
  rw [cellsStr] at g0
  rw [cellsBool] at g1
  change DataW.trod enc Tryz.prog w 0 (fun _ => true) true n 9 [c0] = some y0 at g0
  change DataW.trod enc Tryz.prog w 0 (fun _ => true) true n 4 [c1] = some y1 at g1
  obtain ⟨s, e0, _, hs⟩ := DataW.trod_string Tryz.underlying9 g0
  obtain ⟨b, e1, _⟩ := DataW.trod_bool Tryz.underlying4 g1
  simp at e0 e1
  subst e0 e1
  exact ⟨⟨s, b⟩, rfl, hs⟩
theorem row22_get (r : Rl) (w : World) (g o : Nat) (h : ∀ j v, (row22 r).toList[j]? = some v → w.cell? ⟨g, o + j, none⟩ = some v) : At22 w g o r :=
  ⟨h 0 _ rfl, h 1 _ rfl, h 2 _ rfl, h 3 _ rfl, h 4 _ rfl, h 5 _ rfl, h 6 _ rfl, h 7 _ rfl, h 8 _ rfl, h 9 _ rfl, h 10 _ rfl, h 11 _ rfl, h 12 _ rfl, h 13 _ rfl, h 14 _ rfl, h 15 _ rfl, h 16 _ rfl, h 17 _ rfl, h 18 _ rfl, h 19 _ rfl, h 20 _ rfl, h 21 _ rfl⟩
set_option maxRecDepth 100000 in
theorem open_nums {H : Type} {enc : TypeId × Value → H} {w : World} {n : Nat} {cs : List Value} {x : DataW H × List MemPlace} (h : DataW.trod enc Tryz.prog w 0 (fun _ => true) true n 34 cs = some x) (hlt : ∀ y ∈ x.2, y.block < w.heap.size) (hwt : Light 34 x.1) :
    ∃ (a : Option Addr) (len cap : Nat) (F : Nat → Int), cs = [.slice a len cap] ∧ len ≤ 140737488355328 ∧ IntsIn w w.heap.size a len cap F := by
  obtain ⟨a, len, cap, F, hcs, h0, h1, h2, h3, h4⟩ := open_row (m := 1) Tryz.underlying34 cells3 (by omega) (fun i : Int => [Value.int .i64 i]) (fun i => -9223372036854775808 ≤ i ∧ i ≤ 9223372036854775807) (fun _ => rfl) 0
    (fun k cs y hy _ _ => by
      obtain ⟨z, e, _, hw⟩ := DataW.trod_int Tryz.underlying3 hy
      exact ⟨z, e, bounds_i64 hw⟩) h hlt hwt
  rw [bytesInt] at h0
  have hr := reachBytes_lt
  refine ⟨a, len, cap, F, hcs, by omega, h1, h2, fun hp => ?_, h4⟩
  obtain ⟨g, off, ha, hg, hc⟩ := h3 hp
  refine ⟨g, off, ha, hg, fun i hi => ?_⟩
  have := hc i hi 0 _ rfl
  simpa using this
set_option maxRecDepth 100000 in
theorem open_rule {H : Type} {enc : TypeId × Value → H} {w : World} (fuel : Nat) (cs : List Value) (x : DataW H × List MemPlace) (h : DataW.trod enc Tryz.prog w 0 (fun _ => true) true fuel 42 cs = some x) (hlt : ∀ y ∈ x.2, y.block < w.heap.size) (hwt : Light 42 x.1) : ∃ r : Rl, cs = (row22 r).toList ∧ RlIn w w.heap.size r ∧ r.cn ≤ 140737488355328 := by
  obtain ⟨xs, n, rfl, rfl, hl, hxl, hf⟩ := DataW.trod_struct Tryz.underlying42 h
  rw [cellsRule] at hl
  match cs, hl with
  | [c0, c1, c2, c3, c4, c5, c6, c7, c8, c9, c10, c11, c12, c13, c14, c15, c16, c17, c18, c19, c20, c21], _ =>
  match xs, hxl with
  | [y0, y1, y2, y3, y4, y5, y6, y7], _ =>
  have g0 : DataW.trod enc Tryz.prog w 0 (fun _ => true) true n 34 (([c0, c1, c2, c3, c4, c5, c6, c7, c8, c9, c10, c11, c12, c13, c14, c15, c16, c17, c18, c19, c20, c21].drop 0).take (Tryz.prog.cellsOf 34)) = some y0 := hf 0 _ rfl
  have g1 : DataW.trod enc Tryz.prog w 0 (fun _ => true) true n 4 (([c0, c1, c2, c3, c4, c5, c6, c7, c8, c9, c10, c11, c12, c13, c14, c15, c16, c17, c18, c19, c20, c21].drop 1).take (Tryz.prog.cellsOf 4)) = some y1 := hf 1 _ rfl
  have g2 : DataW.trod enc Tryz.prog w 0 (fun _ => true) true n 4 (([c0, c1, c2, c3, c4, c5, c6, c7, c8, c9, c10, c11, c12, c13, c14, c15, c16, c17, c18, c19, c20, c21].drop 2).take (Tryz.prog.cellsOf 4)) = some y2 := hf 2 _ rfl
  have g3 : DataW.trod enc Tryz.prog w 0 (fun _ => true) true n 40 (([c0, c1, c2, c3, c4, c5, c6, c7, c8, c9, c10, c11, c12, c13, c14, c15, c16, c17, c18, c19, c20, c21].drop 3).take (Tryz.prog.cellsOf 40)) = some y3 := hf 3 _ rfl
  have g4 : DataW.trod enc Tryz.prog w 0 (fun _ => true) true n 40 (([c0, c1, c2, c3, c4, c5, c6, c7, c8, c9, c10, c11, c12, c13, c14, c15, c16, c17, c18, c19, c20, c21].drop 11).take (Tryz.prog.cellsOf 40)) = some y4 := hf 4 _ rfl
  have g5 : DataW.trod enc Tryz.prog w 0 (fun _ => true) true n 4 (([c0, c1, c2, c3, c4, c5, c6, c7, c8, c9, c10, c11, c12, c13, c14, c15, c16, c17, c18, c19, c20, c21].drop 19).take (Tryz.prog.cellsOf 4)) = some y5 := hf 5 _ rfl
  have g6 : DataW.trod enc Tryz.prog w 0 (fun _ => true) true n 3 (([c0, c1, c2, c3, c4, c5, c6, c7, c8, c9, c10, c11, c12, c13, c14, c15, c16, c17, c18, c19, c20, c21].drop 20).take (Tryz.prog.cellsOf 3)) = some y6 := hf 6 _ rfl
  have g7 : DataW.trod enc Tryz.prog w 0 (fun _ => true) true n 3 (([c0, c1, c2, c3, c4, c5, c6, c7, c8, c9, c10, c11, c12, c13, c14, c15, c16, c17, c18, c19, c20, c21].drop 21).take (Tryz.prog.cellsOf 3)) = some y7 := hf 7 _ rfl
  rw [cellsNums] at g0
  rw [cellsBool] at g1 g2 g5
  rw [cells27] at g3 g4
  rw [cells3] at g6 g7
  change DataW.trod enc Tryz.prog w 0 (fun _ => true) true n 34 [c0] = some y0 at g0
  change DataW.trod enc Tryz.prog w 0 (fun _ => true) true n 4 [c1] = some y1 at g1
  change DataW.trod enc Tryz.prog w 0 (fun _ => true) true n 4 [c2] = some y2 at g2
  change DataW.trod enc Tryz.prog w 0 (fun _ => true) true n 40 [c3, c4, c5, c6, c7, c8, c9, c10] = some y3 at g3
  change DataW.trod enc Tryz.prog w 0 (fun _ => true) true n 40 [c11, c12, c13, c14, c15, c16, c17, c18] = some y4 at g4
  change DataW.trod enc Tryz.prog w 0 (fun _ => true) true n 4 [c19] = some y5 at g5
  change DataW.trod enc Tryz.prog w 0 (fun _ => true) true n 3 [c20] = some y6 at g6
  change DataW.trod enc Tryz.prog w 0 (fun _ => true) true n 3 [c21] = some y7 at g7
  have hW0 : Light 34 y0.1 := fun k hk => hwt k (by
    show k ∈ DataW.weights Tryz.prog 42 (.agg _)
    unfold DataW.weights
    rw [Tryz.underlying42]
    exact DataW.weights_mem_each (j := 0) rfl rfl k hk)
  obtain ⟨a, len, cap, F, e0, hcn, hI⟩ := open_nums g0 (fun y hy => hlt y (by simp [hy])) hW0
  obtain ⟨al, e1, _⟩ := DataW.trod_bool Tryz.underlying4 g1
  obtain ⟨bo, e2, _⟩ := DataW.trod_bool Tryz.underlying4 g2
  obtain ⟨t, e3, hT⟩ := open_cells n _ _ g3 (fun y hy => hlt y (by simp [hy]))
  obtain ⟨u, e4, hU⟩ := open_cells n _ _ g4 (fun y hy => hlt y (by simp [hy]))
  obtain ⟨ef, e5, _⟩ := DataW.trod_bool Tryz.underlying4 g5
  obtain ⟨ac, e6, _⟩ := DataW.trod_int Tryz.underlying3 g6
  obtain ⟨to, e7, _⟩ := DataW.trod_int Tryz.underlying3 g7
  simp only [List.cons.injEq, and_true] at e0 e1 e2 e3 e4 e5 e6 e7
  obtain ⟨rfl, rfl, rfl, rfl, rfl, rfl, rfl, rfl⟩ := e3
  obtain ⟨rfl, rfl, rfl, rfl, rfl, rfl, rfl, rfl⟩ := e4
  subst e0 e1 e2 e5 e6 e7
  exact ⟨⟨a, len, cap, F, al, bo, t, u, ef, ac, to⟩, rfl, ⟨hI, hT, hU⟩, hcn⟩
/-- Rows that a machine could hold. -/
def Szd (s : Sp) : Prop := s.cs.n ≤ 140737488355328 ∧ s.rs.n ≤ 140737488355328 ∧ ∀ i, i < s.rs.n → (s.rs.r i).cn ≤ 140737488355328
set_option maxRecDepth 100000 in
theorem open_spec {H : Type} {enc : TypeId × Value → H} {w : World} {b0 : Nat} {r : Reach} {v : Value} {d : DataW H} {p : List MemPlace}
    (hv : Value.okWide Tryz.prog w r b0 25 v) (h : DataW.Trod enc Tryz.prog w 0 (fun _ => true) true 25 v d p) (hlt : ∀ x ∈ p, x.block < w.heap.size) (hwt : Light 25 d) : ∃ s : Sp, v = specV s ∧ SpIn w s ∧ Szd s := by
  obtain ⟨cs, rfl, hsz⟩ := okWide_struct Tryz.underlying25 hv
  obtain ⟨fuel, hf⟩ := h
  change DataW.trod enc Tryz.prog w 0 (fun _ => true) true fuel 25 cs.toList = some (d, p) at hf
  obtain ⟨cs⟩ := cs
  obtain ⟨xs, n, rfl, hdp, hl, hxl, hg⟩ := DataW.trod_struct Tryz.underlying25 hf
  obtain ⟨rfl, rfl⟩ := Prod.mk.inj hdp
  rw [cellsSpec] at hl
  dsimp only at hl hg
  match cs, hl with
  | [c0, c1, c2], _ =>
  match xs, hxl with
  | [y0, y1, y2], _ =>
  have g0 : DataW.trod enc Tryz.prog w 0 (fun _ => true) true n 22 (([c0, c1, c2].drop 0).take (Tryz.prog.cellsOf 22)) = some y0 := hg 0 _ rfl
  have g1 : DataW.trod enc Tryz.prog w 0 (fun _ => true) true n 4 (([c0, c1, c2].drop 1).take (Tryz.prog.cellsOf 4)) = some y1 := hg 1 _ rfl
  have g2 : DataW.trod enc Tryz.prog w 0 (fun _ => true) true n 23 (([c0, c1, c2].drop 2).take (Tryz.prog.cellsOf 23)) = some y2 := hg 2 _ rfl
  rw [cellsConds] at g0
  rw [cellsBool] at g1
  rw [cellsRules] at g2
  change DataW.trod enc Tryz.prog w 0 (fun _ => true) true n 22 [c0] = some y0 at g0
  change DataW.trod enc Tryz.prog w 0 (fun _ => true) true n 4 [c1] = some y1 at g1
  change DataW.trod enc Tryz.prog w 0 (fun _ => true) true n 23 [c2] = some y2 at g2
  have hWs : ∀ (j : Nat) (t : TypeId) (y : DataW H × List MemPlace), [22, 4, 23][j]? = some t → [y0, y1, y2][j]? = some y → Light t y.1 := fun j t y hj hy k hk => hwt k (by
    show k ∈ DataW.weights Tryz.prog 25 (.agg _)
    unfold DataW.weights
    rw [Tryz.underlying25]
    exact DataW.weights_mem_each (j := j) hj (by rw [List.getElem?_map, hy]; rfl) k hk)
  obtain ⟨a, len, cap, F, e0, h0, h1, h2, h3, h4⟩ := open_row (m := 2) Tryz.underlying22 cellsCond (by omega) (fun c : Cn => (row2 c).toList) (fun c => c.nm.size ≤ maxLen) (fun _ => rfl) ⟨⟨#[]⟩, false⟩ open_cond g0 (fun y hy => hlt y (by simp [hy])) (hWs 0 _ _ rfl rfl)
  obtain ⟨df, e1, _⟩ := DataW.trod_bool Tryz.underlying4 g1
  obtain ⟨a', len', cap', F', e2, k0, k1, k2, k3, k4⟩ := open_row (m := 22) Tryz.underlying23 cellsRule (by omega) (fun r : Rl => (row22 r).toList) (fun r => RlIn w w.heap.size r ∧ r.cn ≤ 140737488355328) (fun _ => rfl) ⟨none, 0, 0, fun _ => 0, false, false, .nul, .nul, false, 0, 0⟩ open_rule g2 (fun y hy => hlt y (by simp [hy])) (hWs 2 _ _ rfl rfl)
  simp only [List.cons.injEq, and_true] at e0 e1 e2
  subst e0 e1 e2
  refine ⟨⟨⟨a, len, cap, F⟩, df, ⟨a', len', cap', F'⟩⟩, rfl, ⟨⟨h1, h2, fun hp => ?_, h4⟩, ⟨k1, k2, fun hp => ?_, fun i hi => (k4 i hi).1⟩⟩, ?_⟩
  · obtain ⟨g, off, ha, hgl, hc⟩ := h3 hp
    exact ⟨g, off, ha, hgl, fun i hi => ⟨hc i hi 0 _ rfl, hc i hi 1 _ rfl⟩⟩
  · obtain ⟨g, off, ha, hgl, hc⟩ := k3 hp
    exact ⟨g, off, ha, hgl, fun i hi => row22_get _ _ _ _ (hc i hi)⟩
  · have hr := reachBytes_lt
    have hb := bytesRule
    rw [bytesCond] at h0
    refine ⟨by show len ≤ _; omega, ?_, fun i hi => (k4 i hi).2⟩
    show len' ≤ _
    have : len' * 1 ≤ len' * Tryz.prog.bytesOf 42 := Nat.mul_le_mul_left _ hb
    omega
end Go.Proofs.YtnjplgfpnobicaaGreatDoor
