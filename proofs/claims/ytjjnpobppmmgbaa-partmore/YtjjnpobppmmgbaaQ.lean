/- Contract of the law's own Runs: some sets, at most 10, in a slice of the call's own. -/
import Derived.Test.YtjjnpobppmmgbaaC
import Derived.Deep.AppendLies
namespace Go.Proofs.Ytjjnpobppmmgbaa
open Go.RowKit
theorem info36 : (Try.prog.info? 36).map (fun i => (i.zero, i.size, i.bytes)) = some (some (.agg #[.int .u64 0, .int .u64 0, .int .u64 0, .int .u64 0]), 4, 32) := by kernel_rfl
/-- Some sets' words, one behind the other. -/
def flat4 (fs : List (Nat → Int)) : List Value := fs.flatMap fun f => [.int .u64 (f 0), .int .u64 (f 1), .int .u64 (f 2), .int .u64 (f 3)]
theorem flat4_length (fs : List (Nat → Int)) : (flat4 fs).length = fs.length * 4 := by
  induction fs with
  | nil => rfl
  | cons f r ih => simp [flat4] at ih ⊢; omega
theorem flat4_append (fs gs : List (Nat → Int)) : flat4 (fs ++ gs) = flat4 fs ++ flat4 gs := by simp [flat4]
theorem flat4_get : ∀ (fs : List (Nat → Int)) (i k : Nat), i < fs.length → k < 4 → (flat4 fs)[i * 4 + k]? = some (.int .u64 (getF fs i k))
  | [], _, _, h, _ => by simp at h
  | f :: r, 0, k, _, hk => by
    match k, hk with
    | 0, _ => rfl
    | 1, _ => rfl
    | 2, _ => rfl
    | 3, _ => rfl
  | f :: r, i + 1, k, h, hk => by
    have := flat4_get r i k (by simpa using h) hk
    rw [show (i + 1) * 4 + k = (i * 4 + k) + 4 by omega]
    simpa [flat4, getF] using this
theorem sets_of_row {w : World} {base : Nat} {v : Value} {fs : List (Nat → Int)} (o : w.ownsRow base 36 4 v fs.length (flat4 fs)) (hl : fs.length ≤ 1000) : SetsAt w v fs := by
  obtain ⟨a, cap, rfl⟩ := row_slice o
  refine ⟨a, cap, rfl, hl, fun hp => ?_⟩
  obtain ⟨g, cap', hv, _, hg, _, _, hc⟩ := row_cells o hp
  cases hv
  refine ⟨g, 0, rfl, hg, fun i hi k hk => ?_⟩
  rw [Nat.zero_add]
  exact hc _ _ (flat4_get fs i k hi hk)
/-- A call that answers a set. -/
def GivesSet (w : World) (e : Ending) (w' : World) : Prop := ∃ f : Nat → Int, e = .returned (SV f) ∧ Below w.heap.size w w'
theorem of_some (x y : Int) {w wx : World} (hB : Below w.heap.size w wx) : Calls Try.prog 17 #[.int .i64 x, .int .i64 y] wx (GivesSet w) :=
  (refof_any x y wx).mono fun _ _ ⟨he, hb⟩ => ⟨_, he, hB.trans (hb.mono hB.size)⟩
theorem or_some (f g : Nat → Int) {w wx : World} (hB : Below w.heap.size w wx) : Calls Try.prog 19 #[SV f, SV g] wx (GivesSet w) :=
  (refor_any f g wx).mono fun _ _ ⟨he, hb⟩ => ⟨_, he, hB.trans (hb.mono hB.size)⟩
/-- A call that answers a set, behind a new block for it. -/
def GivesSetNew (w : World) (p : Nat) (e : Ending) (w' : World) : Prop :=
  ∃ f : Nat → Int, e = .returned (SV f) ∧ Below w.heap.size w w' ∧ Hid (w'.heap[p]? = some (.cells (row4 fun _ => 0) 36 (0, 0))) ∧
    (w'.cell? ⟨p, 0, none⟩ = some (.int .u64 0) ∧ w'.cell? ⟨p, 1, none⟩ = some (.int .u64 0) ∧ w'.cell? ⟨p, 2, none⟩ = some (.int .u64 0) ∧ w'.cell? ⟨p, 3, none⟩ = some (.int .u64 0)) ∧
    (w'.frozen? ⟨p, 0, none⟩ = false ∧ w'.frozen? ⟨p, 1, none⟩ = false ∧ w'.frozen? ⟨p, 2, none⟩ = false ∧ w'.frozen? ⟨p, 3, none⟩ = false)
theorem of_new (x y : Int) {w wx : World} {p : Nat} (hB : Below w.heap.size w wx) (hN : wx.heap[p]? = some (.cells (row4 fun _ => 0) 36 (0, 0))) (hp : p < wx.heap.size) : Calls Try.prog 17 #[.int .i64 x, .int .i64 y] wx (GivesSetNew w p) :=
  (refof_any x y wx).mono fun _ w' ⟨he, hb⟩ =>
    have h : w'.heap[p]? = some (.cells (row4 fun _ => 0) 36 (0, 0)) := (hb.block p hp).trans hN
    ⟨_, he, hB.trans (hb.mono hB.size), Lib.hid h, ⟨cell4 h 0 (by omega), cell4 h 1 (by omega), cell4 h 2 (by omega), cell4 h 3 (by omega)⟩,
      ⟨frozen_of_row _ _ 0 _ _ h, frozen_of_row _ _ 1 _ _ h, frozen_of_row _ _ 2 _ _ h, frozen_of_row _ _ 3 _ _ h⟩⟩
theorem of_new_at (x y : Int) (w : World) : Calls Try.prog 17 #[.int .i64 x, .int .i64 y] (w.alloc (.cells (row4 fun _ => 0) 36 (0, 0))).drew (GivesSetNew w w.heap.size) :=
  of_new x y (((Below.refl _ _).alloc (Nat.le_refl _) _).drew) (heap_alloc_new w _) (by show w.heap.size < (w.heap.push _).size; simp)
/-- What Runs leaves. -/
def GivesSets (w : World) (e : Ending) (w' : World) : Prop := ∃ (v : Value) (fs : List (Nat → Int)), e = .returned v ∧ fs.length ≤ 10 ∧ (fs.length = 0 → v = .slice none 0 0) ∧ w'.ownsRow w.heap.size 36 4 v fs.length (flat4 fs) ∧ Below w.heap.size w w'
def RunsRel (m : Nat) (w : World) (out i : Value) (wr : World) : Prop := ∃ (j : Nat) (fs : List (Nat → Int)), j ≤ m ∧ i = .int .i64 j ∧ fs.length = j ∧ wr.ownsRow w.heap.size 36 4 out j (flat4 fs) ∧ Below w.heap.size w wr
theorem keepQ {w w1 : World} {g o : Nat} {x y : Int} (hg : g < w.heap.size) (c0 : w.cell? ⟨g, o, none⟩ = some (.int .u8 x)) (c1 : w.cell? ⟨g, o + 1, none⟩ = some (.int .u8 y)) (h : Below w.heap.size w w1) :
    Below w.heap.size w w1 ∧ w1.cell? ⟨g, o, none⟩ = some (.int .u8 x) ∧ w1.cell? ⟨g, o + 1, none⟩ = some (.int .u8 y) :=
  ⟨h, (h.cell (p := ⟨g, o, none⟩) hg).trans c0, (h.cell (p := ⟨g, o + 1, none⟩) hg).trans c1⟩
/-- What the second statement of a round reads. -/
def Six (w : World) (g o p : Nat) (x y : Int) (f : Nat → Int) : Prop :=
  w.cell? ⟨g, o + 2, none⟩ = some (.int .u8 x) ∧ w.cell? ⟨g, o + 3, none⟩ = some (.int .u8 y) ∧ w.cell? ⟨p, 0, none⟩ = some (.int .u64 (f 0)) ∧ w.cell? ⟨p, 1, none⟩ = some (.int .u64 (f 1)) ∧ w.cell? ⟨p, 2, none⟩ = some (.int .u64 (f 2)) ∧ w.cell? ⟨p, 3, none⟩ = some (.int .u64 (f 3))
theorem keepB {w w1 : World} {g o p : Nat} {x y : Int} {f : Nat → Int} (h : Hid (Six w g o p x y f)) (hg : g < w.heap.size) (hp : p < w.heap.size) (hb : Below w.heap.size w w1) : Six w1 g o p x y f := by
  obtain ⟨a, b, c, d, e, i⟩ := h.out
  have eg : ∀ k, w1.cell? ⟨g, k, none⟩ = w.cell? ⟨g, k, none⟩ := fun k => hb.cell (p := ⟨g, k, none⟩) hg
  have ep : ∀ k, w1.cell? ⟨p, k, none⟩ = w.cell? ⟨p, k, none⟩ := fun k => hb.cell (p := ⟨p, k, none⟩) hp
  exact ⟨(eg _).trans a, (eg _).trans b, (ep _).trans c, (ep _).trans d, (ep _).trans e, (ep _).trans i⟩
theorem keepA {w wb w1 : World} {ob : Obj} {row : Option Nat} {g o p : Nat} {x y : Int} {f : Nat → Int} (h : Hid (Six w g o p x y f)) (hg : g < w.heap.size) (hp : p < w.heap.size) (hb : Below w.heap.size w wb) (hw : (wb.alloc ob).grownBy w1 row) (ng : some g ≠ row) (np : some p ≠ row) : Six w1 g o p x y f := by
  obtain ⟨a, b, c, d, e, i⟩ := (keepB h hg hp (hb.alloc hb.size ob) : Six (wb.alloc ob) g o p x y f)
  have hs : w.heap.size ≤ (wb.alloc ob).heap.size := (hb.alloc hb.size ob).size
  have eg : ∀ k, w1.cell? ⟨g, k, none⟩ = (wb.alloc ob).cell? ⟨g, k, none⟩ := fun k => World.cell?_of_block (hw.block g (by omega) ng)
  have ep : ∀ k, w1.cell? ⟨p, k, none⟩ = (wb.alloc ob).cell? ⟨p, k, none⟩ := fun k => World.cell?_of_block (hw.block p (by omega) np)
  exact ⟨(eg _).trans a, (eg _).trans b, (ep _).trans c, (ep _).trans d, (ep _).trans e, (ep _).trans i⟩
set_option maxHeartbeats 1000000 in
theorem runs_none (ad : Option Addr) (cap : Nat) (w : World) : Calls Try.prog 10 #[.slice ad 0 cap] w (GivesSets w) := by
  go_enter Try.func10, Try.ntmps10
  go_wp2
  refine wp_loop_rounds 1 ?_
  rw [rounds_succ]
  go_wp2
  go_ret
  exact ⟨_, [], rfl, by simp, fun _ => rfl, World.ownsRow_nil _ _ _ _, Below.refl _ _⟩
set_option maxRecDepth 100000 in
set_option maxHeartbeats 8000000 in
theorem runs_some (qs : List (Nat → Int)) (n m g off cap : Nat) (w : World) (hl : n ≤ maxLen) (hn0 : 0 < n) (hm : Hid (m = min n 10)) (hg : g < w.heap.size)
    (hq : Hid (∀ i, i < n → ∀ k, k < 4 → 0 ≤ getF qs i k ∧ getF qs i k ≤ 255))
    (hc : Hid (∀ i, i < n → ∀ k, k < 4 → w.cell? ⟨g, off + i * 4 + k, none⟩ = some (.int .u8 (getF qs i k)))) : Calls Try.prog 10 #[.slice (some ⟨g, off, none⟩) n cap] w (GivesSets w) := by
  obtain ⟨i0, hi, hz0, hz1, hz2⟩ := info_parts info36
  unfold maxLen at hl
  go_enter Try.func10, Try.ntmps10
  go_wp2
  go_loopw [3, 4] (fun out i wr => RunsRel m w out i wr) (fun _ i _ => m - (intOf i).toNat)
  case atStart => exact ⟨0, [], by omega, rfl, rfl, World.ownsRow_nil _ _ _ _, Below.refl _ _⟩
  case round =>
    obtain ⟨j, fs, hj, rfl, hfl, hown, hb⟩ := hrel
    have HF := Lib.hid hfl
    clear hfl
    by_cases hlt : j < m
    · have hjn : j < n := by have := hm.out; omega
      have hj10 : j < 10 := by have := hm.out; omega
      have hgr : g < wr.heap.size := Nat.lt_of_lt_of_le hg hb.size
      obtain ⟨b00, b01⟩ := hq.out j hjn 0 (by omega)
      obtain ⟨b10, b11⟩ := hq.out j hjn 1 (by omega)
      obtain ⟨b20, b21⟩ := hq.out j hjn 2 (by omega)
      obtain ⟨b30, b31⟩ := hq.out j hjn 3 (by omega)
      have c0 : wr.cell? ⟨g, off + j * 4, none⟩ = _ := (hb.cell (p := ⟨g, off + j * 4, none⟩) hg).trans (hc.out j hjn 0 (by omega))
      have c1 := (hb.cell (p := ⟨g, off + j * 4 + 1, none⟩) hg).trans (hc.out j hjn 1 (by omega))
      have c2 := (hb.cell (p := ⟨g, off + j * 4 + 2, none⟩) hg).trans (hc.out j hjn 2 (by omega))
      have c3 := (hb.cell (p := ⟨g, off + j * 4 + 3, none⟩) hg).trans (hc.out j hjn 3 (by omega))
      have HC2 := Lib.hid c2
      have HC3 := Lib.hid c3
      generalize getF qs j 0 = q0 at *
      generalize getF qs j 1 = q1 at *
      generalize getF qs j 2 = q2 at *
      generalize getF qs j 3 = q3 at *
      clear c2 c3
      have i1 : (j : Int) < (n : Int) := by omega
      go_wp2_with fail
      go_region_held3 (fun w' => Below wr.heap.size wr w' ∧ w'.cell? ⟨g, off + j * 4, none⟩ = some (.int .u8 q0) ∧ w'.cell? ⟨g, off + j * 4 + 1, none⟩ = some (.int .u8 q1))
        ((refine keepQ hgr c0 c1 ?_; first | assumption | exact (Below.refl _ _).drew | exact ((Below.refl _ _).drew).alloc (by simp) _ | exact (hBz.alloc hBz.size _) | exact put4_below f hBz (Nat.le_refl _)))
        (first | (go_at_call 17; refine (of_new_at _ _ wr).mono ?_; rintro e wz ⟨f, rfl, hBz, HZ, ⟨z0, z1, z2, z3⟩, ⟨k0, k1, k2, k3⟩⟩) | (go_at_call 17; go_split_ands; refine (of_some (w := wr) _ _ ?_).mono ?_; assumption; rintro e wz ⟨f, rfl, hBz⟩))
      · have HP := Lib.hid (heap_alloc_new wz (.cells (row4 f) 36 (0, 0)))
        have hBq := hBz.alloc hBz.size (.cells (row4 f) 36 (0, 0))
        have hp : wz.heap.size < (wz.alloc (.cells (row4 f) 36 (0, 0))).heap.size := by simp
        have hpr : wr.heap.size ≤ wz.heap.size := hBz.size
        go_wp2_with fail
        generalize wz.alloc (.cells (row4 f) 36 (0, 0)) = wq at *
        generalize wz.heap.size = p at *
        · clear hBz c0 c1
          have h6 : Six wq g (off + j * 4) p q2 q3 f := ⟨(hBq.cell (p := ⟨g, _, none⟩) hgr).trans HC2.out, (hBq.cell (p := ⟨g, _, none⟩) hgr).trans HC3.out, cell4 HP.out 0 (by omega), cell4 HP.out 1 (by omega), cell4 HP.out 2 (by omega), cell4 HP.out 3 (by omega)⟩
          have H6 := Lib.hid h6
          have hgq : g < wq.heap.size := Nat.lt_of_lt_of_le hgr hBq.size
          have ng : some g ≠ u3.ownBlock := fun e => by have := own_ge hown g e.symm; omega
          have np : some p ≠ u3.ownBlock := fun e => by have := (hown.lt p e.symm).2; omega
          have hws : w.heap.size ≤ wr.heap.size := hb.size
          obtain ⟨s0, s1, s2, s3, s4, s5⟩ := h6
          go_region_held3 (fun w' => w'.cell? ⟨g, off + j * 4 + 2, none⟩ = some (.int .u8 q2) ∧ w'.cell? ⟨g, off + j * 4 + 3, none⟩ = some (.int .u8 q3) ∧ w'.cell? ⟨p, 0, none⟩ = some (.int .u64 (f 0)) ∧ w'.cell? ⟨p, 1, none⟩ = some (.int .u64 (f 1)) ∧ w'.cell? ⟨p, 2, none⟩ = some (.int .u64 (f 2)) ∧ w'.cell? ⟨p, 3, none⟩ = some (.int .u64 (f 3)))
            (first | exact keepB H6 hgq hp (Below.refl _ _).drew | exact keepB H6 hgq hp hBa | exact keepB H6 hgq hp hBb | exact keepB H6 hgq hp (hBb.alloc hBb.size _) | exact keepA H6 hgq hp hBb hgrow ng np)
            (first
              | (go_at_call 17; refine (of_some (w := wq) _ _ (Below.refl _ _).drew).mono ?_; rintro e wa ⟨f2, rfl, hBa⟩)
              | (go_at_call 19; refine (or_some (w := wq) f f2 hBa).mono ?_; rintro e wb ⟨f3, rfl, hBb⟩)
              | (refine step_append_lies _ (by rfl) _ _ _ (by rfl) w.heap.size 36 i0 _ 4 32 Try.underlying22 hi hz0 hz1 hz2 rfl (by omega) u3 j (flat4 fs) (by rfl) ((ownsRow_below hown (hBq.trans (hBb.mono hBq.size))).alloc _) ⟨wb.heap.size, 0, none⟩ 1 1 [.int .u64 (f3 0), .int .u64 (f3 1), .int .u64 (f3 2), .int .u64 (f3 3)] (by rfl) (by rfl) (World.news_of_block (cs := row4 f3) (t := 36) (fr := (0, 0)) (heap_alloc_new wb _)) (by simp [Value.oneCell']) (by omega) (by unfold maxLen; omega) (by omega) (by have h1 := hBq.size; have h2 := hBb.size; simp; omega) (wb.heap.size + 1) (by simp) ?_; intro gg cap w1 hown1 hgrow hat hlt))
          have hBw : Below w.heap.size w wb := (hb.trans (hBq.mono hb.size)).trans (hBb.mono (Nat.le_trans hb.size hBq.size))
          have hB1 : Below w.heap.size w w1 := (hBw.alloc hBw.size _).grown hgrow (by simp; have := hBw.size; omega) (fun k hk => own_ge hown k hk)
          clear hgrow hat hlt s0 s1 s2 s3 s4 s5
          go_wp2
          go_roundw
          case rel => exact ⟨j + 1, fs ++ [f3], by omega, by go_num, by simp [HF.out], by rw [flat4_append]; exact hown1, hB1⟩
          case measure => simp [intOf]; omega
      · have hpz : wr.heap.size < wz.heap.size := by
          rcases Nat.lt_or_ge wr.heap.size wz.heap.size with h | h
          · exact h
          · have := HZ.out; rw [Array.getElem?_eq_none h] at this; cases this
        have HP := Lib.hid (stored4 f HZ.out)
        have hBq : Below wr.heap.size wr ((((wz.setCell ⟨wr.heap.size, 0, none⟩ (.int .u64 (f 0))).setCell ⟨wr.heap.size, 1, none⟩ (.int .u64 (f 1))).setCell ⟨wr.heap.size, 2, none⟩ (.int .u64 (f 2))).setCell ⟨wr.heap.size, 3, none⟩ (.int .u64 (f 3))) := put4_below f hBz (Nat.le_refl _)
        have hp : wr.heap.size < ((((wz.setCell ⟨wr.heap.size, 0, none⟩ (.int .u64 (f 0))).setCell ⟨wr.heap.size, 1, none⟩ (.int .u64 (f 1))).setCell ⟨wr.heap.size, 2, none⟩ (.int .u64 (f 2))).setCell ⟨wr.heap.size, 3, none⟩ (.int .u64 (f 3))).heap.size := by rw [put4_size]; exact hpz
        have hpr : wr.heap.size ≤ wr.heap.size := Nat.le_refl _
        go_wp2_with fail
        generalize (((wz.setCell ⟨wr.heap.size, 0, none⟩ (.int .u64 (f 0))).setCell ⟨wr.heap.size, 1, none⟩ (.int .u64 (f 1))).setCell ⟨wr.heap.size, 2, none⟩ (.int .u64 (f 2))).setCell ⟨wr.heap.size, 3, none⟩ (.int .u64 (f 3)) = wq at *
        obtain ⟨p, hpe⟩ : ∃ p, p = wr.heap.size := ⟨_, rfl⟩
        rw [← hpe] at HP hp
        rw [← hpe]
        have HPE := Lib.hid hpe
        have hpr2 : wr.heap.size ≤ p := by omega
        · clear hBz c0 c1 z0 z1 z2 z3 k0 k1 k2 k3 hpe hpr
          have h6 : Six wq g (off + j * 4) p q2 q3 f := ⟨(hBq.cell (p := ⟨g, _, none⟩) hgr).trans HC2.out, (hBq.cell (p := ⟨g, _, none⟩) hgr).trans HC3.out, cell4 HP.out 0 (by omega), cell4 HP.out 1 (by omega), cell4 HP.out 2 (by omega), cell4 HP.out 3 (by omega)⟩
          have H6 := Lib.hid h6
          have hgq : g < wq.heap.size := Nat.lt_of_lt_of_le hgr hBq.size
          have ng : some g ≠ u3.ownBlock := fun e => by have := own_ge hown g e.symm; omega
          have np : some p ≠ u3.ownBlock := fun e => by have := (hown.lt p e.symm).2; omega
          have hws : w.heap.size ≤ wr.heap.size := hb.size
          obtain ⟨s0, s1, s2, s3, s4, s5⟩ := h6
          go_region_held3 (fun w' => w'.cell? ⟨g, off + j * 4 + 2, none⟩ = some (.int .u8 q2) ∧ w'.cell? ⟨g, off + j * 4 + 3, none⟩ = some (.int .u8 q3) ∧ w'.cell? ⟨p, 0, none⟩ = some (.int .u64 (f 0)) ∧ w'.cell? ⟨p, 1, none⟩ = some (.int .u64 (f 1)) ∧ w'.cell? ⟨p, 2, none⟩ = some (.int .u64 (f 2)) ∧ w'.cell? ⟨p, 3, none⟩ = some (.int .u64 (f 3)))
            (first | exact keepB H6 hgq hp (Below.refl _ _).drew | exact keepB H6 hgq hp hBa | exact keepB H6 hgq hp hBb | exact keepB H6 hgq hp (hBb.alloc hBb.size _) | exact keepA H6 hgq hp hBb hgrow ng np)
            (first
              | (go_at_call 17; refine (of_some (w := wq) _ _ (Below.refl _ _).drew).mono ?_; rintro e wa ⟨f2, rfl, hBa⟩)
              | (go_at_call 19; refine (or_some (w := wq) f f2 hBa).mono ?_; rintro e wb ⟨f3, rfl, hBb⟩)
              | (refine step_append_lies _ (by rfl) _ _ _ (by rfl) w.heap.size 36 i0 _ 4 32 Try.underlying22 hi hz0 hz1 hz2 rfl (by omega) u3 j (flat4 fs) (by rfl) ((ownsRow_below hown (hBq.trans (hBb.mono hBq.size))).alloc _) ⟨wb.heap.size, 0, none⟩ 1 1 [.int .u64 (f3 0), .int .u64 (f3 1), .int .u64 (f3 2), .int .u64 (f3 3)] (by rfl) (by rfl) (World.news_of_block (cs := row4 f3) (t := 36) (fr := (0, 0)) (heap_alloc_new wb _)) (by simp [Value.oneCell']) (by omega) (by unfold maxLen; omega) (by omega) (by have h1 := hBq.size; have h2 := hBb.size; simp; omega) (wb.heap.size + 1) (by simp) ?_; intro gg cap w1 hown1 hgrow hat hlt))
          have hBw : Below w.heap.size w wb := (hb.trans (hBq.mono hb.size)).trans (hBb.mono (Nat.le_trans hb.size hBq.size))
          have hB1 : Below w.heap.size w w1 := (hBw.alloc hBw.size _).grown hgrow (by simp; have := hBw.size; omega) (fun k hk => own_ge hown k hk)
          clear hgrow hat hlt s0 s1 s2 s3 s4 s5
          go_wp2
          go_roundw
          case rel => exact ⟨j + 1, fs ++ [f3], by omega, by go_num, by simp [HF.out], by rw [flat4_append]; exact hown1, hB1⟩
          case measure => simp [intOf]; omega
    · obtain rfl : j = m := by omega
      by_cases hjn : j < n
      · have hj10 : ¬ j < 10 := by have := hm.out; omega
        go_wp2
        go_ret
        exact ⟨_, fs, rfl, by rw [HF.out]; have := hm.out; omega, fun h => by rw [HF.out] at h; have := hm.out; omega, by rw [HF.out]; exact hown, hb⟩
      · go_wp2
        go_ret
        exact ⟨_, fs, rfl, by rw [HF.out]; have := hm.out; omega, fun h => by rw [HF.out] at h; have := hm.out; omega, by rw [HF.out]; exact hown, hb⟩
end Go.Proofs.Ytjjnpobppmmgbaa
