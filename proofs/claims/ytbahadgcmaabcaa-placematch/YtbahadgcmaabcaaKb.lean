/- The document's Of of layer 9. -/
import Derived.Test.YtbahadgcmaabcaaJz
import Derived.Laws.ResultCell
import Derived.BigQuiet
namespace Go.Proofs.Ytbahadgcmaabcaa
open Go.RowKit Go
theorem ret5t {fn : Func} {p u : Tmp} (h : fn.results = #[.cell p 40, .tmp u]) {tmps : Array Value} {w : World} {g : Nat} {a b c d e v : Value} (hp : tmps.getD p undef = .pointer (some ⟨g, 0, none⟩)) (hv : tmps.getD u undef = v) (hg : w.heap[g]? = some (.cells #[a, b, c, d, e] 40 (0, 0))) :
    (results fn tmps).run Try.prog w = .ok (.tuple #[.agg #[a, b, c, d, e], v]) w := by
  rw [results_cell_tmp h, hp, hv]
  simp [asAddr, run_loadVar_row w g 40 40 #[a, b, c, d, e] (0, 0) _ hg Try.underlying40 rfl info40s, Result.andThen]
/-- What Of is to come to. -/
def OfE (w : World) (t : Tr) (e : Ending) (w' : World) : Prop := ∃ v, e = .returned (.tuple #[v, .int .i64 (if rightB t then 0 else 1)]) ∧ PlV w' v (if rightB t then plT t else Pl.nil false) ∧ Below w.heap.size w w'
theorem right_fit {t : Tr} (h : rightB t = true) : fitT t = true ∧ sz t ≤ 900 := by
  simp only [rightB, Bool.and_eq_true, decide_eq_true_eq] at h
  exact ⟨fit_of_ok h.1, by omega⟩
set_option maxRecDepth 100000 in
set_option maxHeartbeats 2000000 in
theorem refOf_any9 (t : Tr) (w : World) (hL : Lives w w.heap.size t) : Calls Try.prog 21 #[t.val] w (OfE w t) := by
  have HL := Lib.hid hL
  clear hL
  show Calls Try.prog 21 #[nodeV t.k t.s t.lo t.hi (.slice t.a t.n t.cap)] w _
  have HS0 := Lib.hid (OfS.start w (row8 t.k t.s t.lo t.hi (.slice t.a t.n t.cap)))
  have HR := Lib.hid (refRight_any t _ (HL.out.now (alloc2_below w (.cells (row8 t.k t.s t.lo t.hi (.slice t.a t.n t.cap)) 27) (.cells pl0 40))))
  go_enter Try.func21, Try.ntmps21
  go_wp2_with fail
  refine HR.out.mono ?_
  rintro e w2 ⟨rfl, hb⟩
  have HS2 := Lib.hid (HS0.out.below hb)
  clear hb HS0 HR
  obtain ⟨r, hr⟩ : ∃ r, r = rightB t := ⟨_, rfl⟩
  rw [← hr]
  have HRR := Lib.hid hr
  clear hr
  have HZ2 := HS2.out.bx
  have HY2 := HS2.out.br
  obtain ⟨x0, x1, x2, x3, x4, x5, x6, x7⟩ := cell8 HZ2
  obtain ⟨y0, y1, y2, y3, y4⟩ := cell5 HY2
  have f0 := frozen4 HY2 0
  have f1 := frozen4 HY2 1
  have f2 := frozen4 HY2 2
  have f3 := frozen4 HY2 3
  have f4 := frozen4 HY2 4
  clear HZ2 HY2
  cases r with
  | false =>
    have HF := Lib.hid (HS2.out.fin (P := Pl.nil false) (plV_nil w2 false))
    go_wp2
    obtain ⟨v, hv, hP, hb⟩ := HF.out.2
    refine bodyPost_ret (ret5t Try.results21 rfl rfl HF.out.1) rfl ⟨_, by rw [← HRR.out]; rfl, ?_, hb⟩
    rw [← HRR.out, if_neg (by decide)]
    injection hv with hv
    rw [← hv] at hP
    exact hP
  | true =>
    have hf := right_fit HRR.out.symm
    have HO := Lib.hid (of_any9 t w2 hf.1 hf.2 (HL.out.now HS2.out.bel))
    clear hf
    go_wp2_with fail
    refine HO.out.mono ?_
    rintro e w3 ⟨v, rfl, hP, hb⟩
    obtain ⟨a1, c1, a2, n2, c2, a3, n3, c3, a4, c4, rfl⟩ := hP.forms
    have HS3 := Lib.hid (HS2.out.below hb)
    have HF := Lib.hid (HS3.out.fin hP)
    have HY3 := HS3.out.br
    clear x0 x1 x2 x3 x4 x5 x6 x7 y0 y1 y2 y3 y4 f0 f1 f2 f3 f4 hb hP
    obtain ⟨y0, y1, y2, y3, y4⟩ := cell5 HY3
    have f0 := frozen4 HY3 0
    have f1 := frozen4 HY3 1
    have f2 := frozen4 HY3 2
    have f3 := frozen4 HY3 3
    have f4 := frozen4 HY3 4
    clear HY3
    go_wp2
    obtain ⟨v, hv, hP, hb⟩ := HF.out.2
    refine bodyPost_ret (ret5t Try.results21 rfl rfl HF.out.1) rfl ⟨_, by rw [← HRR.out]; rfl, ?_, hb⟩
    rw [← HRR.out, if_pos rfl]
    injection hv with hv
    rw [← hv] at hP
    exact hP
end Go.Proofs.Ytbahadgcmaabcaa
/- The document's Same of layer 9, of the same places. -/
namespace Go.Proofs.Ytbahadgcmaabcaa
open Go.RowKit Go
theorem SL.cells {w : World} {v : Value} {set : Nat → Nat → Int} {n : Nat} (h : SL w v set n) {w' : World} (hb : Below w.heap.size w w') {i : Nat} (hi : i < n) : ∃ g off c, v = .slice (some ⟨g, off, none⟩) n c ∧ w'.cell? ⟨g, off + i * 4, none⟩ = some (.int .u64 (set i 0)) ∧ w'.cell? ⟨g, off + i * 4 + 1, none⟩ = some (.int .u64 (set i 1)) ∧ w'.cell? ⟨g, off + i * 4 + 2, none⟩ = some (.int .u64 (set i 2)) ∧ w'.cell? ⟨g, off + i * 4 + 3, none⟩ = some (.int .u64 (set i 3)) := by
  obtain ⟨a, cap, hv, h1, h2, h0, h3⟩ := h
  obtain ⟨g, off, rfl, ⟨hg, _⟩, hc⟩ := h3 (by omega)
  have key : ∀ k, k < 4 → w'.cell? ⟨g, off + (i * 4 + k), none⟩ = some (.int .u64 (set i k)) := fun k hk => (hb.cell (p := ⟨g, off + (i * 4 + k), none⟩) hg).trans (hc _ _ (flatW_get set n i k hi hk))
  exact ⟨g, off, cap, hv, key 0 (by omega), key 1 (by omega), key 2 (by omega), key 3 (by omega)⟩
theorem RL.cells {w : World} {v : Value} {us : Nat → Value} {n : Nat} (h : RL w v us n) {w' : World} (hb : Below w.heap.size w w') {i : Nat} (hi : i < n) : ∃ g off c, v = .slice (some ⟨g, off, none⟩) n c ∧ g < w.heap.size ∧ w'.cell? ⟨g, off + i, none⟩ = some (us i) := by
  obtain ⟨a, cap, hv, h1, h2, h0, h3⟩ := h
  obtain ⟨g, off, rfl, ⟨hg, _⟩, hc⟩ := h3 (by omega)
  exact ⟨g, off, cap, hv, hg, (hb.cell (p := ⟨g, off + i, none⟩) hg).trans (hc i hi)⟩
theorem eqS_self (s : Nat → Int) : eqS s s = true := by simp [eqS]
/-- Two boxes of places. -/
structure TwoB (w : World) (X Y : Array Value) (W : World) : Prop where
  b0 : W.heap[w.heap.size]? = some (.cells X 40 (0, 0))
  b1 : W.heap[w.heap.size + 1]? = some (.cells Y 40 (0, 0))
  bel : Below w.heap.size w W
theorem TwoB.below {w : World} {X Y : Array Value} {W W' : World} (h : TwoB w X Y W) (hb : Below W.heap.size W W') : TwoB w X Y W' :=
  ⟨(hb.block _ (lt_heap h.b0)).trans h.b0, (hb.block _ (lt_heap h.b1)).trans h.b1, h.bel.trans (hb.mono h.bel.size)⟩
theorem TwoB.start (w : World) (X Y : Array Value) : TwoB w X Y ((w.alloc (.cells X 40)).alloc (.cells Y 40)) :=
  ⟨(heap2 _ _ _).1, (heap2 _ _ _).2, alloc2_below _ _ _⟩
set_option maxRecDepth 100000 in
set_option maxHeartbeats 4000000 in
theorem refSame_any9 (P : Pl) (va vb : Value) (w : World) (ha : PlV w va P) (hb : PlV w vb P) (hn : P.n ≤ 900) : Calls Try.prog 22 #[va, vb] w fun e w' => e = .returned (.bool true) ∧ Below w.heap.size w w' := by
  obtain ⟨vs, vf, vl, vo, lf, ll, us, F, rfl, hX⟩ := ha
  obtain ⟨ws, wf, wl, wo, kf, kl, ts, E, rfl, hY⟩ := hb
  obtain rfl : lf = kf := hX.sfi.uniq hY.sfi
  obtain rfl : ll = kl := hX.sla.uniq hY.sla
  have HX := Lib.hid hX
  have HY := Lib.hid hY
  obtain ⟨⟨a1, c1, rfl, _⟩, ⟨a2, c2, rfl, _⟩, _, ⟨a3, c3, rfl, _, _⟩, _, ⟨a4, c4, rfl, _⟩, _, _⟩ := hX
  obtain ⟨⟨d1, e1, rfl, _⟩, ⟨d2, e2, rfl, _⟩, _, ⟨d3, e3, rfl, _, _⟩, _, ⟨d4, e4, rfl, _⟩, _, _⟩ := hY
  have hlf := HX.out.sfi.len (n := P.n) HX.out.ok.fi
  have hll := HX.out.sla.len (n := P.n) HX.out.ok.la
  obtain ⟨b, hb⟩ : ∃ b, b = P.nu := ⟨_, rfl⟩
  rw [← hb]
  clear hb
  have HS0 := Lib.hid (TwoB.start w (pl5 (.slice a1 P.n c1) (.slice a2 lf.length c2) (.slice a3 ll.length c3) (.slice a4 P.n c4) b) (pl5 (.slice d1 P.n e1) (.slice d2 lf.length e2) (.slice d3 ll.length e3) (.slice d4 P.n e4) b))
  have HI1 : Hid (∀ W, Below w.heap.size w W → Calls Try.prog 31 #[.slice a2 lf.length c2, .slice d2 lf.length e2] W fun e w' => e = .returned (.bool true) ∧ Below W.heap.size W w') := Lib.hid fun W h => ints_any9 lf _ _ W (by omega) (HX.out.ffi.below h) (HY.out.ffi.below h)
  have HI2 : Hid (∀ W, Below w.heap.size w W → Calls Try.prog 31 #[.slice a3 ll.length c3, .slice d3 ll.length e3] W fun e w' => e = .returned (.bool true) ∧ Below W.heap.size W w') := Lib.hid fun W h => ints_any9 ll _ _ W (by omega) (HX.out.fla.below h) (HY.out.fla.below h)
  clear hlf hll
  obtain ⟨x0, x1, x2, x3, x4⟩ := cell5 HS0.out.b0
  obtain ⟨y0, y1, y2, y3, y4⟩ := cell5 HS0.out.b1
  go_enter Try.func22, Try.ntmps22
  go_wp2_with fail
  refine (HI1.out _ (alloc2_below _ _ _)).mono ?_
  rintro e w2 ⟨rfl, hb⟩
  have HS2 := Lib.hid (HS0.out.below hb)
  clear hb x0 x1 x2 x3 x4 y0 y1 y2 y3 y4 HS0
  obtain ⟨x0, x1, x2, x3, x4⟩ := cell5 HS2.out.b0
  obtain ⟨y0, y1, y2, y3, y4⟩ := cell5 HS2.out.b1
  go_wp2_with fail
  refine (HI2.out _ HS2.out.bel).mono ?_
  rintro e w3 ⟨rfl, hb⟩
  have HS3 := Lib.hid (HS2.out.below hb)
  clear hb x0 x1 x2 x3 x4 y0 y1 y2 y3 y4 HS2
  obtain ⟨x0, x1, x2, x3, x4⟩ := cell5 HS3.out.b0
  obtain ⟨y0, y1, y2, y3, y4⟩ := cell5 HS3.out.b1
  go_wp2_with fail
  clear x0 x1 x2 x3 x4 y0 y1 y2 y3 y4
  go_loopw [5] (fun c wr => ∃ j : Nat, j ≤ P.n ∧ c = .int .i64 j ∧ Hid (TwoB w (pl5 (.slice a1 P.n c1) (.slice a2 lf.length c2) (.slice a3 ll.length c3) (.slice a4 P.n c4) b) (pl5 (.slice d1 P.n e1) (.slice d2 lf.length e2) (.slice d3 ll.length e3) (.slice d4 P.n e4) b) wr)) (fun c _ => P.n - (intOf c).toNat)
  case atStart => exact ⟨0, by omega, rfl, HS3⟩
  case round =>
    obtain ⟨j, hj, rfl, HS⟩ := hrel
    clear HS3
    obtain ⟨x0, x1, x2, x3, x4⟩ := cell5 HS.out.b0
    obtain ⟨y0, y1, y2, y3, y4⟩ := cell5 HS.out.b1
    by_cases hlt : j < P.n
    · have hlt' : (j : Int) < (P.n : Int) := by omega
      obtain ⟨g, o, k, he, z0, z1, z2, z3⟩ := HX.out.sets.cells HS.out.bel hlt
      obtain ⟨g', o', k', he', u0, u1, u2, u3⟩ := HY.out.sets.cells HS.out.bel hlt
      injection he with he1 _ he3
      injection he' with he1' _ he3'
      rw [he1] at x0
      rw [he1'] at y0
      have hq := neqS_any (P.set j) (P.set j) (eqS_self _)
      clear he1 he1' he3 he3' x1 x2 x3 x4 y1 y2 y3 y4
      go_wp2_with fail
      go_quiet (fail)
      go_wp2
      go_roundw
      case rel => exact ⟨j + 1, hlt, by go_num, Lib.hid (HS.out.below (below_drewN (Below.refl _ _) _))⟩
      case measure => simp [intOf]; omega
    · obtain hjn : j = P.n := by omega
      rw [hjn]
      clear hlt hj hjn
      go_wp2_with fail
      clear x0 x1 x2 x3 x4 y0 y1 y2 y3 y4
      go_loopw [6] (fun c wr => ∃ j : Nat, j ≤ P.n ∧ c = .int .i64 j ∧ Hid (TwoB w (pl5 (.slice a1 P.n c1) (.slice a2 lf.length c2) (.slice a3 ll.length c3) (.slice a4 P.n c4) b) (pl5 (.slice d1 P.n e1) (.slice d2 lf.length e2) (.slice d3 ll.length e3) (.slice d4 P.n e4) b) wr)) (fun c _ => P.n - (intOf c).toNat)
      case atStart => exact ⟨0, by omega, rfl, HS⟩
      case round =>
        obtain ⟨j, hj, rfl, HS'⟩ := hrel
        clear HS
        obtain ⟨x0, x1, x2, x3, x4⟩ := cell5 HS'.out.b0
        obtain ⟨y0, y1, y2, y3, y4⟩ := cell5 HS'.out.b1
        by_cases hlt : j < P.n
        · have hlt' : (j : Int) < (P.n : Int) := by omega
          obtain ⟨g, o, k, he, hg, z0⟩ := HX.out.rows.cells HS'.out.bel hlt
          obtain ⟨g', o', k', he', hg', u0⟩ := HY.out.rows.cells HS'.out.bel hlt
          injection he with he1 _ he3
          injection he' with he1' _ he3'
          rw [he1] at x3
          rw [he1'] at y3
          have hFE : E j = F j := (HY.out.lists j hlt).2.uniq (HX.out.lists j hlt).2
          have hFL := (HX.out.lists j hlt).2.len (n := P.n) fun i hi => HX.out.ok.fo j i (Or.inr hi)
          have HI3 : Hid (∀ W, Below w.heap.size w W → Calls Try.prog 31 #[us j, ts j] W fun e w' => e = .returned (.bool true) ∧ Below W.heap.size W w') := Lib.hid fun W h => ints_any9 (F j) _ _ W (by omega) ((HX.out.lists j hlt).1.below h) (hFE ▸ (HY.out.lists j hlt).1.below h)
          have HKP : Hid (∀ W, Below wr.heap.size wr W → W.cell? ⟨w.heap.size, 3, none⟩ = some (.slice (some ⟨g, o, none⟩) P.n c4) ∧ W.cell? ⟨w.heap.size + 1, 3, none⟩ = some (.slice (some ⟨g', o', none⟩) P.n e4) ∧ W.cell? ⟨g, o + j, none⟩ = some (us j) ∧ W.cell? ⟨g', o' + j, none⟩ = some (ts j)) := Lib.hid fun W h => four_stand h (lt_heap HS'.out.b0) (lt_heap HS'.out.b1) (Nat.lt_of_lt_of_le hg HS'.out.bel.size) (Nat.lt_of_lt_of_le hg' HS'.out.bel.size) x3 y3 z0 u0
          obtain ⟨u, hu⟩ : ∃ u, u = us j := ⟨_, rfl⟩
          obtain ⟨t, ht⟩ : ∃ t, t = ts j := ⟨_, rfl⟩
          have HIL := (HX.out.lists j hlt).1
          have HJL := (HY.out.lists j hlt).1
          obtain ⟨p1, p2, hp, _⟩ := HIL
          obtain ⟨q1, q2, hq, _⟩ := HJL
          rw [hp, hq] at HI3 HKP
          rw [hp] at z0
          rw [hq] at u0
          have HB0 : Below wr.heap.size wr wr.drew := (Below.refl _ _).drew
          clear he1 he1' he3 he3' x0 x1 x2 x4 y0 y1 y2 y4 hFE hFL hp hq hu ht
          go_wp2_with fail
          go_region_held3 (fun W => W.cell? ⟨w.heap.size, 3, none⟩ = some (.slice (some ⟨g, o, none⟩) P.n c4) ∧ W.cell? ⟨w.heap.size + 1, 3, none⟩ = some (.slice (some ⟨g', o', none⟩) P.n e4) ∧ W.cell? ⟨g, o + j, none⟩ = some (.slice p1 (F j).length p2) ∧ W.cell? ⟨g', o' + j, none⟩ = some (.slice q1 (E j).length q2))
            ((first | with_reducible exact HKP.out _ HB0 | with_reducible exact HKP.out _ HBx))
            (first
              | (go_at_call 31; refine (HI3.out wr.drew HS'.out.bel.drew).mono ?_; rintro e wx ⟨rfl, hbx⟩; have HBx : Below wr.heap.size wr wx := undrew hbx)
              | fail)
          have HN := Lib.hid (HS'.out.below HBx)
          go_wp2
          go_roundw
          case rel => exact ⟨j + 1, hlt, by go_num, HN⟩
          case measure => simp [intOf]; omega
        · obtain hjn : j = P.n := by omega
          rw [hjn]
          have HZ := HS'.out.bel
          go_wp2
          go_ret
          exact ⟨rfl, HZ⟩
end Go.Proofs.Ytbahadgcmaabcaa
