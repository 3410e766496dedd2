/- MatchTimes' walk. -/
import Derived.Test.YtecngmnfbdbjfaaFd
namespace Go.Proofs.Ytecngmnfbdbjfaa
open Go.RowKit Go.Maps Go
theorem endsL_le {S : ByteArray} {t : Tr} {p : Int} {q : Nat} (hS : S.size ≤ 10000) : (endsL S t p).getD q 0 ≤ 10000 := by
  classical
  by_cases hq : q < (endsL S t p).length
  · have hm : (endsL S t p).getD q 0 ∈ endsL S t p := by
      rw [List.getD_eq_getElem?_getD, List.getElem?_eq_getElem hq]
      exact List.getElem_mem hq
    generalize (endsL S t p).getD q 0 = y at hm
    unfold endsL at hm
    split at hm
    · unfold lst at hm
      have := (List.mem_filter.1 hm).1
      have := List.mem_range.1 this
      omega
    · cases hm
  · rw [List.getD_eq_getElem?_getD, List.getElem?_eq_none (by omega)]
    simp
abbrev rowP (t : Tr) : Array Value := row8 t.k t.s t.lo t.hi (.slice t.a t.n t.cap)
abbrev valP (t : Tr) : Value := nodeV t.k t.s t.lo t.hi (.slice t.a t.n t.cap)
theorem four_old (w : World) (A B C D : Obj) : ((((w.alloc A).alloc B).alloc C).alloc D).heap[w.heap.size]? = some A ∧ ((((w.alloc A).alloc B).alloc C).alloc D).heap[w.heap.size + 1]? = some B ∧ ((((w.alloc A).alloc B).alloc C).alloc D).heap[w.heap.size + 2]? = some C ∧ ((((w.alloc A).alloc B).alloc C).alloc D).heap[w.heap.size + 3]? = some D := by
  obtain ⟨h1, h2, h3⟩ := three_old w A B C
  have e : (((w.alloc A).alloc B).alloc C).heap.size = w.heap.size + 3 := by simp
  have hb := alloc_below (((w.alloc A).alloc B).alloc C) D
  refine ⟨(hb.block _ (by omega)).trans h1, (hb.block _ (by omega)).trans h2, (hb.block _ (by omega)).trans h3, ?_⟩
  have := heap_alloc_new (((w.alloc A).alloc B).alloc C) D
  rwa [e] at this
theorem mat_bool {S : ByteArray} {t : Tr} {w V : World} (hL : Lives w w.heap.size t) (hb : Below V.heap.size V w) {b : Bool} (h : b = true ↔ matB S t) : Calls Try.prog 11 #[valP t, .string S] w fun e w' => e = .returned (.bool b) ∧ Below V.heap.size V w' :=
  (match_any S t w hL).mono (by
    rintro e w' ⟨c, rfl, hc, hb'⟩
    refine ⟨?_, hb.trans (hb'.mono hb.size)⟩
    have : c = b := by
      cases c <;> cases b
      · rfl
      · exact absurd (hc.2 (h.1 rfl)) (by simp)
      · exact absurd (h.2 (hc.1 rfl)) (by simp)
      · rfl
    rw [this])
set_option maxRecDepth 100000 in
set_option maxHeartbeats 6000000 in
theorem times_walk (a a2 : Option Addr) (n cap n2 cap2 : Nat) (F F2 : Nat → Int) (lo more : Int) (w : World) (h : ByteRow w a n F) (hF : ∀ i, 0 ≤ F i ∧ F i < 256) (hn : n ≤ cap) (hc : cap ≤ maxLen) (h2 : ByteRow w a2 n2 F2) (hF2 : ∀ i, 0 ≤ F2 i ∧ F2 i < 256) (hn2 : n2 ≤ cap2) (hc2 : cap2 ≤ maxLen) (hlo : 0 ≤ lo ∧ lo < 256) (hmore : 0 ≤ more ∧ more < 256) :
    Calls Try.prog 5 #[.slice a n cap, .slice a2 n2 cap2, .int .u8 lo, .int .u8 more] w fun e w' => e = .returned (.bool true) ∧ Below w.heap.size w w' := by
  have HMD : Hid (∀ w1, Below w.heap.size w w1 → Calls Try.prog 9 #[.slice a n cap] w1 (MadeD w1)) := Lib.hid fun w1 hb => deep_any w1 a n cap F (h.below hb) hF hn hc
  have HTX : Hid (∀ w1, Below w.heap.size w w1 → Calls Try.prog 10 #[.slice a2 n2 cap2] w1 fun e w' => ∃ S : ByteArray, e = .returned (.string S) ∧ S.size ≤ 12 ∧ Below w1.heap.size w1 w') := Lib.hid fun w1 hb => text_any a2 n2 cap2 F2 w1 (h2.below hb) hF2 (by unfold maxLen at hc2; omega)
  have HAW := Lib.hid (awake5_any w)
  clear h hF hn hc h2 hF2 hn2 hc2
  have hl0 := hlo.1
  have hl1 := hlo.2
  have hm0 := hmore.1
  have hm1 := hmore.2
  obtain ⟨k, hk, hk4⟩ : ∃ k : Nat, lo.tmod 4 = (k : Int) ∧ k < 4 := ⟨(lo % 4).toNat, by rw [Int.tmod_eq_emod_of_nonneg hl0]; omega, by omega⟩
  obtain ⟨m, hm, hm3⟩ : ∃ m : Nat, more.tmod 3 = (m : Int) ∧ m < 3 := ⟨(more % 3).toNat, by rw [Int.tmod_eq_emod_of_nonneg hm0]; omega, by omega⟩
  clear hlo hmore
  go_enter Try.func5, Try.ntmps5
  go_wp2_with fail
  refine HAW.out.mono ?_
  rintro e w1 ⟨rfl, hb1⟩
  have HB1 := Lib.hid hb1
  clear hb1
  go_wp2_with fail
  refine (HMD.out w1 HB1.out).mono ?_
  rintro e w2 ⟨T, rfl, hok, hsz, ⟨hcn, _⟩, hL, hb2⟩
  have HB2 := Lib.hid (HB1.out.trans (hb2.mono HB1.out.size))
  have HRT := Lib.hid (made_right (okT_mono hok (show 10 ≤ 20 by omega)) hsz hcn)
  have HFT := Lib.hid (fit_of_ok hok)
  have HST : Hid (∀ g, rightB (repX 0 (-1) g T) = true) := Lib.hid fun g => star_right g hok hsz hcn (Or.inl ⟨rfl, rfl⟩)
  have HL := Lib.hid (hL.now (alloc_below w2 (.cells (rowP T) 30)))
  have HTT := Lib.hid (HTX.out (w2.alloc (.cells (rowP T) 30)) (HB2.out.trans ((alloc_below _ _).mono HB2.out.size)))
  clear hok hsz hcn hL hb2
  go_wp2_with fail
  refine HTT.out.mono ?_
  rintro e w3 ⟨S, rfl, hS, hb3⟩
  have HX3 := Lib.hid (box_kept hb3)
  have HB3 := Lib.hid (HB2.out.trans ((box_below hb3).mono HB2.out.size))
  have HL3 := Lib.hid (HL.out.now hb3)
  have hx3 : w2.heap.size < w3.heap.size := lt_of_some (box_kept hb3)
  obtain ⟨c0, c1, c2, c3, c4, c5, c6, c7⟩ := cell8 (s := T.s) (box_kept hb3)
  clear hb3
  go_wp2_with fail
  obtain ⟨W, hW⟩ : ∃ W, W = (((w3.alloc (.cells (rowP T) 30)).alloc (.cells (row8 5 z0 0 (-1) (.slice (some ⟨w3.heap.size, 0, none⟩) 1 1)) 30)).alloc (.cells (rowP T) 30)).alloc (.cells (row8 5 z0 (k : Int) ((k : Int) + 1 + (m : Int)) (.slice (some ⟨w3.heap.size + 1 + 1, 0, none⟩) 1 1)) 30) := ⟨_, rfl⟩
  have hbW : Below w3.heap.size w3 W := by rw [hW]; exact (alloc3_below w3 _ _ _).alloc (by simp; omega) _
  have hsW : w3.heap.size + 4 ≤ W.heap.size := by rw [hW]; simp
  have HX : Hid (∀ wX, Below W.heap.size W wX → Lives wX wX.heap.size T ∧ Lives wX wX.heap.size (repX 0 (-1) w3.heap.size T) ∧ Lives wX wX.heap.size (repX (k : Int) ((k : Int) + 1 + (m : Int)) (w3.heap.size + 1 + 1) T) ∧ wX.heap[w2.heap.size]? = some (.cells (rowP T) 30 (0, 0)) ∧ wX.heap[w3.heap.size + 1]? = some (.cells (row8 5 z0 0 (-1) (.slice (some ⟨w3.heap.size, 0, none⟩) 1 1)) 30 (0, 0)) ∧ wX.heap[w3.heap.size + 1 + 1 + 1]? = some (.cells (row8 5 z0 (k : Int) ((k : Int) + 1 + (m : Int)) (.slice (some ⟨w3.heap.size + 1 + 1, 0, none⟩) 1 1)) 30 (0, 0))) := Lib.hid fun wX hb => by
    obtain ⟨q1, q2, q3, q4⟩ := four_old w3 (.cells (rowP T) 30) (.cells (row8 5 z0 0 (-1) (.slice (some ⟨w3.heap.size, 0, none⟩) 1 1)) 30) (.cells (rowP T) 30) (.cells (row8 5 z0 (k : Int) ((k : Int) + 1 + (m : Int)) (.slice (some ⟨w3.heap.size + 1 + 1, 0, none⟩) 1 1)) 30)
    rw [← hW] at q1 q2 q3 q4
    have hl : Lives wX wX.heap.size T := (HL3.out.now hbW).now hb
    exact ⟨hl, rep_lives hl ((hb.block _ (by omega)).trans q1), rep_lives hl ((hb.block _ (by omega)).trans q3), (hb.block _ (by omega)).trans ((hbW.block _ hx3).trans HX3.out), (hb.block _ (by omega)).trans q2, (hb.block _ (by omega)).trans q4⟩
  have HBW := Lib.hid (HB3.out.trans (hbW.mono HB3.out.size))
  show Calls Try.prog 12 _ ((((w3.alloc (.cells (rowP T) 30)).alloc (.cells (row8 5 z0 0 (-1) (.slice (some ⟨w3.heap.size, 0, none⟩) 1 1)) 30)).alloc (.cells (rowP T) 30)).alloc (.cells (row8 5 z0 (k : Int) ((k : Int) + 1 + (m : Int)) (.slice (some ⟨w3.heap.size + 1 + 1, 0, none⟩) 1 1)) 30)) _
  rw [← hW]
  clear hW hbW c0 c1 c2 c3 c4 c5 c6 c7 hk hm
  refine (opt5_any W).mono ?_
  rintro e w4 ⟨go, rfl, hLo, hb4⟩
  have HOP := Lib.hid (mat_bool (S := ⟨#[]⟩) (V := W) (b := true) hLo hb4 ⟨fun _ => star_nil rfl (Or.inr (by omega)) (star_right go (okT_mono (lf_ok (lf_char (b := 97) (by omega) (by omega))).1 (by omega)) (by have := sz_char (sE 97 97); omega) (by have := (lf_ok (lf_char (b := 97) (by omega) (by omega))).2.1; omega) (Or.inr ⟨rfl, rfl⟩)), fun _ => rfl⟩)
  have hs4 := hb4.size
  clear hLo hb4
  rw [show (repX 0 1 go (leafT (sE 97 97))).val = nodeV 5 z0 0 1 (.slice (some ⟨go, 0, none⟩) 1 1) from rfl]
  go_wp2_with fail
  refine HOP.out.mono ?_
  rintro e w5 ⟨rfl, hb5⟩
  have hs5 := hb5.size
  have HSN := Lib.hid (mat_bool (S := ⟨#[]⟩) (V := W) (b := true) (HX.out w5 hb5).2.1 hb5 ⟨fun _ => star_nil rfl (Or.inl rfl) (HST.out _), fun _ => rfl⟩)
  obtain ⟨c0, c1, c2, c3, c4, c5, c6, c7⟩ := cell8 (s := z0) (HX.out w5 hb5).2.2.2.2.1
  clear hb5
  go_wp2_with fail
  refine HSN.out.mono ?_
  rintro e w6 ⟨rfl, hb6⟩
  have HB6 := Lib.hid hb6
  have hs6 := hb6.size
  clear c0 c1 c2 c3 c4 c5 c6 c7 hb6
  go_wp2
  go_loopw [16] (fun i wr => ∃ j : Nat, j ≤ S.size + 1 ∧ i = .int .i64 j ∧ Below W.heap.size W wr) (fun i _ => S.size + 1 - (RowKit.intOf i).toNat)
  case atStart => exact ⟨0, by omega, rfl, HB6.out⟩
  case round =>
    obtain ⟨j, hj, rfl, hbr⟩ := hrel
    by_cases hlt : j ≤ S.size
    · have hlt' : (j : Int) ≤ (S.size : Int) := by omega
      have hsr := hbr.size
      have HK8 := Lib.hid (fun w' => keep8 (w := wr) (w1 := w') (t := T) (p := w2.heap.size) (by omega) (HX.out wr hbr).2.2.2.1)
      have HBR := Lib.hid hbr
      clear hbr
      obtain ⟨l, hl⟩ : ∃ l, l = endsL (S.extract j S.size) T 0 := ⟨_, rfl⟩
      have hsh := ends_shift S T hlt (by omega) HRT.out
      rw [← hl] at hsh
      have HSH := Lib.hid hsh
      have HLL := Lib.hid hl
      have HE1 : Hid (∀ wX (S0 : ByteArray) (p : Int), Below wr.heap.size wr wX → Calls Try.prog 13 #[valP T, .string S0, .int .i64 p] wX fun e w' => ∃ v, e = .returned v ∧ Hid (w'.ownsRow wX.heap.size 3 1 v (endsL S0 T p).length (natV (endsL S0 T p))) ∧ Below wr.heap.size wr w' ∧ Hid (Below wX.heap.size wX w')) := Lib.hid fun wX S0 p hb => (ends_any S0 T p wX (HX.out wX (HBR.out.trans (hb.mono hsr))).1).mono (by
        rintro e w' ⟨v, h1, h2, h3⟩
        exact ⟨v, h1, Lib.hid h2, hb.trans (h3.mono hb.size), Lib.hid h3⟩)
      clear hsh hl
      go_wp2
      go_region_held3 (fun w' => Below wr.heap.size wr w' ∧ w'.cell? ⟨w2.heap.size, 0, none⟩ = some (.int .i64 T.k) ∧ w'.cell? ⟨w2.heap.size, 1, none⟩ = some (.int .u64 (T.s 0)) ∧ w'.cell? ⟨w2.heap.size, 2, none⟩ = some (.int .u64 (T.s 1)) ∧ w'.cell? ⟨w2.heap.size, 3, none⟩ = some (.int .u64 (T.s 2)) ∧ w'.cell? ⟨w2.heap.size, 4, none⟩ = some (.int .u64 (T.s 3)) ∧ w'.cell? ⟨w2.heap.size, 5, none⟩ = some (.int .i64 T.lo) ∧ w'.cell? ⟨w2.heap.size, 6, none⟩ = some (.int .i64 T.hi) ∧ w'.cell? ⟨w2.heap.size, 7, none⟩ = some (.slice T.a T.n T.cap))
        ((refine HK8.out _ ?_; first | assumption | exact (Below.refl _ _).drew))
        ((go_at_call 13; go_split_ands; refine (HE1.out _ _ _ (by assumption)).mono ?_; rintro e w7 ⟨v1, rfl, hr7, hb7, hq7⟩))
      rename_i wa va ra ba qa z1 z2 z3 z4 z5 z6 z7 z8 z9 zz
      have rA := ra.out.kept (grown_of hq7.out) (by cases hv : va.ownBlock <;> simp)
      have rB := hr7.out
      rw [HSH.out] at rA
      rw [← HLL.out] at rB
      have HLE : Hid (∀ q, l.getD q 0 ≤ 10000) := Lib.hid fun q => by rw [HLL.out]; exact endsL_le (by have := (nx_sub S hlt (Nat.le_refl _)).1; omega)
      have HN7 : Hid (Below W.heap.size W w7) := Lib.hid (HBR.out.trans (hb7.mono hsr))
      have hlg : (l.map (j + ·)).length = l.length := by simp
      have HGM : Hid (∀ q, q < l.length → (l.map (j + ·)).getD q 0 = j + l.getD q 0) := Lib.hid fun q hq => by simp [List.getD_eq_getElem?_getD, hq]
      obtain ⟨a1, c1, rfl, hlm, hcA⟩ := natV_has rA
      obtain ⟨a2', c2, rfl, _, hcB⟩ := natV_has rB
      rw [hlg] at hcA hlm ⊢
      have HCA := Lib.hid hcA
      have HCB := Lib.hid hcB
      clear hr7 ra rA rB hq7 qa ba hb7 z1 z2 z3 z4 z5 z6 z7 z8 z9 zz hcA hcB hlg
      obtain ⟨M, hM⟩ : ∃ M, M = l.length := ⟨_, rfl⟩
      rw [← hM] at HCA HCB HGM hlm ⊢
      have hMm : M ≤ 9223372036854775807 := by unfold maxLen at hlm; omega
      clear hM hlm
      go_wp2
      go_loopw [19] (fun i wz => ∃ q : Nat, q ≤ M ∧ i = .int .i64 q ∧ ∃ kk, wz = w7.drewN kk) (fun i _ => M - (RowKit.intOf i).toNat)
      case atStart => exact ⟨0, Nat.zero_le _, rfl, 0, rfl⟩
      case round =>
        obtain ⟨q, hq, rfl, kk, rfl⟩ := hrel
        by_cases hqM : q < M
        · have hqM' : (q : Int) < (M : Int) := by omega
          obtain ⟨g1, rfl, _, hcc1⟩ := HCA.out (by omega)
          obtain ⟨g2, rfl, _, hcc2⟩ := HCB.out (by omega)
          have d1 := hcc1 q hqM
          have d2 := hcc2 q hqM
          rw [HGM.out q hqM] at d1
          have hx1 := HLE.out q
          obtain ⟨x, hx⟩ : ∃ x, x = l.getD q 0 := ⟨_, rfl⟩
          rw [← hx] at d1 d2 hx1
          rw [show ((j + x : Nat) : Int) = (x : Int) + (j : Int) by omega] at d1
          have hwr : IntKind.i64.wrap ((x : Int) + (j : Int)) = (x : Int) + (j : Int) := IntWalk.i64_in _ (by omega)
          clear hcc1 hcc2 hx
          go_wp2
          go_quiet (fail)
          go_wp2
          go_roundw
          case rel => exact ⟨q + 1, by omega, by go_num, _, rfl⟩
          case measure => simp [RowKit.intOf]; omega
        · have hqM' : ¬ (q : Int) < (M : Int) := by omega
          go_wp2
          go_roundw
          case rel => exact ⟨j + 1, by omega, by go_num, below_drewN HN7.out _⟩
          case measure => simp [RowKit.intOf]; omega
    · have hlt' : ¬ (j : Int) ≤ (S.size : Int) := by omega
      obtain rfl : j = S.size + 1 := by omega
      have HBR := Lib.hid hbr
      have hsr := hbr.size
      have HNB : Hid ((nullT T) = true ↔ matB ⟨#[]⟩ T) := Lib.hid (by
        unfold matB
        have := mt_null (nx ⟨#[]⟩) HFT.out
        exact ⟨fun h => ⟨HRT.out, by decide, this.2 h⟩, fun h => this.1 h.2.2⟩)
      have HMX := Lib.hid (fun wX hb => mat_bool (S := ⟨#[]⟩) (V := W) (HX.out wX hb).1 hb HNB.out)
      have HNU : Hid (∀ wX, Below W.heap.size W wX → Calls Try.prog 14 #[valP T] wX fun e w' => e = .returned (.bool (nullT T)) ∧ Below W.heap.size W w') := Lib.hid fun wX hb => (refnull_any T wX HFT.out (HX.out wX hb).1).mono (by
        rintro e w' ⟨h1, h2⟩
        exact ⟨h1, hb.trans (h2.mono hb.size)⟩)
      have HCX := Lib.hid (fun wX hb => cell8 (s := T.s) (HX.out wX hb).2.2.2.1)
      have HCS := Lib.hid (fun wX hb => cell8 (s := z0) (HX.out wX hb).2.2.2.2.1)
      obtain ⟨nb, hnb⟩ : ∃ nb, nb = nullT T := ⟨_, rfl⟩
      rw [← hnb] at HMX HNU
      obtain ⟨a0, a1', a2', a3, a4, a5, a6, a7⟩ := cell8 (s := z0) (HX.out wr hbr).2.2.2.2.2
      clear hbr hnb
      by_cases hA : matB S (repX (k : Int) ((k : Int) + 1 + (m : Int)) (w3.heap.size + 1 + 1) T)
      · have HMA := Lib.hid (fun wX hb => mat_bool (S := S) (V := W) (b := true) (HX.out wX hb).2.2.1 hb ⟨fun _ => hA, fun _ => rfl⟩)
        have HMS := Lib.hid (fun wX hb => mat_bool (S := S) (V := W) (b := true) (HX.out wX hb).2.1 hb ⟨fun _ => star_of hA (by omega) (HST.out _), fun _ => rfl⟩)
        clear hA
        go_wp2
        go_region_with (first
          | (go_at_call 14; refine (HNU.out w9 hb9).mono ?_; rintro e w10 ⟨rfl, hb10⟩)
          | (go_at_call 11; refine (HMX.out w8 hb8).mono ?_; rintro e w9 ⟨rfl, hb9⟩; obtain ⟨g0, g1, g2, g3, g4, g5, g6, g7⟩ := HCX.out w9 hb9)
          | (go_at_call 11; refine (HMS.out w7 hb7).mono ?_; rintro e w8 ⟨rfl, hb8⟩; obtain ⟨f0, f1, f2, f3, f4, f5, f6, f7⟩ := HCX.out w8 hb8)
          | (go_at_call 11; refine (HMA.out _ HBR.out.drew).mono ?_; rintro e w7 ⟨rfl, hb7⟩; obtain ⟨e0, e1, e2, e3, e4, e5, e6, e7⟩ := HCS.out w7 hb7))
        all_goals
          go_wp2
          go_ret
          exact ⟨by cases nb <;> rfl, HBW.out.trans (hb10.mono HBW.out.size)⟩
      · have HMA := Lib.hid (fun wX hb => mat_bool (S := S) (V := W) (b := false) (HX.out wX hb).2.2.1 hb ⟨fun h => (by cases h), fun h => absurd h hA⟩)
        clear hA
        go_wp2
        first | (go_region_with (first
          | (go_at_call 14; refine (HNU.out w9 hb9).mono ?_; rintro e w10 ⟨rfl, hb10⟩)
          | (go_at_call 11; refine (HMX.out w7 hb7).mono ?_; rintro e w9 ⟨rfl, hb9⟩; obtain ⟨g0, g1, g2, g3, g4, g5, g6, g7⟩ := HCX.out w9 hb9)
          | (go_at_call 11; refine (HMA.out _ HBR.out.drew).mono ?_; rintro e w7 ⟨rfl, hb7⟩; obtain ⟨e0, e1, e2, e3, e4, e5, e6, e7⟩ := HCX.out w7 hb7))) | fail
        all_goals
          go_wp2
          go_ret
          exact ⟨by cases nb <;> rfl, HBW.out.trans (hb10.mono HBW.out.size)⟩
end Go.Proofs.Ytecngmnfbdbjfaa
