/- MatchParts' walk. -/
import Derived.Test.YtecngmnfbdbjfaaFe
import Derived.Test.YtecngmnfbdbjfaaFf
import Derived.Test.YtecngmnfbdbjfaaFh
namespace Go.Proofs.Ytecngmnfbdbjfaa
open Go.RowKit Go.Maps Go
set_option maxRecDepth 100000 in
set_option maxHeartbeats 6000000 in
theorem parts_walk (a a1 a2 : Option Addr) (n cap n1 cap1 n2 cap2 : Nat) (F F1 F2 : Nat → Int) (w : World) (h : ByteRow w a n F) (hF : ∀ i, 0 ≤ F i ∧ F i < 256) (hn : n ≤ cap) (hc : cap ≤ maxLen) (h1 : ByteRow w a1 n1 F1) (hF1 : ∀ i, 0 ≤ F1 i ∧ F1 i < 256) (hn1 : n1 ≤ cap1) (hc1 : cap1 ≤ maxLen) (h2 : ByteRow w a2 n2 F2) (hF2 : ∀ i, 0 ≤ F2 i ∧ F2 i < 256) (hn2 : n2 ≤ cap2) (hc2 : cap2 ≤ maxLen) :
    Calls Try.prog 4 #[.slice a n cap, .slice a1 n1 cap1, .slice a2 n2 cap2] w fun e w' => e = .returned (.bool true) ∧ Below w.heap.size w w' := by
  have HMD : Hid (∀ w1, Below w.heap.size w w1 → Calls Try.prog 9 #[.slice a n cap] w1 (MadeD w1)) := Lib.hid fun w1 hb => deep_any w1 a n cap F (h.below hb) hF hn hc
  have HME : Hid (∀ w1, Below w.heap.size w w1 → Calls Try.prog 9 #[.slice a1 n1 cap1] w1 (MadeD w1)) := Lib.hid fun w1 hb => deep_any w1 a1 n1 cap1 F1 (h1.below hb) hF1 hn1 hc1
  have HTX : Hid (∀ w1, Below w.heap.size w w1 → Calls Try.prog 10 #[.slice a2 n2 cap2] w1 fun e w' => ∃ S : ByteArray, e = .returned (.string S) ∧ S.size ≤ 12 ∧ Below w1.heap.size w1 w') := Lib.hid fun w1 hb => text_any a2 n2 cap2 F2 w1 (h2.below hb) hF2 (by unfold maxLen at hc2; omega)
  have HAW := Lib.hid (awake5_any w)
  clear h hF hn hc h1 hF1 hn1 hc1 h2 hF2 hn2 hc2
  go_enter Try.func4, Try.ntmps4
  go_wp2_with fail
  refine HAW.out.mono ?_
  rintro e w1 ⟨rfl, hb1⟩
  have HB1 := Lib.hid hb1
  clear hb1
  go_wp2_with fail
  refine (HMD.out w1 HB1.out).mono ?_
  rintro e w2 ⟨X, rfl, hok, hsz, ⟨hcn, _⟩, hL, hb2⟩
  have HB2 := Lib.hid (HB1.out.trans (hb2.mono HB1.out.size))
  have HRX := Lib.hid (made_right (okT_mono hok (show 10 ≤ 20 by omega)) hsz hcn)
  have HKX := Lib.hid (And.intro hok (And.intro hsz hcn))
  have HLX := Lib.hid hL
  clear hok hsz hcn hL hb2
  go_wp2_with fail
  refine (HME.out w2 HB2.out).mono ?_
  rintro e w3 ⟨Y, rfl, hok, hsz, ⟨hcn, _⟩, hL, hb3⟩
  have HB3 := Lib.hid (HB2.out.trans (hb3.mono HB2.out.size))
  have HRY := Lib.hid (made_right (okT_mono hok (show 10 ≤ 20 by omega)) hsz hcn)
  have HKY := Lib.hid (And.intro hok (And.intro hsz hcn))
  have HLY := Lib.hid hL
  have HLX3 := Lib.hid (HLX.out.now hb3)
  clear hok hsz hcn hL hb3 HLX
  go_wp2_with fail
  obtain ⟨W, hW⟩ : ∃ W, W = (w3.alloc (.cells (rowP X) 30)).alloc (.cells (rowP Y) 30) := ⟨_, rfl⟩
  have hbW : Below w3.heap.size w3 W := by rw [hW]; exact alloc2_below w3 _ _
  have hsW : w3.heap.size + 2 ≤ W.heap.size := by rw [hW]; simp
  have hx0 : W.heap[w3.heap.size]? = some (.cells (rowP X) 30) := by rw [hW]; exact (Below.heap_alloc _ _ _ (by simp)).trans (heap_alloc_new _ _)
  have hy0 : W.heap[w3.heap.size + 1]? = some (.cells (rowP Y) 30) := by
    rw [hW]
    have := heap_alloc_new (w3.alloc (.cells (rowP X) 30)) (.cells (rowP Y) 30)
    rwa [show (w3.alloc (.cells (rowP X) 30)).heap.size = w3.heap.size + 1 by simp] at this
  show Calls Try.prog 10 _ ((w3.alloc (.cells (rowP X) 30)).alloc (.cells (rowP Y) 30)) _
  rw [← hW]
  have HBW := Lib.hid (HB3.out.trans (hbW.mono HB3.out.size))
  have HX : Hid (∀ wX, Below W.heap.size W wX → Lives wX wX.heap.size X ∧ Lives wX wX.heap.size Y ∧ wX.heap[w3.heap.size]? = some (.cells (rowP X) 30) ∧ wX.heap[w3.heap.size + 1]? = some (.cells (rowP Y) 30)) := Lib.hid fun wX hb =>
    ⟨(HLX3.out.now hbW).now hb, (HLY.out.now hbW).now hb, (hb.block _ (by omega)).trans hx0, (hb.block _ (by omega)).trans hy0⟩
  clear hW hbW hx0 hy0 HLX3 HLY
  refine (HTX.out W HBW.out).mono ?_
  rintro e w4 ⟨S, rfl, hS, hb4⟩
  have HB4 := Lib.hid hb4
  have hs4 := hb4.size
  clear hb4
  have hsW4 : W.heap.size ≤ w4.heap.size := hs4
  have HMX : Hid (∀ (j : Nat) (b : Bool), j ≤ S.size → (b = true ↔ mt (nx S) S.size X 0 j) → ∀ wX, Below W.heap.size W wX → Calls Try.prog 11 #[valP X, .string (S.extract 0 j)] wX fun e w' => e = .returned (.bool b) ∧ Below W.heap.size W w') := Lib.hid fun j b hj hb wX hw =>
    mat_bool (HX.out wX hw).1 hw (hb.trans (mat_head S X hj (by omega) HRX.out).symm)
  have HMY : Hid (∀ (j : Nat) (b : Bool), j ≤ S.size → (b = true ↔ mt (nx S) S.size Y j S.size) → ∀ wX, Below W.heap.size W wX → Calls Try.prog 11 #[valP Y, .string (S.extract j S.size)] wX fun e w' => e = .returned (.bool b) ∧ Below W.heap.size W w') := Lib.hid fun j b hj hb wX hw =>
    mat_bool (HX.out wX hw).2.1 hw (hb.trans (mat_tail S Y hj (by omega) HRY.out).symm)
  go_wp2
  go_loopw [11, 12] (fun p i wr => ∃ (j : Nat) (b : Bool), j ≤ S.size + 1 ∧ p = .bool b ∧ i = .int .i64 j ∧ Hid (b = true ↔ prt S X Y j) ∧ Below W.heap.size W wr) (fun _ i _ => S.size + 1 - (RowKit.intOf i).toNat)
  case atStart => exact ⟨0, false, by omega, rfl, rfl, Lib.hid ⟨fun h => (by cases h), fun h => absurd h (prt_zero S X Y)⟩, HB4.out⟩
  case round =>
    obtain ⟨j, b, hj, rfl, rfl, HP, hbr⟩ := hrel
    by_cases hlt : j ≤ S.size
    · have hlt' : (j : Int) ≤ (S.size : Int) := by omega
      have HBR := Lib.hid hbr
      have hsr := hbr.size
      have HCX := Lib.hid (fun wX hb => cell8 (s := X.s) (HX.out wX hb).2.2.1)
      have HCY := Lib.hid (fun wX hb => cell8 (s := Y.s) (HX.out wX hb).2.2.2)
      clear hbr
      cases b
      · by_cases m1 : mt (nx S) S.size X 0 j
        · have H1 := Lib.hid (HMX.out j true hlt ⟨fun _ => m1, fun _ => rfl⟩)
          by_cases m2 : mt (nx S) S.size Y j S.size
          · have H2 := Lib.hid (HMY.out j true hlt ⟨fun _ => m2, fun _ => rfl⟩)
            obtain ⟨e0, e1, e2, e3, e4, e5, e6, e7⟩ := HCX.out wr HBR.out
            go_wp2
            go_region_with (first
              | (go_at_call 11; refine (H2.out w5 hb5).mono ?_; rintro e w6 ⟨rfl, hb6⟩)
              | (go_at_call 11; refine (H1.out _ HBR.out.drew).mono ?_; rintro e w5 ⟨rfl, hb5⟩; obtain ⟨f0, f1, f2, f3, f4, f5, f6, f7⟩ := HCY.out w5 hb5))
            all_goals
              go_wp2
              go_roundw
              case rel => exact ⟨j + 1, true, by omega, rfl, by go_num, Lib.hid ⟨fun _ => prt_succ.2 (Or.inr ⟨m1, m2⟩), fun _ => rfl⟩, by assumption⟩
              case measure => simp [RowKit.intOf]; omega
          · have H2 := Lib.hid (HMY.out j false hlt ⟨fun h => (by cases h), fun h => absurd h m2⟩)
            have HN : Hid (¬ prt S X Y (j + 1)) := Lib.hid fun h => (prt_succ.1 h).elim (fun h => by cases HP.out.2 h) (fun h => m2 h.2)
            obtain ⟨e0, e1, e2, e3, e4, e5, e6, e7⟩ := HCX.out wr HBR.out
            go_wp2
            go_region_with (first
              | (go_at_call 11; refine (H2.out w5 hb5).mono ?_; rintro e w6 ⟨rfl, hb6⟩)
              | (go_at_call 11; refine (H1.out _ HBR.out.drew).mono ?_; rintro e w5 ⟨rfl, hb5⟩; obtain ⟨f0, f1, f2, f3, f4, f5, f6, f7⟩ := HCY.out w5 hb5))
            all_goals
              go_wp2
              go_roundw
              case rel => exact ⟨j + 1, false, by omega, rfl, by go_num, Lib.hid ⟨fun h => (by cases h), fun h => absurd h HN.out⟩, by assumption⟩
              case measure => simp [RowKit.intOf]; omega
        · have H1 := Lib.hid (HMX.out j false hlt ⟨fun h => (by cases h), fun h => absurd h m1⟩)
          have HN : Hid (¬ prt S X Y (j + 1)) := Lib.hid fun h => (prt_succ.1 h).elim (fun h => by cases HP.out.2 h) (fun h => m1 h.1)
          obtain ⟨e0, e1, e2, e3, e4, e5, e6, e7⟩ := HCX.out wr HBR.out
          go_wp2
          first | (go_region_with (first
            | (go_at_call 11; refine (H1.out _ HBR.out.drew).mono ?_; rintro e w5 ⟨rfl, hb5⟩; obtain ⟨f0, f1, f2, f3, f4, f5, f6, f7⟩ := HCY.out w5 hb5))) | fail
          all_goals
            go_wp2
            go_roundw
            case rel => exact ⟨j + 1, false, by omega, rfl, by go_num, Lib.hid ⟨fun h => (by cases h), fun h => absurd h HN.out⟩, by assumption⟩
            case measure => simp [RowKit.intOf]; omega
      · have HN : Hid (prt S X Y (j + 1)) := Lib.hid (prt_succ.2 (Or.inl (HP.out.1 rfl)))
        go_wp2
        go_quiet (fail)
        go_wp2
        go_roundw
        case rel => exact ⟨j + 1, true, by omega, rfl, by go_num, Lib.hid ⟨fun _ => HN.out, fun _ => rfl⟩, below_drewN HBR.out _⟩
        case measure => simp [RowKit.intOf]; omega
    · have hlt' : ¬ (j : Int) ≤ (S.size : Int) := by omega
      obtain rfl : j = S.size + 1 := by omega
      obtain ⟨wq, rfl⟩ : ∃ wq, wq = wr := ⟨_, rfl⟩
      have HBR := Lib.hid hbr
      have hsr := hbr.size
      have hx3 : w3.heap.size < wq.heap.size := by omega
      have hx4 : w3.heap.size + 1 < wq.heap.size := by omega
      obtain ⟨e0, e1, e2, e3, e4, e5, e6, e7⟩ := cell8 (s := X.s) (HX.out wq hbr).2.2.1
      obtain ⟨f0, f1, f2, f3, f4, f5, f6, f7⟩ := cell8 (s := Y.s) (HX.out wq hbr).2.2.2
      clear hbr
      go_wp2
      obtain ⟨R, hR⟩ : ∃ R, R = ((wq.alloc (.cells (row8 3 z0 0 0 (.slice none 0 0)) 30)).alloc (.cells (row8 4 z0 0 0 (.slice none 0 0)) 30)).alloc (.cells (rowP X ++ rowP Y) 30) := ⟨_, rfl⟩
      have HK0 : Hid (∀ wz, wz = ((wq.alloc (.cells (row8 3 z0 0 0 (.slice none 0 0)) 30)).alloc (.cells (row8 4 z0 0 0 (.slice none 0 0)) 30)).alloc (.cells (rowP X ++ rowP Y) 30) → KI W R wq.heap.size (both2 X Y) 0 0 (.slice none 0 0) (.slice none 0 0) wz) := Lib.hid fun wz e => by rw [e, hR]; exact KI.start HBR.out X Y _ _
      have HA8 : Hid (∀ i, i < 2 → At8 R (wq.heap.size + 2) (i * 8) (both2 X Y i)) := Lib.hid (both2_at (by
        rw [hR]
        have := heap_alloc_new ((wq.alloc (.cells (row8 3 z0 0 0 (.slice none 0 0)) 30)).alloc (.cells (row8 4 z0 0 0 (.slice none 0 0)) 30)) (.cells (rowP X ++ rowP Y) 30)
        rwa [show ((wq.alloc (.cells (row8 3 z0 0 0 (.slice none 0 0)) 30)).alloc (.cells (row8 4 z0 0 0 (.slice none 0 0)) 30)).heap.size = wq.heap.size + 2 by simp] at this))
      have HLEN : Hid (∀ (kind : Int) (c : Nat), c ≤ 2 → (joinTo kind (both2 X Y) c).length ≤ c * 101) := Lib.hid fun kind c hc => joinTo_len c fun i hi => by
        have hX : ∀ t : Tr, cnt t ≤ 100 → t.n ≤ 100 := fun t h => by
          have := sumTo_ge (f := fun i => cnt (t.kid i)) (fun i => cnt_pos _) t.n
          have := cnt_dsc t
          unfold dsc at this
          omega
        unfold both2
        split
        · exact hX _ HKX.out.2.2
        · exact hX _ HKY.out.2.2
      have HT : Hid (∀ q, okT (both2 X Y q) 10 = true ∧ cnt (both2 X Y q) ≤ 100 ∧ ∀ wX, Below W.heap.size W wX → Lives wX wX.heap.size (both2 X Y q)) := Lib.hid fun q => by
        unfold both2
        split
        · exact ⟨HKX.out.1, HKX.out.2.2, fun wX h => (HX.out wX h).1⟩
        · exact ⟨HKY.out.1, HKY.out.2.2, fun wX h => (HX.out wX h).2.1⟩
      obtain ⟨i0, hi, hz0, hz1, hz2⟩ := info_parts info27
      clear hR e0 e1 e2 e3 e4 e5 e6 e7 f0 f1 f2 f3 f4 f5 f6 f7 hlt hlt' hj
      go_loopw [53] (fun i wz => ∃ (q : Nat) (vc va : Value), q ≤ 2 ∧ i = .int .i64 q ∧ Hid (KI W R wq.heap.size (both2 X Y) q q vc va wz)) (fun i _ => 2 - (RowKit.intOf i).toNat)
      case atStart => exact ⟨0, _, _, Nat.zero_le _, rfl, Lib.hid (HK0.out _ rfl)⟩
      case round =>
        obtain ⟨q, vc, va, hq, rfl, HK⟩ := hrel
        by_cases hq2 : q < 2
        · have hq' : (q : Int) < 2 := by omega
          obtain ⟨hok, hcn, hlv⟩ := HT.out q
          have hA : At8 wr (wq.heap.size + 1 + 1) (q * 8) (both2 X Y q) := at8_same (HA8.out q hq2) HK.out.br
          have hl3 := HLEN.out 3 q hq
          have hl4 := HLEN.out 4 q hq
          have HJ3 : Hid (joinTo 3 (both2 X Y) (q + 1) = joinTo 3 (both2 X Y) q ++ partL 3 (both2 X Y q)) := Lib.hid rfl
          have HJ4 : Hid (joinTo 4 (both2 X Y) (q + 1) = joinTo 4 (both2 X Y) q ++ partL 4 (both2 X Y q)) := Lib.hid rfl
          obtain ⟨t, ht⟩ : ∃ t, t = both2 X Y q := ⟨_, rfl⟩
          rw [← ht] at hok hcn hlv hA HJ3 HJ4
          clear ht
          have HLV := Lib.hid (hlv wr HK.out.bel)
          have HT2 := Lib.hid hlv
          have hsz := HK.out.size
          have hoc := HK.out.oc
          have hoa := HK.out.oa
          obtain ⟨ac, cc, rfl⟩ := row_slice hoc
          obtain ⟨aa, ca, rfl⟩ := row_slice hoa
          obtain ⟨L3, hL3⟩ : ∃ L, L = joinTo 3 (both2 X Y) q := ⟨_, rfl⟩
          obtain ⟨L4, hL4⟩ : ∃ L, L = joinTo 4 (both2 X Y) q := ⟨_, rfl⟩
          rw [← hL3] at hoc hl3 HJ3 HK
          rw [← hL4] at hoa hl4 HJ4 HK
          have HOC := Lib.hid hoc
          have HOA := Lib.hid hoa
          have htn : t.n ≤ 100 := by
            have := sumTo_ge (f := fun i => cnt (t.kid i)) (fun i => cnt_pos _) t.n
            have := cnt_dsc t
            unfold dsc at this
            omega
          obtain ⟨c0, c1, c2, c3, c4, c5, c6, c7⟩ := hA
          have d7 : ∀ o, (wr.alloc o).cell? ⟨wq.heap.size, 7, none⟩ = some (.slice ac L3.length cc) := fun o => (HK.out.alloc o).look.1
          have HL3 := Lib.hid hL3
          have HL4 := Lib.hid hL4
          clear hlv hoc hoa hL3 hL4
          have d7b : ∀ o o', ((wr.alloc o).alloc o').cell? ⟨wq.heap.size, 7, none⟩ = some (.slice ac L3.length cc) := fun o o' => ((HK.out.alloc o).alloc o').look.1
          by_cases hk3 : t.k = 3
          · have hk4 : ((3 : Int) == 4) = false := rfl
            have HPT := Lib.hid (show partL 3 t = kidsL t.kid t.n by unfold partL; rw [if_pos hk3])
            have HQT := Lib.hid (show partL 4 t = [t] by unfold partL; rw [if_neg (by omega)])
            obtain ⟨gk, ok, hak, hgk, hkc⟩ : ∃ gk ok, t.a = some ⟨gk, ok, none⟩ ∧ gk < wr.heap.size ∧ ∀ i, i < t.n → At8 wr gk (ok + i * 8) (t.kid i) := by
              have h0 := (fits_many_ne (okT_kid hok).1 (by omega)).1
              have := HLV.out
              cases t with
              | nul => exact False.elim this
              | node k s lo hi a n cap kid => exact this.2.2.2.1 (show 0 < n from by have h0' : 2 ≤ n := h0; omega)
            rw [hak] at c7
            have HKC := Lib.hid hkc
            clear hkc
            rw [hk3] at c0
            go_wp2_with (first | (at_builtin; refine wpList_append_own_at _ rfl _ _ 28 rfl (wq.heap.size + 3) 30 i0 _ 8 80 Try.underlying28 hi hz0 hz1 hz2 rfl (by decide) _ _ _ rfl (HOC.out.alloc _) ⟨gk, ok, none⟩ t.n t.cap (flatT (kidsL t.kid t.n)) rfl ?dl ?d1 ?d2 ?d3 ?d4 ?d5 ?_))
            case dl => rw [flatT_len, kidsL_len]
            case d1 => exact kids_news t.n fun i hi => (HKC.out i hi).below hgk (alloc_below wr _)
            case d2 => exact flatT_one_cell _
            case d3 => unfold maxLen; omega
            case d4 => omega
            case d5 => simp; omega
            intro v1 w1 hown1 hgrow _ hat
            have hk := kbox HOC.out hgrow
            have hown' : w1.ownsRow (wq.heap.size + 3) 30 8 v1 (joinTo 3 (both2 X Y) (q + 1)).length (flatT (joinTo 3 (both2 X Y) (q + 1))) := by rw [HJ3.out, HPT.out, List.length_append, kidsL_len, flatT_append]; exact hown1
            have HK1 := Lib.hid ((HK.out.alloc _).cat hgrow (hat.imp id fun e => e.trans (by simp)) hown')
            obtain ⟨g1, g2, g3, g4⟩ := (HK.out.alloc _).grown (Or.inl rfl) hgrow
            obtain ⟨a1', cp1, rfl⟩ := row_slice hown1
            obtain ⟨k0, k1, k2, k3, k4, k5, k6, k7⟩ := cell8 (s := t.s) hk
            have hk' := (Below.heap_setCell w1 ⟨wq.heap.size, 7, none⟩ (.slice a1' (L3.length + t.n) cp1) wr.heap.size (show wr.heap.size ≠ wq.heap.size by omega)).trans hk
            obtain ⟨m0, m1, m2, m3, m4, m5, m6, m7⟩ := cell8 (s := t.s) hk'
            obtain ⟨n1, n2, n3, n4⟩ := HK1.out.look
            have hs1 := hgrow.size
            have HOA1 := Lib.hid HK1.out.oa
            rw [← HL4.out] at HOA1
            clear hk hk' hown1 hgrow hat hown'
            go_wp2_with (first | (at_builtin; refine wpList_append_own_at _ rfl _ _ 28 rfl (wq.heap.size + 3) 30 i0 _ 8 80 Try.underlying28 hi hz0 hz1 hz2 rfl (by decide) _ _ _ rfl (HOA1.out.alloc _) ⟨w1.heap.size, 0, none⟩ 1 1 [.int .i64 3, .int .u64 (t.s 0), .int .u64 (t.s 1), .int .u64 (t.s 2), .int .u64 (t.s 3), .int .i64 t.lo, .int .i64 t.hi, .slice (some ⟨gk, ok, none⟩) t.n t.cap] rfl rfl ?d1 ?d2 ?d3 ?d4 ?d5 ?_))
            case d1 => exact World.news_of_block (cs := row8 3 t.s t.lo t.hi (.slice (some ⟨gk, ok, none⟩) t.n t.cap)) (t := 30) (fr := (0, 0)) (by have := heap_alloc_new (w1.setCell ⟨wq.heap.size, 7, none⟩ (.slice a1' (L3.length + t.n) cp1)) (.cells (row8 3 t.s t.lo t.hi (.slice (some ⟨gk, ok, none⟩) t.n t.cap)) 30); simpa using this)
            case d2 => have := flatT_one_cell [t]; rw [flatT_one] at this; unfold cells8 at this; rw [hk3, hak] at this; exact this
            case d3 => unfold maxLen; omega
            case d4 => omega
            case d5 => simp at hs1 ⊢; omega
            intro v2 w2 hown2 hgrow2 _ hat2
            have hown2' : w2.ownsRow (wq.heap.size + 3) 30 8 v2 (joinTo 4 (both2 X Y) (q + 1)).length (flatT (joinTo 4 (both2 X Y) (q + 1))) := by rw [HJ4.out, HQT.out, List.length_append, flatT_append, flatT_one]; unfold cells8; rw [hk3, hak]; exact hown2
            have HK2 := Lib.hid ((HK1.out.alloc _).altN hgrow2 (hat2.imp id fun e => e.trans (by simp)) hown2')
            obtain ⟨p1, p2, p3, p4⟩ := (HK1.out.alloc _).grown (Or.inr rfl) hgrow2
            obtain ⟨a2', cp2, rfl⟩ := row_slice hown2
            clear hown2 hgrow2 hat2 hown2' k0 k1 k2 k3 k4 k5 k6 k7 m0 m1 m2 m3 m4 m5 m6 m7 n1 n2 n3 n4 g1 g2 g3 g4
            go_wp2
            go_roundw
            case rel => exact ⟨q + 1, _, _, by omega, by go_num, HK2⟩
            case measure => simp [RowKit.intOf]; omega
          · have hk3' : (t.k == 3) = false := by simp [hk3]
            have HPT := Lib.hid (show partL 3 t = [t] by unfold partL; rw [if_neg hk3])
            by_cases hk4 : t.k = 4
            · have HQT := Lib.hid (show partL 4 t = kidsL t.kid t.n by unfold partL; rw [if_pos hk4])
              obtain ⟨gk, ok, hak, hgk, hkc⟩ : ∃ gk ok, t.a = some ⟨gk, ok, none⟩ ∧ gk < wr.heap.size ∧ ∀ i, i < t.n → At8 wr gk (ok + i * 8) (t.kid i) := by
                have h0 := (fits_many_ne (okT_kid hok).1 (by omega)).1
                have := HLV.out
                cases t with
                | nul => exact False.elim this
                | node k s lo hi a n cap kid => exact this.2.2.2.1 (show 0 < n from by have h0' : 2 ≤ n := h0; omega)
              rw [hak] at c7
              have HKC := Lib.hid hkc
              clear hkc
              rw [hk4] at c0
              go_wp2_with (first | (at_builtin; refine wpList_append_own_at _ rfl _ _ 28 rfl (wq.heap.size + 3) 30 i0 _ 8 80 Try.underlying28 hi hz0 hz1 hz2 rfl (by decide) _ _ _ rfl ((HOC.out.alloc _).alloc _) ⟨wr.heap.size + 1, 0, none⟩ 1 1 [.int .i64 4, .int .u64 (t.s 0), .int .u64 (t.s 1), .int .u64 (t.s 2), .int .u64 (t.s 3), .int .i64 t.lo, .int .i64 t.hi, .slice (some ⟨gk, ok, none⟩) t.n t.cap] rfl rfl ?d1 ?d2 ?d3 ?d4 ?d5 ?_))
              case d1 => exact World.news_of_block (cs := row8 4 t.s t.lo t.hi (.slice (some ⟨gk, ok, none⟩) t.n t.cap)) (t := 30) (fr := (0, 0)) (two_newb wr _ _)
              case d2 => have := flatT_one_cell [t]; rw [flatT_one] at this; unfold cells8 at this; rw [hk4, hak] at this; exact this
              case d3 => unfold maxLen; omega
              case d4 => omega
              case d5 => simp; omega
              intro v1 w1 hown1 hgrow _ hat
              have hk := kbox2 HOC.out hgrow
              have hown' : w1.ownsRow (wq.heap.size + 3) 30 8 v1 (joinTo 3 (both2 X Y) (q + 1)).length (flatT (joinTo 3 (both2 X Y) (q + 1))) := by rw [HJ3.out, HPT.out, List.length_append, flatT_append, flatT_one]; unfold cells8; rw [hk4, hak]; exact hown1
              have HK1 := Lib.hid (((HK.out.alloc _).alloc _).cat hgrow (hat.imp id fun e => e.trans (by simp)) hown')
              obtain ⟨g1, g2, g3, g4⟩ := ((HK.out.alloc _).alloc _).grown (Or.inl rfl) hgrow
              have hgb : gk < wr.heap.size := hgk
              have HKC1 : Hid (∀ i, i < t.n → At8 (w1.setCell ⟨wq.heap.size, 7, none⟩ v1) gk (ok + i * 8) (t.kid i)) := Lib.hid (by
                have hl := HT2.out _ HK1.out.bel
                cases t with
                | nul => exact False.elim hl
                | node k s lo hi' a n cap kid =>
                  intro i hi2
                  obtain ⟨g9, o9, e9, _, h9⟩ := hl.2.2.2.1 (show 0 < n from by have : i < n := hi2; omega)
                  have e9' : (some ⟨gk, ok, none⟩ : Option Addr) = some ⟨g9, o9, none⟩ := hak.symm.trans e9
                  cases e9'
                  exact h9 i hi2)
              obtain ⟨a1', cp1, rfl⟩ := row_slice hown1
              obtain ⟨k0, k1, k2, k3, k4, k5, k6, k7⟩ := cell8 (s := t.s) hk
              have hk' := (Below.heap_setCell w1 ⟨wq.heap.size, 7, none⟩ (.slice a1' (L3.length + 1) cp1) wr.heap.size (show wr.heap.size ≠ wq.heap.size by omega)).trans hk
              obtain ⟨m0, m1, m2, m3, m4, m5, m6, m7⟩ := cell8 (s := t.s) hk'
              obtain ⟨n1, n2, n3, n4⟩ := HK1.out.look
              have hs1 := hgrow.size
              have HOA1 := Lib.hid HK1.out.oa
              rw [← HL4.out] at HOA1
              clear hk hk' hown1 hgrow hat hown'
              go_wp2_with (first | (at_builtin; refine wpList_append_own_at _ rfl _ _ 28 rfl (wq.heap.size + 3) 30 i0 _ 8 80 Try.underlying28 hi hz0 hz1 hz2 rfl (by decide) _ _ _ rfl HOA1.out ⟨gk, ok, none⟩ t.n t.cap (flatT (kidsL t.kid t.n)) rfl ?dl ?d1 ?d2 ?d3 ?d4 ?d5 ?_))
              case dl => rw [flatT_len, kidsL_len]
              case d1 => exact kids_news t.n HKC1.out
              case d2 => exact flatT_one_cell _
              case d3 => unfold maxLen; omega
              case d4 => omega
              case d5 => simp at hs1 ⊢; omega
              intro v2 w2 hown2 hgrow2 _ hat2
              have hown2' : w2.ownsRow (wq.heap.size + 3) 30 8 v2 (joinTo 4 (both2 X Y) (q + 1)).length (flatT (joinTo 4 (both2 X Y) (q + 1))) := by rw [HJ4.out, HQT.out, List.length_append, kidsL_len, flatT_append]; exact hown2
              have HK2 := Lib.hid (HK1.out.altN hgrow2 (hat2.imp id fun e => e.trans (by simp)) hown2')
              obtain ⟨p1, p2, p3, p4⟩ := HK1.out.grown (Or.inr rfl) hgrow2
              obtain ⟨a2', cp2, rfl⟩ := row_slice hown2
              clear hown2 hgrow2 hat2 hown2' k0 k1 k2 k3 k4 k5 k6 k7 m0 m1 m2 m3 m4 m5 m6 m7 n1 n2 n3 n4 g1 g2 g3 g4
              go_wp2
              go_roundw
              case rel => exact ⟨q + 1, _, _, by omega, by go_num, HK2⟩
              case measure => simp [RowKit.intOf]; omega
            · have hk4' : (t.k == 4) = false := by simp [hk4]
              have HQT := Lib.hid (show partL 4 t = [t] by unfold partL; rw [if_neg hk4])
              go_wp2_with (first | (at_builtin; refine wpList_append_own_at _ rfl _ _ 28 rfl (wq.heap.size + 3) 30 i0 _ 8 80 Try.underlying28 hi hz0 hz1 hz2 rfl (by decide) _ _ _ rfl ((HOC.out.alloc _).alloc _) ⟨wr.heap.size + 1, 0, none⟩ 1 1 (cells8 t) rfl rfl ?d1 ?d2 ?d3 ?d4 ?d5 ?_))
              case d1 => exact World.news_of_block (cs := rowP t) (t := 30) (fr := (0, 0)) (two_newb wr _ _)
              case d2 => have := flatT_one_cell [t]; rwa [flatT_one] at this
              case d3 => unfold maxLen; omega
              case d4 => omega
              case d5 => simp; omega
              intro v1 w1 hown1 hgrow _ hat
              have hk := kbox2 HOC.out hgrow
              have hown' : w1.ownsRow (wq.heap.size + 3) 30 8 v1 (joinTo 3 (both2 X Y) (q + 1)).length (flatT (joinTo 3 (both2 X Y) (q + 1))) := by rw [HJ3.out, HPT.out, List.length_append, flatT_append, flatT_one]; exact hown1
              have HK1 := Lib.hid (((HK.out.alloc _).alloc _).cat hgrow (hat.imp id fun e => e.trans (by simp)) hown')
              obtain ⟨g1, g2, g3, g4⟩ := ((HK.out.alloc _).alloc _).grown (Or.inl rfl) hgrow
              obtain ⟨a1', cp1, rfl⟩ := row_slice hown1
              obtain ⟨k0, k1, k2, k3, k4, k5, k6, k7⟩ := cell8 (s := t.s) hk
              have hk' := (Below.heap_setCell w1 ⟨wq.heap.size, 7, none⟩ (.slice a1' (L3.length + 1) cp1) wr.heap.size (show wr.heap.size ≠ wq.heap.size by omega)).trans hk
              obtain ⟨m0, m1, m2, m3, m4, m5, m6, m7⟩ := cell8 (s := t.s) hk'
              obtain ⟨n1, n2, n3, n4⟩ := HK1.out.look
              have hs1 := hgrow.size
              have HOA1 := Lib.hid HK1.out.oa
              rw [← HL4.out] at HOA1
              clear hk hk' hown1 hgrow hat hown'
              go_wp2_with (first | (at_builtin; refine wpList_append_own_at _ rfl _ _ 28 rfl (wq.heap.size + 3) 30 i0 _ 8 80 Try.underlying28 hi hz0 hz1 hz2 rfl (by decide) _ _ _ rfl (HOA1.out.alloc _) ⟨w1.heap.size, 0, none⟩ 1 1 (cells8 t) rfl rfl ?d1 ?d2 ?d3 ?d4 ?d5 ?_))
              case d1 => exact World.news_of_block (cs := rowP t) (t := 30) (fr := (0, 0)) (by have := heap_alloc_new (w1.setCell ⟨wq.heap.size, 7, none⟩ (.slice a1' (L3.length + 1) cp1)) (.cells (rowP t) 30); simpa using this)
              case d2 => have := flatT_one_cell [t]; rwa [flatT_one] at this
              case d3 => unfold maxLen; omega
              case d4 => omega
              case d5 => simp at hs1 ⊢; omega
              intro v2 w2 hown2 hgrow2 _ hat2
              have hown2' : w2.ownsRow (wq.heap.size + 3) 30 8 v2 (joinTo 4 (both2 X Y) (q + 1)).length (flatT (joinTo 4 (both2 X Y) (q + 1))) := by rw [HJ4.out, HQT.out, List.length_append, flatT_append, flatT_one]; exact hown2
              have HK2 := Lib.hid ((HK1.out.alloc _).altN hgrow2 (hat2.imp id fun e => e.trans (by simp)) hown2')
              obtain ⟨p1, p2, p3, p4⟩ := (HK1.out.alloc _).grown (Or.inr rfl) hgrow2
              obtain ⟨a2', cp2, rfl⟩ := row_slice hown2
              clear hown2 hgrow2 hat2 hown2' k0 k1 k2 k3 k4 k5 k6 k7 m0 m1 m2 m3 m4 m5 m6 m7 n1 n2 n3 n4 g1 g2 g3 g4
              go_wp2
              go_roundw
              case rel => exact ⟨q + 1, _, _, by omega, by go_num, HK2⟩
              case measure => simp [RowKit.intOf]; omega
        · have hq' : ¬ (q : Int) < 2 := by omega
          obtain rfl : q = 2 := by omega
          have h3 := HK.out.oc
          have h4 := HK.out.oa
          rw [join_both] at h3 h4
          obtain ⟨ac, cc, rfl⟩ := row_slice h3
          obtain ⟨aa, ca, rfl⟩ := row_slice h4
          have hXY := HX.out wr HK.out.bel
          have hpart : ∀ kind, ∀ u ∈ partL kind X ++ partL kind Y, Lives wr wr.heap.size u := fun kind u hu => by
            have one : ∀ t : Tr, Lives wr wr.heap.size t → u ∈ partL kind t → Lives wr wr.heap.size u := fun t ht hu => by
              unfold partL at hu
              split at hu
              · obtain ⟨i, hi, rfl⟩ := kidsL_mem hu
                exact ht.kids i hi
              · rw [List.mem_singleton.1 hu]; exact ht
            rcases List.mem_append.1 hu with q | q
            · exact one X hXY.1 q
            · exact one Y hXY.2.1 q
          have hl3 : 1 ≤ (partL 3 X ++ partL 3 Y).length := by have := (part_ok (kind := 3) (Or.inl rfl) HKX.out.1).1; rw [List.length_append]; omega
          have hl4 : 1 ≤ (partL 4 X ++ partL 4 Y).length := by have := (part_ok (kind := 4) (Or.inr rfl) HKX.out.1).1; rw [List.length_append]; omega
          obtain ⟨g3, cp3, e3, _, _, hLC⟩ := rowT_lives 3 h3 hl3 (hpart 3) (Nat.le_refl _)
          obtain ⟨g4, cp4, e4, _, _, hLA⟩ := rowT_lives 4 h4 hl4 (hpart 4) (Nat.le_refl _)
          cases e3
          cases e4
          have HRC := Lib.hid (both_right (kind := 3) (Or.inl rfl) HKX.out.1 HKY.out.1 HKX.out.2.1 HKY.out.2.1 HKX.out.2.2 HKY.out.2.2 (some ⟨g3, 0, none⟩) cc)
          have HRA := Lib.hid (both_right (kind := 4) (Or.inr rfl) HKX.out.1 HKY.out.1 HKX.out.2.1 HKY.out.2.1 HKX.out.2.2 HKY.out.2.2 (some ⟨g4, 0, none⟩) ca)
          have HEC := Lib.hid (HP.out.trans (mat_cat (S := S) (x := X) (y := Y) (a := some ⟨g3, 0, none⟩) (cap := cc) (by omega) HRC.out).symm)
          have HEA := Lib.hid (mat_alt (S := S) (x := X) (y := Y) (a := some ⟨g4, 0, none⟩) (cap := ca) (by omega) HRX.out HRY.out HRA.out)
          have HBE := Lib.hid HK.out.bel
          have hszk := HK.out.size
          have hsV := HK.out.bel.size
          have HBC := Lib.hid HK.out.bc
          have HBA := Lib.hid HK.out.ba
          obtain ⟨n3, hn3⟩ : ∃ n, n = (partL 3 X ++ partL 3 Y).length := ⟨_, rfl⟩
          obtain ⟨n4, hn4⟩ : ∃ n, n = (partL 4 X ++ partL 4 Y).length := ⟨_, rfl⟩
          have HMC : Hid (∀ wX, Below wr.heap.size wr wX → Calls Try.prog 11 #[nodeV 3 z0 0 0 (.slice (some ⟨g3, 0, none⟩) n3 cc), .string S] wX fun e w' => e = .returned (.bool b) ∧ Below wr.heap.size wr w') := Lib.hid fun wX hb => by
            rw [hn3]
            exact mat_bool (t := rowT 3 (some ⟨g3, 0, none⟩) cc (partL 3 X ++ partL 3 Y)) (hLC.now hb) hb HEC.out
          have HMA : Hid (∀ (bA : Bool), (bA = true ↔ (matB S X ∨ matB S Y)) → ∀ wX, Below wr.heap.size wr wX → Calls Try.prog 11 #[nodeV 4 z0 0 0 (.slice (some ⟨g4, 0, none⟩) n4 ca), .string S] wX fun e w' => e = .returned (.bool bA) ∧ Below wr.heap.size wr w') := Lib.hid fun bA hA wX hb => by
            rw [hn4]
            exact mat_bool (t := rowT 4 (some ⟨g4, 0, none⟩) ca (partL 4 X ++ partL 4 Y)) (hLA.now hb) hb (hA.trans HEA.out.symm)
          have HM1 : Hid (∀ (b1 : Bool), (b1 = true ↔ matB S X) → ∀ wX, Below wr.heap.size wr wX → Calls Try.prog 11 #[valP X, .string S] wX fun e w' => e = .returned (.bool b1) ∧ Below wr.heap.size wr w') := Lib.hid fun b1 h1 wX hb => mat_bool (HX.out wX (HBE.out.trans (hb.mono hsV))).1 hb h1
          have HM2 : Hid (∀ (b1 : Bool), (b1 = true ↔ matB S Y) → ∀ wX, Below wr.heap.size wr wX → Calls Try.prog 11 #[valP Y, .string S] wX fun e w' => e = .returned (.bool b1) ∧ Below wr.heap.size wr w') := Lib.hid fun b1 h1 wX hb => mat_bool (HX.out wX (HBE.out.trans (hb.mono hsV))).2.1 hb h1
          rw [← hn3] at HBC
          rw [← hn4] at HBA
          have HCC := Lib.hid (fun wX (hb : Below wr.heap.size wr wX) => cell8 (s := z0) ((hb.block _ (show wq.heap.size < wr.heap.size by omega)).trans HBC.out))
          have HCA := Lib.hid (fun wX (hb : Below wr.heap.size wr wX) => cell8 (s := z0) ((hb.block _ (show wq.heap.size + 1 < wr.heap.size by omega)).trans HBA.out))
          have HCX := Lib.hid (fun wX (hb : Below wr.heap.size wr wX) => cell8 (s := X.s) (HX.out wX (HBE.out.trans (hb.mono hsV))).2.2.1)
          have HCY := Lib.hid (fun wX (hb : Below wr.heap.size wr wX) => cell8 (s := Y.s) (HX.out wX (HBE.out.trans (hb.mono hsV))).2.2.2)
          clear h3 h4 hXY hpart hl3 hl4 hLC hLA hn3 hn4
          obtain ⟨c0, c1, c2, c3, c4, c5, c6, c7⟩ := HCC.out wr (Below.refl _ _)
          by_cases mX : matB S X
          · have HA1 := Lib.hid (HMA.out true ⟨fun _ => Or.inl mX, fun _ => rfl⟩)
            have HX1 := Lib.hid (HM1.out true ⟨fun _ => mX, fun _ => rfl⟩)
            clear mX
            go_wp2
            first | (go_region_with (first
              | (go_at_call 11; refine (HX1.out w8 hb8).mono ?_; rintro e w9 ⟨rfl, hb9⟩)
              | (go_at_call 11; refine (HA1.out w7 hb7).mono ?_; rintro e w8 ⟨rfl, hb8⟩; obtain ⟨r0, r1, r2, r3, r4, r5, r6, r7⟩ := HCX.out w8 hb8)
              | (go_at_call 11; refine (HMC.out _ (Below.refl _ _).drew).mono ?_; rintro e w7 ⟨rfl, hb7⟩; obtain ⟨d0, d1, d2, d3, d4, d5, d6, d7⟩ := HCA.out w7 hb7; obtain ⟨s0, s1, s2, s3, s4, s5, s6, s7⟩ := HCX.out w7 hb7))) | fail
            all_goals
              go_wp2
              go_ret
              exact ⟨by cases b <;> rfl, HBW.out.trans ((HBE.out.trans (hb9.mono hsV)).mono HBW.out.size)⟩
          · have HX1 := Lib.hid (HM1.out false ⟨fun h => (by cases h), fun h => absurd h mX⟩)
            by_cases mY : matB S Y
            · have HA1 := Lib.hid (HMA.out true ⟨fun _ => Or.inr mY, fun _ => rfl⟩)
              have HY1 := Lib.hid (HM2.out true ⟨fun _ => mY, fun _ => rfl⟩)
              clear mX mY
              go_wp2
              first | (go_region_with (first
                | (go_at_call 11; refine (HY1.out w9 hb9).mono ?_; rintro e w10 ⟨rfl, hb10⟩)
                | (go_at_call 11; refine (HX1.out w8 hb8).mono ?_; rintro e w9 ⟨rfl, hb9⟩; obtain ⟨y0, y1, y2, y3, y4, y5, y6, y7⟩ := HCY.out w9 hb9)
                | (go_at_call 11; refine (HA1.out w7 hb7).mono ?_; rintro e w8 ⟨rfl, hb8⟩; obtain ⟨r0, r1, r2, r3, r4, r5, r6, r7⟩ := HCX.out w8 hb8)
                | (go_at_call 11; refine (HMC.out _ (Below.refl _ _).drew).mono ?_; rintro e w7 ⟨rfl, hb7⟩; obtain ⟨d0, d1, d2, d3, d4, d5, d6, d7⟩ := HCA.out w7 hb7; obtain ⟨s0, s1, s2, s3, s4, s5, s6, s7⟩ := HCX.out w7 hb7))) | fail
              all_goals
                go_wp2
                go_ret
                exact ⟨by cases b <;> rfl, HBW.out.trans ((HBE.out.trans (hb10.mono hsV)).mono HBW.out.size)⟩
            · have HA1 := Lib.hid (HMA.out false ⟨fun h => (by cases h), fun h => absurd h (fun q => q.elim mX mY)⟩)
              have HY1 := Lib.hid (HM2.out false ⟨fun h => (by cases h), fun h => absurd h mY⟩)
              clear mX mY
              go_wp2
              first | (go_region_with (first
                | (go_at_call 11; refine (HY1.out w9 hb9).mono ?_; rintro e w10 ⟨rfl, hb10⟩)
                | (go_at_call 11; refine (HX1.out w8 hb8).mono ?_; rintro e w9 ⟨rfl, hb9⟩; obtain ⟨y0, y1, y2, y3, y4, y5, y6, y7⟩ := HCY.out w9 hb9)
                | (go_at_call 11; refine (HA1.out w7 hb7).mono ?_; rintro e w8 ⟨rfl, hb8⟩; obtain ⟨r0, r1, r2, r3, r4, r5, r6, r7⟩ := HCX.out w8 hb8)
                | (go_at_call 11; refine (HMC.out _ (Below.refl _ _).drew).mono ?_; rintro e w7 ⟨rfl, hb7⟩; obtain ⟨d0, d1, d2, d3, d4, d5, d6, d7⟩ := HCA.out w7 hb7; obtain ⟨s0, s1, s2, s3, s4, s5, s6, s7⟩ := HCX.out w7 hb7))) | fail
              all_goals
                go_wp2
                go_ret
                exact ⟨by cases b <;> rfl, HBW.out.trans ((HBE.out.trans (hb10.mono hsV)).mono HBW.out.size)⟩
end Go.Proofs.Ytecngmnfbdbjfaa
