/- MatchFirst's walk. -/
import Derived.Test.YtecngmnfbdbjfaaEz
namespace Go.Proofs.Ytecngmnfbdbjfaa
open Go.RowKit Go.Maps Go
theorem keep8 {w w1 : World} {p : Nat} {t : Tr} (hp : p < w.heap.size) (hc : w.heap[p]? = some (.cells (row8 t.k t.s t.lo t.hi (.slice t.a t.n t.cap)) 30 (0, 0))) (h : Below w.heap.size w w1) :
    Below w.heap.size w w1 ∧ w1.cell? ⟨p, 0, none⟩ = some (.int .i64 t.k) ∧ w1.cell? ⟨p, 1, none⟩ = some (.int .u64 (t.s 0)) ∧ w1.cell? ⟨p, 2, none⟩ = some (.int .u64 (t.s 1)) ∧ w1.cell? ⟨p, 3, none⟩ = some (.int .u64 (t.s 2)) ∧ w1.cell? ⟨p, 4, none⟩ = some (.int .u64 (t.s 3)) ∧ w1.cell? ⟨p, 5, none⟩ = some (.int .i64 t.lo) ∧ w1.cell? ⟨p, 6, none⟩ = some (.int .i64 t.hi) ∧ w1.cell? ⟨p, 7, none⟩ = some (.slice t.a t.n t.cap) :=
  ⟨h, cell8 (s := t.s) ((h.block p hp).trans hc)⟩
set_option maxRecDepth 100000 in
set_option maxHeartbeats 1500000 in
theorem first_walk (a a2 : Option Addr) (n cap n2 cap2 : Nat) (F F2 : Nat → Int) (at' : Int) (w : World) (h : ByteRow w a n F) (hF : ∀ i, 0 ≤ F i ∧ F i < 256) (hn : n ≤ cap) (hc : cap ≤ maxLen) (h2 : ByteRow w a2 n2 F2) (hF2 : ∀ i, 0 ≤ F2 i ∧ F2 i < 256) (hn2 : n2 ≤ cap2) (hc2 : cap2 ≤ maxLen) (hat : 0 ≤ at' ∧ at' < 256) :
    Calls Try.prog 6 #[.slice a n cap, .slice a2 n2 cap2, .int .u8 at'] w fun e w' => e = .returned (.bool true) ∧ Below w.heap.size w w' := by
  have HMD : Hid (∀ w1, Below w.heap.size w w1 → Calls Try.prog 9 #[.slice a n cap] w1 (MadeI w1)) := Lib.hid fun w1 hb => made_any w1 a n cap F (h.below hb) hF hn hc
  have HTX : Hid (∀ w1, Below w.heap.size w w1 → Calls Try.prog 10 #[.slice a2 n2 cap2] w1 fun e w' => ∃ S : ByteArray, e = .returned (.string S) ∧ S.size ≤ 12 ∧ Below w1.heap.size w1 w') := Lib.hid fun w1 hb => text_any a2 n2 cap2 F2 w1 (h2.below hb) hF2 (by unfold maxLen at hc2; omega)
  have HAW := Lib.hid (awake5_any w)
  clear h hF hn hc h2 hF2 hn2 hc2
  have ha0 := hat.1
  have ha1 := hat.2
  clear hat
  go_enter Try.func6, Try.ntmps6
  go_wp2_with fail
  refine HAW.out.mono ?_
  rintro e w1 ⟨rfl, hb1⟩
  have HB1 := Lib.hid hb1
  clear hb1
  go_wp2_with fail
  refine (HMD.out w1 HB1.out).mono ?_
  rintro e w2 ⟨T, rfl, hok, hsz, ⟨hcn, _⟩, hL, hb2⟩
  have HB2 := Lib.hid (HB1.out.trans (hb2.mono HB1.out.size))
  have HRT := Lib.hid (made_right hok hsz hcn)
  have HL := Lib.hid hL
  clear hok hsz hcn hL hb2
  go_wp2_with fail
  refine (HTX.out w2 HB2.out).mono ?_
  rintro e w3 ⟨S, rfl, hS, hb3⟩
  have HB3 := Lib.hid (HB2.out.trans (hb3.mono HB2.out.size))
  have HL3 := Lib.hid (HL.out.now hb3)
  obtain ⟨k, hk, hkS⟩ : ∃ k : Nat, at'.tmod ((S.size : Int) + 1) = (k : Int) ∧ k ≤ S.size := by
    refine ⟨(at' % ((S.size : Int) + 1)).toNat, ?_, ?_⟩
    · rw [Int.tmod_eq_emod_of_nonneg ha0]; have := Int.emod_nonneg at' (show (S.size : Int) + 1 ≠ 0 by omega); omega
    · have := Int.emod_lt_of_pos at' (show (0 : Int) < (S.size : Int) + 1 by omega); omega
  obtain ⟨R, hR⟩ : ∃ R, R = mt (nx S) S.size T k := ⟨_, rfl⟩
  have HE : Hid (∀ o, Calls Try.prog 13 #[nodeV T.k T.s T.lo T.hi (.slice T.a T.n T.cap), .string S, .int .i64 (k : Int)] (w3.alloc o) fun e w' => ∃ v, e = .returned v ∧ w'.ownsRow (w3.alloc o).heap.size 3 1 v (lst S.size R).length (natV (lst S.size R)) ∧ Below (w3.alloc o).heap.size (w3.alloc o) w') := Lib.hid fun o => by
    have := ends_any S T (k : Int) (w3.alloc o) (HL3.out.now (alloc_below _ _))
    have e : endsL S T (k : Int) = lst S.size R := by
      unfold endsL
      rw [if_pos ⟨HRT.out, by omega, by omega, by omega⟩, hR]
      rfl
    unfold EndsP at this
    rw [e] at this
    exact this
  have HMA : Hid (∀ wX, Below w3.heap.size w3 wX → ∀ j, k ≤ j → j ≤ S.size → Calls Try.prog 11 #[nodeV T.k T.s T.lo T.hi (.slice T.a T.n T.cap), .string (S.extract k j)] wX fun e w' => ∃ b : Bool, e = .returned (.bool b) ∧ (b = true ↔ R j) ∧ Below wX.heap.size wX w') := Lib.hid fun wX hb j h1 h2 => (match_any (S.extract k j) T wX (HL3.out.now hb)).mono (by
    rintro e w' ⟨b, rfl, hq, hb'⟩
    exact ⟨b, rfl, hq.trans (by rw [mat_sub S T h1 h2 (by omega) HRT.out, hR]), hb'⟩)
  have HZ : Hid (blw R k = 0) := Lib.hid (blw_zero fun i hi q => by rw [hR] at q; have := mt_up _ _ T k i q; omega)
  have hz1 : ¬ (S.size : Int) + 1 = 0 := by omega
  clear hb3 hR
  go_wp2_with fail
  refine (HE.out _).mono ?_
  rintro e w4 ⟨v, rfl, hrow, hb4⟩
  obtain ⟨av, cv, rfl, hlm, hcells⟩ := natV_has hrow
  have HBX := Lib.hid (box_kept hb4)
  have HB4 := Lib.hid (box_below hb4)
  have hs4 := hb4.size
  simp at hs4
  have HCL := Lib.hid hcells
  have HLL := Lib.hid (blw_all S.size R)
  have HAT : Hid (∀ j, j ≤ S.size → ((blw R j < (lst S.size R).length ∧ (lst S.size R).getD (blw R j) 0 = j) ↔ R j)) := Lib.hid fun j hj => blw_at hj
  have hll := lst_le S.size R
  obtain ⟨l, hl⟩ : ∃ l, l = lst S.size R := ⟨_, rfl⟩
  rw [← hl] at HCL HLL HAT hll hlm ⊢
  obtain ⟨m, hm⟩ : ∃ m, m = l.length := ⟨_, rfl⟩
  rw [← hm] at HCL HLL HAT hll hlm ⊢
  clear hrow hb4 hcells hl hm hk hz1 hlm ha0 ha1
  go_wp2
  go_loopw [12, 13] (fun i nn wr => ∃ j : Nat, k ≤ j ∧ j ≤ S.size + 1 ∧ nn = .int .i64 j ∧ i = .int .i64 (blw R j) ∧ Below w4.heap.size w4 wr) (fun _ nn _ => S.size + 1 - (RowKit.intOf nn).toNat)
  case atStart => exact ⟨k, Nat.le_refl _, by omega, rfl, by rw [HZ.out]; rfl, Below.refl _ _⟩
  case round =>
    obtain ⟨j, hkj, hjS, rfl, rfl, hbr⟩ := hrel
    by_cases hlt : j ≤ S.size
    · have hlt' : (j : Int) ≤ (S.size : Int) := by omega
      have hkj' : (k : Int) ≤ (j : Int) := by omega
      have HBR := Lib.hid hbr
      have hsr := hbr.size
      have HK8 := Lib.hid (fun w' => keep8 (w := wr) (w1 := w') (t := T) (p := w3.heap.size) (by omega) ((hbr.block _ (by omega)).trans HBX.out))
      have HA := HAT.out j hlt
      have HMQ : Hid (∀ wX, Below wr.heap.size wr wX → Calls Try.prog 11 #[nodeV T.k T.s T.lo T.hi (.slice T.a T.n T.cap), .string (S.extract k j)] wX fun e w' => ∃ b : Bool, e = .returned (.bool b) ∧ (b = true ↔ R j) ∧ Below wr.heap.size wr w') := Lib.hid (fun wX (hb : Below wr.heap.size wr wX) => (HMA.out wX ((HB4.out.trans (hbr.mono (by omega))).trans (hb.mono (by omega))) j hkj hlt).mono (by
        rintro e w' ⟨bb, h1, h2, h3⟩
        exact ⟨bb, h1, h2, hb.trans (h3.mono hb.size)⟩))
      have HNX : Hid (∀ w', Below wr.heap.size wr w' → Below w4.heap.size w4 w') := Lib.hid fun w' hb => HBR.out.trans (hb.mono hsr)
      clear hbr
      obtain ⟨b, hb⟩ : ∃ b, b = blw R j := ⟨_, rfl⟩
      rw [← hb] at HA ⊢
      by_cases hR : R j
      · have HSU := Lib.hid (blw_yes hR)
        rw [← hb] at HSU
        obtain ⟨hbm, hbj⟩ := HA.2 hR
        obtain ⟨gv, rfl, hgv, hcc⟩ := HCL.out (by omega)
        have d := hcc b hbm
        rw [hbj] at d
        have d' := (HBR.out.cell (p := ⟨gv, b, none⟩) hgv).trans d
        have hbm' : (b : Int) < (m : Int) := by omega
        have HRR := Lib.hid hR
        have hb300 : b ≤ 300 := by omega
        clear hb HA hbj hcc d hR
        go_wp2
        go_region_held3 (fun w' => Below wr.heap.size wr w' ∧ w'.cell? ⟨w3.heap.size, 0, none⟩ = some (.int .i64 T.k) ∧ w'.cell? ⟨w3.heap.size, 1, none⟩ = some (.int .u64 (T.s 0)) ∧ w'.cell? ⟨w3.heap.size, 2, none⟩ = some (.int .u64 (T.s 1)) ∧ w'.cell? ⟨w3.heap.size, 3, none⟩ = some (.int .u64 (T.s 2)) ∧ w'.cell? ⟨w3.heap.size, 4, none⟩ = some (.int .u64 (T.s 3)) ∧ w'.cell? ⟨w3.heap.size, 5, none⟩ = some (.int .i64 T.lo) ∧ w'.cell? ⟨w3.heap.size, 6, none⟩ = some (.int .i64 T.hi) ∧ w'.cell? ⟨w3.heap.size, 7, none⟩ = some (.slice T.a T.n T.cap))
          ((refine HK8.out _ ?_; first | assumption | exact (Below.refl _ _).drew))
          (first | (go_at_call 11; go_split_ands; refine (HMQ.out _ (by assumption)).mono ?_; rintro e w5 ⟨bb, rfl, hbb, hb5⟩))
        obtain rfl : bb = true := hbb.2 HRR.out
        have HN5 := Lib.hid (HNX.out w5 hb5)
        clear hbb hb5
        go_wp2
        go_roundw
        case rel => exact ⟨j + 1, by omega, by omega, by go_num, by rw [HSU.out]; go_num, HN5.out⟩
        case measure => simp [RowKit.intOf]; omega
      · have HSU := Lib.hid (blw_no hR)
        rw [← hb] at HSU
        have HNR := Lib.hid hR
        have hb300 : b ≤ 300 ∨ 300 < b := by omega
        by_cases hbm : b < m
        · obtain ⟨gv, rfl, hgv, hcc⟩ := HCL.out (by omega)
          have d := hcc b hbm
          have d' := (HBR.out.cell (p := ⟨gv, b, none⟩) hgv).trans d
          obtain ⟨x, hx⟩ : ∃ x, x = l.getD b 0 := ⟨_, rfl⟩
          rw [← hx] at d'
          have hxj : ((x : Int) == (j : Int)) = false := by
            have : x ≠ j := fun e => hR (HA.1 ⟨hbm, by rw [← hx, e]⟩)
            simp; omega
          have hbm' : (b : Int) < (m : Int) := by omega
          clear hb HA hcc d hR hx
          go_wp2
          go_region_held3 (fun w' => Below wr.heap.size wr w' ∧ w'.cell? ⟨w3.heap.size, 0, none⟩ = some (.int .i64 T.k) ∧ w'.cell? ⟨w3.heap.size, 1, none⟩ = some (.int .u64 (T.s 0)) ∧ w'.cell? ⟨w3.heap.size, 2, none⟩ = some (.int .u64 (T.s 1)) ∧ w'.cell? ⟨w3.heap.size, 3, none⟩ = some (.int .u64 (T.s 2)) ∧ w'.cell? ⟨w3.heap.size, 4, none⟩ = some (.int .u64 (T.s 3)) ∧ w'.cell? ⟨w3.heap.size, 5, none⟩ = some (.int .i64 T.lo) ∧ w'.cell? ⟨w3.heap.size, 6, none⟩ = some (.int .i64 T.hi) ∧ w'.cell? ⟨w3.heap.size, 7, none⟩ = some (.slice T.a T.n T.cap))
            ((refine HK8.out _ ?_; first | assumption | exact (Below.refl _ _).drew))
            (first | (go_at_call 11; go_split_ands; refine (HMQ.out _ (by assumption)).mono ?_; rintro e w5 ⟨bb, rfl, hbb, hb5⟩))
          obtain rfl : bb = false := by
            cases bb
            · rfl
            · exact absurd (hbb.1 rfl) HNR.out
          have HN5 := Lib.hid (HNX.out w5 hb5)
          clear hbb hb5
          go_wp2
          go_roundw
          case rel => exact ⟨j + 1, by omega, by omega, by go_num, by rw [HSU.out], HN5.out⟩
          case measure => simp [RowKit.intOf]; omega
        · have hbm' : ¬ (b : Int) < (m : Int) := by omega
          clear hb HA hR
          go_wp2
          go_region_held3 (fun w' => Below wr.heap.size wr w' ∧ w'.cell? ⟨w3.heap.size, 0, none⟩ = some (.int .i64 T.k) ∧ w'.cell? ⟨w3.heap.size, 1, none⟩ = some (.int .u64 (T.s 0)) ∧ w'.cell? ⟨w3.heap.size, 2, none⟩ = some (.int .u64 (T.s 1)) ∧ w'.cell? ⟨w3.heap.size, 3, none⟩ = some (.int .u64 (T.s 2)) ∧ w'.cell? ⟨w3.heap.size, 4, none⟩ = some (.int .u64 (T.s 3)) ∧ w'.cell? ⟨w3.heap.size, 5, none⟩ = some (.int .i64 T.lo) ∧ w'.cell? ⟨w3.heap.size, 6, none⟩ = some (.int .i64 T.hi) ∧ w'.cell? ⟨w3.heap.size, 7, none⟩ = some (.slice T.a T.n T.cap))
            ((refine HK8.out _ ?_; first | assumption | exact (Below.refl _ _).drew))
            (first | (go_at_call 11; go_split_ands; refine (HMQ.out _ (by assumption)).mono ?_; rintro e w5 ⟨bb, rfl, hbb, hb5⟩))
          obtain rfl : bb = false := by
            cases bb
            · rfl
            · exact absurd (hbb.1 rfl) HNR.out
          have HN5 := Lib.hid (HNX.out w5 hb5)
          clear hbb hb5
          go_wp2
          go_roundw
          case rel => exact ⟨j + 1, by omega, by omega, by go_num, by rw [HSU.out], HN5.out⟩
          case measure => simp [RowKit.intOf]; omega
    · have hlt' : ¬ (j : Int) ≤ (S.size : Int) := by omega
      obtain rfl : j = S.size + 1 := by omega
      have HEQ : Hid (blw R (S.size + 1) = m) := Lib.hid HLL.out
      rw [HEQ.out]
      have HFN : Hid (Below w.heap.size w wr) := Lib.hid ((HB3.out.trans (HB4.out.mono HB3.out.size)).trans (hbr.mono (by have := HB3.out.size; omega)))
      clear hbr
      go_wp2
      go_ret
      exact ⟨rfl, HFN.out⟩
end Go.Proofs.Ytecngmnfbdbjfaa
