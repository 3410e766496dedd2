/- The law PartTold: its walk. -/
import Derived.Test.YtjjnpobppmmgbaaT
import Derived.Test.YtjjnpobppmmgbaaU
import Derived.Test.YtjjnpobppmmgbaaE
namespace Go.Proofs.Ytjjnpobppmmgbaa
open Go.RowKit
/-- The first loop's relation. -/
def ToldRel (fs : List (Nat → Int)) (a b n : Nat) (w : World) (sm i : Value) (wx : World) : Prop :=
  ∃ (j : Nat) (q : Bool), j ≤ n ∧ i = .int .i64 j ∧ sm = .bool q ∧ Hid (alike (fs.take j) a b = q) ∧ Below w.heap.size w wx
theorem alike_step {fs : List (Nat → Int)} {i a b : Nat} (h : i < fs.length) (hi : alike (fs.take i) a b = true) : alike (fs.take (i + 1)) a b = (hasI (getF fs i) a == hasI (getF fs i) b) := by
  rw [alike_take h, andR, hi, Bool.true_and]
theorem alike_still {fs : List (Nat → Int)} {i a b : Nat} (h : i < fs.length) (hi : alike (fs.take i) a b = false) : alike (fs.take (i + 1)) a b = false := by
  rw [alike_take h, andR, hi, Bool.false_and]
set_option maxRecDepth 100000 in
set_option maxHeartbeats 8000000 in
theorem partTold_any (qs : List (Nat → Int)) (v : Value) (a b : Nat) (ha : a < 256) (hb : b < 256) (w : World) (hf : QuadsAt w v qs) :
    Calls Try.prog 7 #[v, .int .u8 a, .int .u8 b] w fun e w' => e = .returned (.bool true) ∧ Below w.heap.size w w' := by
  go_enter Try.func7, Try.ntmps7
  go_wp2_with fail
  refine (awake_any _).mono ?_
  rintro e w1 ⟨rfl, hb1⟩
  have hf1 := hf.below hb1
  go_wp2_with fail
  refine (runs_any qs _ _ hf1).mono ?_
  rintro e w2 ⟨v2, fs, rfl, hl, _, hown, hb2⟩
  have hs := sets_of_row hown (by omega)
  have hB2 : Below w.heap.size w w2 := hb1.trans (hb2.mono hb1.size)
  clear hown hb1 hb2 hf hf1
  go_wp2_with fail
  refine (split_any fs _ _ hs).mono ?_
  rintro e w3 ⟨rfl, hr3, hb3⟩
  have hB3 : Below w.heap.size w w3 := hB2.trans (hb3.mono hB2.size)
  have HR3 := Lib.hid hr3
  have hp3 : w2.heap.size < w3.heap.size := by
    rcases Nat.lt_or_ge w2.heap.size w3.heap.size with h | h
    · exact h
    · rw [Array.getElem?_eq_none h] at hr3; cases hr3
  obtain ⟨ad, cap, rfl, _, hc⟩ := hs.below hb3
  have HC := Lib.hid hc
  have E := eqv_alike fs
  have hN0 := cnt_pos (alike fs) (n := 256) (by omega)
  have hN1 := cnt_le (alike fs) 256
  clear hr3 hb3 hB2 hs hc
  generalize w2.heap.size = p at *
  obtain ⟨n, hn⟩ : ∃ n, fs.length = n := ⟨_, rfl⟩
  rw [hn] at hl HC
  rw [hn]
  have HN := Lib.hid hn
  clear hn
  go_wp2
  go_loopw [11, 12] (fun sm i wx => ToldRel fs a b n w3 sm i wx) (fun _ i _ => n - (intOf i).toNat)
  case atStart => exact ⟨0, true, by omega, rfl, rfl, Lib.hid rfl, Below.refl _ _⟩
  case round =>
    obtain ⟨j, q, hj, rfl, rfl, HQ, hbx⟩ := hrel
    by_cases hlt : j < n
    · obtain ⟨g, off, rfl, hg, hc⟩ := HC.out (by omega)
      have c0 : wr.cell? ⟨g, off + j * 4, none⟩ = _ := (hbx.cell (p := ⟨g, off + j * 4, none⟩) hg).trans (hc j hlt 0 (by omega))
      have c1 := (hbx.cell (p := ⟨g, off + j * 4 + 1, none⟩) hg).trans (hc j hlt 1 (by omega))
      have c2 := (hbx.cell (p := ⟨g, off + j * 4 + 2, none⟩) hg).trans (hc j hlt 2 (by omega))
      have c3 := (hbx.cell (p := ⟨g, off + j * 4 + 3, none⟩) hg).trans (hc j hlt 3 (by omega))
      have hgr : g < wr.heap.size := Nat.lt_of_lt_of_le hg hbx.size
      have HL := Lib.hid (show j < fs.length by rw [HN.out]; exact hlt)
      have i1 : (j : Int) < (n : Int) := by omega
      clear hc HC
      cases q
      · have HS := Lib.hid (alike_still HL.out HQ.out)
        go_wp2_with fail
        go_quiet (fail)
        go_wp2
        go_roundw
        case rel => exact ⟨j + 1, false, by omega, by go_num, rfl, HS, below_drewN hbx _⟩
        case measure => simp [intOf]; omega
      · have HS := Lib.hid (alike_step HL.out HQ.out)
        have e1 : IntKind.i64.wrap (a : Int) = (a : Int) := IntWalk.i64_in _ (by omega)
        have e2 : IntKind.i64.wrap (b : Int) = (b : Int) := IntWalk.i64_in _ (by omega)
        generalize getF fs j = f at *
        go_wp2_with fail
        go_region_held3 (fun w' => Below wr.heap.size wr w' ∧ w'.cell? ⟨g, off + j * 4, none⟩ = some (.int .u64 (f 0)) ∧ w'.cell? ⟨g, off + j * 4 + 1, none⟩ = some (.int .u64 (f 1)) ∧ w'.cell? ⟨g, off + j * 4 + 2, none⟩ = some (.int .u64 (f 2)) ∧ w'.cell? ⟨g, off + j * 4 + 3, none⟩ = some (.int .u64 (f 3)))
          ((refine keepF hgr c0 c1 c2 c3 ?_; first | assumption | exact (Below.refl _ _).drew))
          ((go_at_call 16; go_split_ands; refine (fromB (w := wr) (refhas_any f _ _) ?_).mono ?_; assumption; rintro e wz ⟨rfl, hBz⟩))
        go_wp2
        go_roundw
        case rel => exact ⟨j + 1, _, by omega, by go_num, rfl, HS, hbx.trans (hBz.mono hbx.size)⟩
        case measure => simp [intOf]; omega
    · obtain rfl : n = j := by omega
      have HA := Lib.hid (show alike fs a b = q by rw [← alike_all, HN.out]; exact HQ.out)
      have HRx := Lib.hid ((hbx.block p hp3).trans HR3.out)
      have hBx : Below w.heap.size w wr := hB3.trans (hbx.mono hB3.size)
      have hI := intsAt_of_row (row_of_block HRx.out) (by rw [listC_length]; omega)
      have hpx : p < wr.heap.size := Nat.lt_of_lt_of_le hp3 hbx.size
      clear HQ HR3 hbx hB3 hp3 HC
      generalize alike fs = R at *
      obtain ⟨N, hN⟩ : ∃ N, cntR R 256 = N := ⟨_, rfl⟩
      rw [hN] at hN0 hN1
      rw [hN]
      have HNN := Lib.hid hN
      clear hN
      go_wp2_with fail
      refine (least_any (listC R 256) _ _ N _ (by omega) hI).mono ?_
      rintro e w5 ⟨v5, rfl, hown5, hb5⟩
      rw [leastL_length] at hown5
      obtain ⟨gk, capk, rfl, _, hgk, _, _, hck⟩ := row_cells hown5 hN0
      have HK := Lib.hid hck
      have HR5 := Lib.hid ((hb5.block p hpx).trans HRx.out)
      have hB5 : Below w.heap.size w w5 := hBx.trans (hb5.mono hBx.size)
      have hp5 : p < w5.heap.size := Nat.lt_of_lt_of_le hpx hb5.size
      clear hI hown5 hb5 hBx HRx hpx hck
      go_wp2
      go_loopw [14] (fun c wx => ∃ j : Nat, j ≤ N ∧ c = .int .i64 j ∧ Below w5.heap.size w5 wx) (fun c _ => N - (intOf c).toNat)
      case atStart => exact ⟨0, by omega, rfl, Below.refl _ _⟩
      case round =>
        obtain ⟨j, hj, rfl, hbx⟩ := hrel
        by_cases hlt2 : j < N
        · obtain ⟨y, hy, hly, hcy, hny⟩ := least_cls E (n := 256) (c := j) (by rw [HNN.out]; exact hlt2)
          have ky : wr.cell? ⟨gk, j, none⟩ = some (.int .i64 (y : Int)) := (hbx.cell (p := ⟨gk, j, none⟩) hgk).trans ((HK.out j _ (leastL_get hlt2)).trans (by rw [hly]))
          have my : wr.cell? ⟨p, y, none⟩ = some (.int .i64 (j : Int)) := (hbx.cell (p := ⟨p, y, none⟩) hp5).trans ((cell_of_row _ _ _ _ _ _ HR5.out).trans (by rw [rowN_get _ hy, hcy]))
          have HNY := Lib.hid hny
          clear hly hcy hny
          have i1 : (j : Int) < (N : Int) := by omega
          have i2 : (y : Int) < 256 := by omega
          have g1 : decide ((y : Int) < 0) = false := decide_eq_false (by omega)
          have g2 : decide ((255 : Int) < (y : Int)) = false := decide_eq_false (by omega)
          by_cases hj0 : j = 0
          · have g3 : decide (0 < j) = false := decide_eq_false (by omega)
            clear hj0
            go_wp2_with fail
            go_quiet (fail)
            go_wp2
            go_roundw
            case rel => exact ⟨j + 1, by omega, by go_num, below_drewN hbx _⟩
            case measure => simp [intOf]; omega
          · obtain ⟨k, rfl⟩ : ∃ k, j = k + 1 := ⟨j - 1, by omega⟩
            obtain ⟨z, hz, hlz, _, hnz⟩ := least_cls E (n := 256) (c := k) (by rw [HNN.out]; omega)
            have kz : wr.cell? ⟨gk, k, none⟩ = some (.int .i64 (z : Int)) := (hbx.cell (p := ⟨gk, k, none⟩) hgk).trans ((HK.out k _ (leastL_get (by omega))).trans (by rw [hlz]))
            have hzy := least_rise hnz HNY.out
            have g4 : decide (y ≤ z) = false := decide_eq_false (by omega)
            clear hlz hnz
            go_wp2_with fail
            go_quiet (fail)
            go_wp2
            go_roundw
            case rel => exact ⟨k + 1 + 1, by omega, by go_num, below_drewN hbx _⟩
            case measure => simp [intOf]; omega
        · obtain rfl : N = j := by omega
          have ca : wr.cell? ⟨p, a, none⟩ = some (.int .i64 (clsR R a)) := (hbx.cell (p := ⟨p, a, none⟩) hp5).trans ((cell_of_row _ _ _ _ _ _ HR5.out).trans (rowN_get _ ha))
          have cb : wr.cell? ⟨p, b, none⟩ = some (.int .i64 (clsR R b)) := (hbx.cell (p := ⟨p, b, none⟩) hp5).trans ((cell_of_row _ _ _ _ _ _ HR5.out).trans (rowN_get _ hb))
          have hab := HA.out
          rw [cls_iff E] at hab
          have ia : (a : Int) < 256 := by omega
          have ib : (b : Int) < 256 := by omega
          cases q
          · have hne : ¬ clsR R a = clsR R b := of_decide_eq_false hab
            have g5 : ((clsR R a : Int) == (clsR R b : Int)) = false := by simp; omega
            have G5 := Lib.hid g5
            clear hab hne HA
            go_wp2_with fail
            go_quiet (fail)
            go_wp2
            go_ret
            exact ⟨by first | rfl | exact ret_bool (by rw [G5.out]; rfl), below_drewN (hB5.trans (hbx.mono hB5.size)) _⟩
          · have heq : clsR R a = clsR R b := of_decide_eq_true hab
            rw [heq] at ca
            clear hab heq HA
            go_wp2_with fail
            go_quiet (fail)
            go_wp2
            go_ret
            exact ⟨rfl, below_drewN (hB5.trans (hbx.mono hB5.size)) _⟩
theorem partTold_int (qs : List (Nat → Int)) (v : Value) (a b : Int) (ha : 0 ≤ a ∧ a ≤ 255) (hb : 0 ≤ b ∧ b ≤ 255) (w : World) (hf : QuadsAt w v qs) :
    Calls Try.prog 7 #[v, .int .u8 a, .int .u8 b] w fun e w' => e = .returned (.bool true) ∧ Below w.heap.size w w' := by
  obtain ⟨m, rfl⟩ : ∃ m : Nat, a = m := ⟨a.toNat, by omega⟩
  obtain ⟨n, rfl⟩ : ∃ n : Nat, b = n := ⟨b.toNat, by omega⟩
  exact partTold_any qs v m n (by omega) (by omega) w hf
end Go.Proofs.Ytjjnpobppmmgbaa
