/- The law PartMore: its walk. -/
import Derived.Test.YtjjnpobppmmgbaaX
import Derived.Deep.CutRange
namespace Go.Proofs.Ytjjnpobppmmgbaa
open Go.RowKit
/-- What stands behind the second call of Split. -/
def MoreRel (R : Nat → Nat → Bool) (w : World) (b m : Value) (wc : World) : Prop :=
  ∃ g2, b = .slice (some ⟨g2, 0, none⟩) 256 256 ∧ m = .int .i64 (cntR R 256) ∧ g2 < wc.heap.size ∧ wc.heap[g2]? = some (.cells (rowN (clsR R)) 3 (0, 0)) ∧ Below w.heap.size w wc
theorem more_rel {R : Nat → Nat → Bool} {w3 w4 w5 w6 : World} {v4 : Value} {n : Nat} {xs : List Value} (h4 : w3.drew.grownBy w4 (Value.slice none 0 0).ownBlock) (o4 : w4.ownsRow w3.heap.size 36 4 v4 n xs) (h5 : w4.grownBy w5 v4.ownBlock)
    (h6 : Below w5.heap.size w5 w6) (hr : w6.heap[w5.heap.size]? = some (.cells (rowN (clsR R)) 3 (0, 0))) : MoreRel R w3 (.slice (some ⟨w5.heap.size, 0, none⟩) 256 256) (.int .i64 (cntR R 256)) w6 := by
  refine ⟨_, rfl, rfl, ?_, hr, ?_⟩
  · rcases Nat.lt_or_ge w5.heap.size w6.heap.size with h | h
    · exact h
    · rw [Array.getElem?_eq_none h] at hr; cases hr
  · have b4 : Below w3.heap.size w3 w4 := ((Below.refl _ w3).drew).grown h4 (Nat.le_refl _) (fun k hk => by cases hk)
    have b5 : Below w3.heap.size w3 w5 := b4.grown h5 h4.size (fun k hk => own_ge o4 k hk)
    exact b5.trans (h6.mono b5.size)
theorem not_any (f : Nat → Int) (w : World) : Calls Try.prog 15 #[SV f] w fun e w' => e = .returned (SV (notF f)) ∧ Below w.heap.size w w' := refnot_any f w
/-- The loop of complements. -/
def NotRel (fs : List (Nat → Int)) (n : Nat) (w : World) (t i : Value) (wr : World) : Prop :=
  ∃ j : Nat, j ≤ n ∧ i = .int .i64 j ∧ wr.ownsRow w.heap.size 36 4 t (n + j) (flat4 (fs ++ (fs.take j).map notF)) ∧ Below w.heap.size w wr
set_option maxRecDepth 100000 in
set_option maxHeartbeats 8000000 in
theorem partMore_some (qs : List (Nat → Int)) (v : Value) (nth : Nat) (hat : nth < 256) (w : World) (hf : QuadsAt w v qs) :
    Calls Try.prog 6 #[v, .int .u8 nth] w fun e w' => e = .returned (.bool true) ∧ Below w.heap.size w w' := by
  obtain ⟨i0, hi, hz0, hz1, hz2⟩ := info_parts info36
  go_enter Try.func6, Try.ntmps6
  go_wp2_with fail
  refine (awake_any _).mono ?_
  rintro e w1 ⟨rfl, hb1⟩
  have hf1 := hf.below hb1
  go_wp2_with fail
  refine (runs_any qs _ _ hf1).mono ?_
  rintro e w2 ⟨v2, fs, rfl, hl, hnil, hown, hb2⟩
  have hB2 : Below w.heap.size w w2 := hb1.trans (hb2.mono hb1.size)
  clear hb1 hb2 hf hf1
  by_cases hn0 : 0 < fs.length
  · have hs := sets_of_row hown (by omega)
    obtain ⟨g, cap, rfl, _, hg, hcap, hcm, hcell⟩ := row_cells hown hn0
    have HCELL := Lib.hid hcell
    go_wp2_with fail
    refine (split_any fs _ _ hs).mono ?_
    rintro e w3 ⟨rfl, hr3, hb3⟩
    have hB3 : Below w.heap.size w w3 := hB2.trans (hb3.mono hB2.size)
    have HR3 := Lib.hid hr3
    have hp3 : w2.heap.size < w3.heap.size := by
      rcases Nat.lt_or_ge w2.heap.size w3.heap.size with h | h
      · exact h
      · rw [Array.getElem?_eq_none h] at hr3; cases hr3
    have HC3 : Hid (∀ j u, (flat4 fs)[j]? = some u → w3.cell? ⟨g, j, none⟩ = some u) := Lib.hid fun j u h => (hb3.cell (p := ⟨g, j, none⟩) hg).trans (HCELL.out j u h)
    have hg3 : g < w3.heap.size := Nat.lt_of_lt_of_le hg hb3.size
    have E := eqv_alike fs
    clear hr3 hb3 hB2 hs hcell hown HCELL hg
    generalize w2.heap.size = p at *
    obtain ⟨n, hn⟩ : ∃ n, fs.length = n := ⟨_, rfl⟩
    rw [hn] at hl hcap hn0
    rw [hn]
    have HN := Lib.hid hn
    clear hn hnil
    obtain ⟨k, hk⟩ : ∃ k, nth % (n + 1) = k := ⟨_, rfl⟩
    have hkn : k ≤ n := by rw [← hk]; have := Nat.mod_lt nth (show n + 1 > 0 by omega); omega
    have HK := Lib.hid hk
    clear hk
    unfold maxLen at hcm
    go_wp2_with fail
    have hki : ((nth : Int) % ((n : Int) + 1)) = (k : Int) := by rw [← HK.out]; simp
    rw [hki]
    clear hki HK
    have HF3 := Lib.hid (show fs.length ≤ 1000 by rw [HN.out]; omega)
    have HD := Lib.hid (show (flat4 (fs.drop k)).length = (n - k) * 4 by rw [flat4_length, List.length_drop, HN.out])
    have HT := Lib.hid (show (flat4 (fs.take k)).length = k * 4 by rw [flat4_length, List.length_take, HN.out, Nat.min_eq_left hkn])
    have i1 : (k : Int) ≤ (n : Int) := by omega
    have i2 : (k : Int) ≤ (cap : Int) := by omega
    go_cut [10, 11] from 36 to 47 (fun b m wc => MoreRel (alike fs) w3 b m wc)
    case first =>
      by_cases hkc : cap = k
      · obtain rfl : n = k := by omega
        obtain rfl : cap = n := by omega
        clear hkc
        go_region_held3 (fun _ => True) (trivial)
          (first
            | (refine step_append_own (by rfl) (.const (.slice none 0 0)) (.tmp 39) 22 (by rfl) w3.heap.size 36 i0 _ 4 32 Try.underlying22 hi hz0 hz1 hz2 rfl (by omega) (.slice none 0 0) 0 [] (by rfl) (World.ownsRow_nil _ _ _ _) ⟨g, 0, none⟩ 0 0 [] (by rfl) (by rfl) (fun j u h => by cases h) (fun u h => by cases h) (by unfold maxLen; omega) (by omega) (Nat.le_refl _) ?_; intro v4 w4 hown4 hgrow4 hnil4)
            | (refine step_append_own (by rfl) (.tmp 40) (.tmp 43) 22 (by rfl) w3.heap.size 36 i0 _ 4 32 Try.underlying22 hi hz0 hz1 hz2 rfl (by omega) v4 _ _ (by rfl) hown4 ⟨g, 0, none⟩ cap cap (flat4 fs) (by rfl) (by rw [flat4_length, HN.out]) (fun j u h => by rw [WideShapes.add_plain, Nat.zero_add]; exact hgrow4.cell (HC3.out j u h) (by simp [Value.ownBlock])) (one_flat _) (by unfold maxLen; omega) (by omega) hgrow4.size ?_; intro v5 w5 hown5 hgrow5 hnil5)
            | (go_at_call 14; refine (split_all HN.out (by omega) hown5).mono ?_; rintro e w6 ⟨rfl, hr6, hb6⟩))
        go_wp2_with fail
        go_meet
        case rel => exact more_rel hgrow4 hown4 hgrow5 hb6 hr6
      · go_region_held3 (fun _ => True) (trivial)
          (first
            | (refine step_append_own (by rfl) (.const (.slice none 0 0)) (.tmp 39) 22 (by rfl) w3.heap.size 36 i0 _ 4 32 Try.underlying22 hi hz0 hz1 hz2 rfl (by omega) (.slice none 0 0) 0 [] (by rfl) (World.ownsRow_nil _ _ _ _) ⟨g, k * 4, none⟩ (n - k) (cap - k) (flat4 (fs.drop k)) (by rfl) HD.out (news_drop HC3.out) (one_flat _) (by unfold maxLen; omega) (by omega) (Nat.le_refl _) ?_; intro v4 w4 hown4 hgrow4 hnil4)
            | (refine step_append_own (by rfl) (.tmp 40) (.tmp 43) 22 (by rfl) w3.heap.size 36 i0 _ 4 32 Try.underlying22 hi hz0 hz1 hz2 rfl (by omega) v4 _ _ (by rfl) hown4 ⟨g, 0, none⟩ k cap (flat4 (fs.take k)) (by rfl) HT.out (news_take (fun j u h => hgrow4.cell (HC3.out j u h) (by simp [Value.ownBlock]))) (one_flat _) (by unfold maxLen; omega) (by omega) hgrow4.size ?_; intro v5 w5 hown5 hgrow5 hnil5)
            | (go_at_call 14; refine (split_rot HN.out hkn (by omega) hown5).mono ?_; rintro e w6 ⟨rfl, hr6, hb6⟩))
        go_wp2_with fail
        go_meet
        case rel => exact more_rel hgrow4 hown4 hgrow5 hb6 hr6
    case rest =>
      obtain ⟨g2, rfl, rfl, hg2, hr2, hbc⟩ := hcut
      have hBc : Below w.heap.size w wc := hB3.trans (hbc.mono hB3.size)
      have HA := Lib.hid ((hbc.block p hp3).trans HR3.out)
      have HB := Lib.hid hr2
      have hpc : p < wc.heap.size := Nat.lt_of_lt_of_le hp3 hbc.size
      have hgc : g < wc.heap.size := Nat.lt_of_lt_of_le hg3 hbc.size
      have HCc : Hid (∀ j u, (flat4 fs)[j]? = some u → wc.cell? ⟨g, j, none⟩ = some u) := Lib.hid fun j u h => (hbc.cell (p := ⟨g, j, none⟩) hg3).trans (HC3.out j u h)
      clear hr2 hbc HC3 HR3 hp3 hg3 hB3 HD HT
      go_wp2_with fail
      refine (split_any (fs.take k) _ _ (sets_take hgc (by rw [HN.out]; exact hkn) HF3.out HCc.out)).mono ?_
      rintro e w7 ⟨rfl, hr7, hb7⟩
      have hB7 : Below w.heap.size w w7 := hBc.trans (hb7.mono hBc.size)
      have HA7 := Lib.hid ((hb7.block p hpc).trans HA.out)
      have HB7 := Lib.hid ((hb7.block g2 hg2).trans HB.out)
      have HC7 := Lib.hid hr7
      have hg37 : wc.heap.size < w7.heap.size := by
        rcases Nat.lt_or_ge wc.heap.size w7.heap.size with h | h
        · exact h
        · rw [Array.getElem?_eq_none h] at hr7; cases hr7
      have HS7 : Hid (∀ j u, (flat4 fs)[j]? = some u → w7.cell? ⟨g, j, none⟩ = some u) := Lib.hid fun j u h => (hb7.cell (p := ⟨g, j, none⟩) hgc).trans (HCc.out j u h)
      have hp7 : p < w7.heap.size := by omega
      have hg7 : g < w7.heap.size := by omega
      have hg27 : g2 < w7.heap.size := by omega
      clear hr7 hb7 HCc HA HB hBc hpc hgc hg2
      generalize wc.heap.size = g3 at *
      have HF := Lib.hid (show (flat4 fs).length = n * 4 by rw [flat4_length, HN.out])
      go_wp2_with (at_builtin; refine wpList_append_own _ rfl _ _ 22 rfl w7.heap.size 36 i0 _ 4 32 Try.underlying22 hi hz0 hz1 hz2 rfl (by omega) _ 0 [] rfl (World.ownsRow_nil _ _ _ _) ⟨g, 0, none⟩ n cap (flat4 fs) rfl HF.out (fun j u h => by rw [WideShapes.add_plain, Nat.zero_add]; exact HS7.out j u h) (one_flat _) (by unfold maxLen; omega) (by omega) (Nat.le_refl _) ?_; intro v8 w8 hown8 hgrow8 hnil8)
      have hb8 : Below w7.heap.size w7 w8 := (Below.refl _ _).grown hgrow8 (Nat.le_refl _) (fun k hk => by cases hk)
      rw [Nat.zero_add, List.nil_append] at hown8
      clear hgrow8 hnil8
      go_loopw [14, 15] (fun t i wr => NotRel fs n w7 t i wr) (fun _ i _ => n - (intOf i).toNat)
      case atStart => exact ⟨0, by omega, rfl, by simpa using hown8, hb8⟩
      case round =>
        obtain ⟨j, hj, rfl, hown, hbr⟩ := hrel
        by_cases hlt : j < n
        · have HL := Lib.hid (show j < fs.length by rw [HN.out]; exact hlt)
          have c0 : wr.cell? ⟨g, j * 4, none⟩ = _ := (hbr.cell (p := ⟨g, j * 4, none⟩) hg7).trans (HS7.out _ _ (flat4_get fs j 0 HL.out (by omega)))
          have c1 := (hbr.cell (p := ⟨g, j * 4 + 1, none⟩) hg7).trans (HS7.out _ _ (flat4_get fs j 1 HL.out (by omega)))
          have c2 := (hbr.cell (p := ⟨g, j * 4 + 2, none⟩) hg7).trans (HS7.out _ _ (flat4_get fs j 2 HL.out (by omega)))
          have c3 := (hbr.cell (p := ⟨g, j * 4 + 3, none⟩) hg7).trans (HS7.out _ _ (flat4_get fs j 3 HL.out (by omega)))
          have HM := Lib.hid (take_map_succ HL.out)
          have hwr := hbr.size
          generalize getF fs j = f at *
          go_wp2_with fail
          refine (not_any f _).mono ?_
          rintro e w9 ⟨rfl, hb9⟩
          have hown9 := ownsRow_below hown hb9
          have hb79 : Below w7.heap.size w7 w9 := hbr.trans (hb9.mono hbr.size)
          have hw9 := hb79.size
          clear c0 c1 c2 c3 hb9 hown
          go_wp2_with (at_builtin; refine wpList_append_own _ rfl _ _ 22 rfl w7.heap.size 36 i0 _ 4 32 Try.underlying22 hi hz0 hz1 hz2 rfl (by omega) _ _ _ rfl (hown9.alloc _) ⟨w9.heap.size, 0, none⟩ 1 1 [.int .u64 (notF f 0), .int .u64 (notF f 1), .int .u64 (notF f 2), .int .u64 (notF f 3)] rfl rfl (World.news_of_block (cs := row4 (notF f)) (t := 36) (fr := (0, 0)) (heap_alloc_new w9 _)) (by simp [Value.oneCell']) (by unfold maxLen; omega) (by omega) (by simp; omega) ?_; intro v10 w10 hown10 hgrow10 hnil10)
          have hb10 : Below w7.heap.size w7 w10 := (hb79.alloc hb79.size _).grown hgrow10 (by simp; omega) (fun k hk => own_ge hown9 k hk)
          clear hgrow10 hnil10
          go_roundw
          case rel => exact ⟨j + 1, by omega, by go_num, by rw [HM.out, ← List.append_assoc, flat4_append]; exact hown10, hb10⟩
          case measure => simp [intOf]; omega
        · obtain rfl : j = n := by omega
          have hlen : (fs ++ fs.map notF).length = j + j := by rw [List.length_append, List.length_map, HN.out]
          have hft : fs.take j = fs := List.take_of_length_le (by rw [HN.out]; exact Nat.le_refl _)
          rw [hft, ← hlen] at hown
          have hst := sets_of_row hown (by omega)
          have HLC := Lib.hid (listC_congr (alike_not fs))
          have HCN := Lib.hid (cnt_congr (alike_not fs) (Nat.le_refl 256))
          have HLE := Lib.hid (cnt_finer (R := alike fs) (R' := alike (fs.take k)) (fun a b h => alike_part k h) 256)
          have HIM : Hid (∀ a b, alike fs a b = true → alike (fs.take k) a b = true) := Lib.hid fun a b h => alike_part k h
          have E' := eqv_alike (fs.take k)
          have hBr : Below w.heap.size w wr := hB7.trans (hbr.mono hB7.size)
          have HAr := Lib.hid ((hbr.block p hp7).trans HA7.out)
          have HBr := Lib.hid ((hbr.block g2 hg27).trans HB7.out)
          have HCr := Lib.hid ((hbr.block g3 hg37).trans HC7.out)
          have hpr : p < wr.heap.size := Nat.lt_of_lt_of_le hp7 hbr.size
          have hg2r : g2 < wr.heap.size := Nat.lt_of_lt_of_le hg27 hbr.size
          have hg3r : g3 < wr.heap.size := Nat.lt_of_lt_of_le hg37 hbr.size
          clear hlen hft hown hown8 hb8 hbr HA7 HB7 HC7 hp7 hg27 hg37 hg7 HS7 hB7 HF3 HF
          go_wp2_with fail
          refine (split_any (fs ++ fs.map notF) _ _ hst).mono ?_
          rintro e w11 ⟨rfl, hr11, hb11⟩
          have hB11 : Below w.heap.size w w11 := hBr.trans (hb11.mono hBr.size)
          have HA11 := Lib.hid ((hb11.block p hpr).trans HAr.out)
          have HB11 := Lib.hid ((hb11.block g2 hg2r).trans HBr.out)
          have HC11 := Lib.hid ((hb11.block g3 hg3r).trans HCr.out)
          have HD11 := Lib.hid hr11
          have hs11 := hb11.size
          have hp11 : p < w11.heap.size := Nat.lt_of_lt_of_le hpr hb11.size
          have hg211 : g2 < w11.heap.size := Nat.lt_of_lt_of_le hg2r hb11.size
          have hg311 : g3 < w11.heap.size := Nat.lt_of_lt_of_le hg3r hb11.size
          have hg411 : wr.heap.size < w11.heap.size := by
            rcases Nat.lt_or_ge wr.heap.size w11.heap.size with h | h
            · exact h
            · rw [Array.getElem?_eq_none h] at hr11; cases hr11
          rw [HCN.out]
          clear hr11 hb11 HAr HBr HCr hpr hg2r hg3r hBr hst HCN
          generalize wr.heap.size = g4 at *
          generalize alike (fs ++ fs.map notF) = R2 at *
          generalize alike (fs.take k) = R1 at *
          generalize alike fs = R at *
          go_wp2
          go_loopw [18] (fun c wx => ∃ i : Nat, i ≤ 256 ∧ c = .int .i64 i ∧ Below w11.heap.size w11 wx) (fun c _ => 256 - (intOf c).toNat)
          case atStart => exact ⟨0, by omega, rfl, Below.refl _ _⟩
          case round =>
            obtain ⟨i, hi256, rfl, hbx⟩ := hrel
            obtain ⟨wo, ho⟩ : ∃ x, x = wr := ⟨wr, rfl⟩
            subst ho
            by_cases hlti : i < 256
            · go_wp2
              go_loopw [19] (fun c wx => ∃ m : Nat, m ≤ i ∧ c = .int .i64 m ∧ Below w11.heap.size w11 wx) (fun c _ => i - (intOf c).toNat)
              case atStart => exact ⟨0, by omega, rfl, hbx⟩
              case round =>
                obtain ⟨m, hmi, rfl, hby⟩ := hrel
                by_cases hltm : m < i
                · have ai : wr.cell? ⟨p, i, none⟩ = some (.int .i64 (clsR R i)) := (hby.cell (p := ⟨p, i, none⟩) hp11).trans ((cell_of_row _ _ _ _ _ _ HA11.out).trans (rowN_get _ (by omega)))
                  have am : wr.cell? ⟨p, m, none⟩ = some (.int .i64 (clsR R m)) := (hby.cell (p := ⟨p, m, none⟩) hp11).trans ((cell_of_row _ _ _ _ _ _ HA11.out).trans (rowN_get _ (by omega)))
                  have ci : wr.cell? ⟨g3, i, none⟩ = some (.int .i64 (clsR R1 i)) := (hby.cell (p := ⟨g3, i, none⟩) hg311).trans ((cell_of_row _ _ _ _ _ _ HC11.out).trans (rowN_get _ (by omega)))
                  have cm : wr.cell? ⟨g3, m, none⟩ = some (.int .i64 (clsR R1 m)) := (hby.cell (p := ⟨g3, m, none⟩) hg311).trans ((cell_of_row _ _ _ _ _ _ HC11.out).trans (rowN_get _ (by omega)))
                  have j1 : (i : Int) < 256 := by omega
                  have j2 : (m : Int) < 256 := by omega
                  by_cases heq : clsR R i = clsR R m
                  · have h1 := cls_eq E' (HIM.out _ _ (cls_inj E heq))
                    rw [heq] at ai
                    rw [h1] at ci
                    clear heq h1
                    generalize clsR R m = x at *
                    generalize clsR R1 m = y at *
                    go_wp2_with fail
                    go_quiet (fail)
                    go_wp2
                    go_roundw
                    case rel => exact ⟨m + 1, by omega, by go_num, below_drewN hby _⟩
                    case measure => simp [intOf]; omega
                  · have hne : ((clsR R i : Int) == (clsR R m : Int)) = false := by simp; omega
                    clear heq
                    generalize clsR R m = x at *
                    generalize clsR R i = y at *
                    go_wp2_with fail
                    go_quiet (fail)
                    go_wp2
                    go_roundw
                    case rel => exact ⟨m + 1, by omega, by go_num, below_drewN hby _⟩
                    case measure => simp [intOf]; omega
                · obtain rfl : m = i := by omega
                  go_wp2
                  go_roundw
                  case rel => exact ⟨m + 1, by omega, by go_num, hby⟩
                  case measure => simp [intOf]; omega
            · obtain rfl : i = 256 := by omega
              have oa := ownsRow_below (row_of_block HA11.out) hbx
              have ob := ownsRow_below (row_of_block HB11.out) hbx
              have od := ownsRow_below (row_of_block HD11.out) hbx
              rw [HLC.out] at od
              have hB12 : Below w.heap.size w wo := hB11.trans (hbx.mono hB11.size)
              have hle : (cntR R1 256 : Int) ≤ (cntR R 256 : Int) := by have := HLE.out; omega
              go_wp2_with fail
              refine (ints_same _ oa ob).mono ?_
              rintro e w13 ⟨rfl, hb13⟩
              have oa2 := ownsRow_below oa hb13
              have od2 := ownsRow_below od hb13
              have hB13 : Below w.heap.size w w13 := hB12.trans (hb13.mono hB12.size)
              clear oa ob od hb13 hB12 hbx
              go_wp2_with fail
              refine (ints_same _ oa2 od2).mono ?_
              rintro e w14 ⟨rfl, hb14⟩
              go_wp2
              go_ret
              exact ⟨rfl, hB13.trans (hb14.mono hB13.size)⟩
  · have hl0 : fs.length = 0 := by omega
    obtain rfl := hnil hl0
    obtain rfl : fs = [] := List.eq_nil_of_length_eq_zero hl0
    clear hnil hn0 hl0 hown hl
    go_wp2_with fail
    refine (split_none none 0 _).mono ?_
    rintro e w3 ⟨rfl, hr3, hb3⟩
    have hB3 : Below w.heap.size w w3 := hB2.trans (hb3.mono hB2.size)
    have HR3 := Lib.hid hr3
    have hp3 : w2.heap.size < w3.heap.size := by
      rcases Nat.lt_or_ge w2.heap.size w3.heap.size with h | h
      · exact h
      · rw [Array.getElem?_eq_none h] at hr3; cases hr3
    have E := eqv_alike []
    clear hr3 hb3 hB2
    generalize w2.heap.size = p at *
    generalize hR : alike [] = R at *
    have HNONE : Hid (∀ wx, Calls Try.prog 14 #[.slice none 0 0] wx (GivesSplit wx R)) := Lib.hid fun wx => hR ▸ split_none none 0 wx
    clear hR
    go_wp2_with fail
    go_region_held3 (fun _ => True) (trivial)
      (first | (go_at_call 14; refine (HNONE.out _).mono ?_; rintro e w6 ⟨rfl, hr6, hb6⟩))
    have hB6 : Below w.heap.size w w6 := (hB3.drew).trans (hb6.mono hB3.size)
    have HA6 := Lib.hid ((hb6.block p hp3).trans HR3.out)
    have HB6 : Hid (w6.heap[w3.heap.size]? = some (.cells (rowN (clsR R)) 3 (0, 0))) := Lib.hid hr6
    have hg26 : w3.heap.size < w6.heap.size := by
      rcases Nat.lt_or_ge w3.heap.size w6.heap.size with h | h
      · exact h
      · have := HB6.out; rw [Array.getElem?_eq_none h] at this; cases this
    clear hr6 hb6 HR3 hB3
    go_wp2_with fail
    refine (HNONE.out _).mono ?_
    rintro e w7 ⟨rfl, hr7, hb7⟩
    have hB7 : Below w.heap.size w w7 := hB6.trans (hb7.mono hB6.size)
    have HA7 := Lib.hid ((hb7.block p (by omega)).trans HA6.out)
    have HB7 := Lib.hid ((hb7.block w3.heap.size hg26).trans HB6.out)
    have HC7 := Lib.hid hr7
    have hg37 : w6.heap.size < w7.heap.size := by
      rcases Nat.lt_or_ge w6.heap.size w7.heap.size with h | h
      · exact h
      · rw [Array.getElem?_eq_none h] at hr7; cases hr7
    have hp7 : p < w7.heap.size := by omega
    have hg27 : w3.heap.size < w7.heap.size := by omega
    clear hr7 hb7 HA6 HB6 hB6 hg26 hp3
    generalize w3.heap.size = g2 at *
    generalize w6.heap.size = g3 at *
    go_wp2
    refine wp_loop_rounds 1 ?_
    rw [rounds_succ]
    go_wp2_with fail
    refine (HNONE.out _).mono ?_
    rintro e w11 ⟨rfl, hr11, hb11⟩
    have hB11 : Below w.heap.size w w11 := hB7.trans (hb11.mono hB7.size)
    have HA11 := Lib.hid ((hb11.block p hp7).trans HA7.out)
    have HB11 := Lib.hid ((hb11.block g2 hg27).trans HB7.out)
    have HC11 := Lib.hid ((hb11.block g3 hg37).trans HC7.out)
    have HD11 := Lib.hid hr11
    have hp11 : p < w11.heap.size := Nat.lt_of_lt_of_le hp7 hb11.size
    have hg211 : g2 < w11.heap.size := Nat.lt_of_lt_of_le hg27 hb11.size
    have hg311 : g3 < w11.heap.size := Nat.lt_of_lt_of_le hg37 hb11.size
    have hg411 : w7.heap.size < w11.heap.size := by
      rcases Nat.lt_or_ge w7.heap.size w11.heap.size with h | h
      · exact h
      · rw [Array.getElem?_eq_none h] at hr11; cases hr11
    clear hr11 hb11 HA7 HB7 HC7 hp7 hg27 hg37 hB7
    generalize w7.heap.size = g4 at *
    go_wp2
    go_loopw [18] (fun c wx => ∃ i : Nat, i ≤ 256 ∧ c = .int .i64 i ∧ Below w11.heap.size w11 wx) (fun c _ => 256 - (intOf c).toNat)
    case atStart => exact ⟨0, by omega, rfl, Below.refl _ _⟩
    case round =>
      obtain ⟨i, hi256, rfl, hbx⟩ := hrel
      obtain ⟨wo, ho⟩ : ∃ x, x = wr := ⟨wr, rfl⟩
      subst ho
      by_cases hlti : i < 256
      · go_wp2
        go_loopw [19] (fun c wx => ∃ m : Nat, m ≤ i ∧ c = .int .i64 m ∧ Below w11.heap.size w11 wx) (fun c _ => i - (intOf c).toNat)
        case atStart => exact ⟨0, by omega, rfl, hbx⟩
        case round =>
          obtain ⟨m, hmi, rfl, hby⟩ := hrel
          by_cases hltm : m < i
          · have ai : wr.cell? ⟨p, i, none⟩ = some (.int .i64 (clsR R i)) := (hby.cell (p := ⟨p, i, none⟩) hp11).trans ((cell_of_row _ _ _ _ _ _ HA11.out).trans (rowN_get _ (by omega)))
            have am : wr.cell? ⟨p, m, none⟩ = some (.int .i64 (clsR R m)) := (hby.cell (p := ⟨p, m, none⟩) hp11).trans ((cell_of_row _ _ _ _ _ _ HA11.out).trans (rowN_get _ (by omega)))
            have ci : wr.cell? ⟨g3, i, none⟩ = some (.int .i64 (clsR R i)) := (hby.cell (p := ⟨g3, i, none⟩) hg311).trans ((cell_of_row _ _ _ _ _ _ HC11.out).trans (rowN_get _ (by omega)))
            have cm : wr.cell? ⟨g3, m, none⟩ = some (.int .i64 (clsR R m)) := (hby.cell (p := ⟨g3, m, none⟩) hg311).trans ((cell_of_row _ _ _ _ _ _ HC11.out).trans (rowN_get _ (by omega)))
            have j1 : (i : Int) < 256 := by omega
            have j2 : (m : Int) < 256 := by omega
            by_cases heq : clsR R i = clsR R m
            · rw [heq] at ai ci
              clear heq
              generalize clsR R m = x at *
              go_wp2_with fail
              go_quiet (fail)
              go_wp2
              go_roundw
              case rel => exact ⟨m + 1, by omega, by go_num, below_drewN hby _⟩
              case measure => simp [intOf]; omega
            · have hne : ((clsR R i : Int) == (clsR R m : Int)) = false := by simp; omega
              clear heq
              generalize clsR R m = x at *
              generalize clsR R i = y at *
              go_wp2_with fail
              go_quiet (fail)
              go_wp2
              go_roundw
              case rel => exact ⟨m + 1, by omega, by go_num, below_drewN hby _⟩
              case measure => simp [intOf]; omega
          · obtain rfl : m = i := by omega
            go_wp2
            go_roundw
            case rel => exact ⟨m + 1, by omega, by go_num, hby⟩
            case measure => simp [intOf]; omega
      · obtain rfl : i = 256 := by omega
        have oa := ownsRow_below (row_of_block HA11.out) hbx
        have ob := ownsRow_below (row_of_block HB11.out) hbx
        have od := ownsRow_below (row_of_block HD11.out) hbx
        have hB12 : Below w.heap.size w wo := hB11.trans (hbx.mono hB11.size)
        go_wp2_with fail
        refine (ints_same _ oa ob).mono ?_
        rintro e w13 ⟨rfl, hb13⟩
        have oa2 := ownsRow_below oa hb13
        have od2 := ownsRow_below od hb13
        have hB13 : Below w.heap.size w w13 := hB12.trans (hb13.mono hB12.size)
        clear oa ob od hb13 hB12 hbx
        go_wp2_with fail
        refine (ints_same _ oa2 od2).mono ?_
        rintro e w14 ⟨rfl, hb14⟩
        go_wp2
        go_ret
        exact ⟨rfl, hB13.trans (hb14.mono hB13.size)⟩
theorem partMore_int (qs : List (Nat → Int)) (v : Value) (a : Int) (ha : 0 ≤ a ∧ a ≤ 255) (w : World) (hf : QuadsAt w v qs) :
    Calls Try.prog 6 #[v, .int .u8 a] w fun e w' => e = .returned (.bool true) ∧ Below w.heap.size w w' := by
  obtain ⟨m, rfl⟩ : ∃ m : Nat, a = m := ⟨a.toNat, by omega⟩
  exact partMore_some qs v m (by omega) w hf
end Go.Proofs.Ytjjnpobppmmgbaa
