/- The law RxDeep: the walk. -/
import Derived.Test.YtadiphijfbpcnaaDoorNa
import Derived.Test.YtadiphijfbpcnaaDoorLa
import Derived.Deep.Cut
namespace Go.Proofs.YtadiphijfbpcnaaDoor
open Go.RowKit
set_option maxRecDepth 100000 in
set_option maxHeartbeats 4000000 in
theorem deep_walk (n how k : Int) (hn : 0 ≤ n ∧ n < 256) (hh : 0 ≤ how ∧ how < 256) (hk : 0 ≤ k ∧ k < 256) (w : World) : Calls Tryd.prog 6 #[.int .u8 n, .int .u8 how, .int .u8 k] w fun e w' => e = .returned (.bool true) ∧ Below w.heap.size w w' := by
  obtain ⟨i0, hi, hz0, hz1, hz2⟩ := info_parts info27
  obtain ⟨hn0, hn1⟩ := hn
  obtain ⟨hh0, hh1⟩ := hh
  obtain ⟨hk0, hk1⟩ := hk
  obtain ⟨f, hf⟩ : ∃ f, f = sE 97 97 := ⟨_, rfl⟩
  obtain ⟨f', hf'⟩ : ∃ f, f = sE 98 98 := ⟨_, rfl⟩
  have HCA := Lib.hid (fun w => (char_any 97 w).mono (fun e w' h => (show e = .returned (nodeV 2 f 0 0 (.slice none 0 0)) ∧ Below w.heap.size w w' from ⟨by rw [h.1, hf], h.2⟩)))
  have HCB := Lib.hid (fun w => (char_any 98 w).mono (fun e w' h => (show e = .returned (nodeV 2 f' 0 0 (.slice none 0 0)) ∧ Below w.heap.size w w' from ⟨by rw [h.1, hf'], h.2⟩)))
  have HKA := Lib.hid (show LfOk 2 f by rw [hf]; exact lf_char (by omega) (by omega))
  have HKB := Lib.hid (show LfOk 2 f' by rw [hf']; exact lf_char (by omega) (by omega))
  clear hf hf'
  go_enter Tryd.func6, Tryd.ntmps6
  go_wp2_with fail
  refine (HCA.out _).mono ?_
  rintro e w1 ⟨rfl, hb1⟩
  obtain ⟨x, hx⟩ : ∃ x, x = w1.heap.size := ⟨_, rfl⟩
  have hxw : w.heap.size ≤ x := by rw [hx]; exact hb1.size
  have HX := Lib.hid hx
  have HB1 := Lib.hid hb1
  clear hb1 hx
  have h3 : how % 3 = 0 ∨ how % 3 = 1 ∨ how % 3 = 2 := by omega
  rcases h3 with h3 | h3 | h3
  · go_wp2_with fail
    rw [← HX.out, h3]
    clear h3
    go_loopw [8] (fun c wr => ∃ j : Nat, (j : Int) ≤ n % 30 ∧ c = .int .i64 j ∧ ∃ t, Hid (Bx w x t wr ∧ cnt t = j + 1)) (fun c _ => 30 - (intOf c).toNat)
    case atStart =>
      refine ⟨0, by omega, rfl, lfT 2 f, Lib.hid ⟨⟨by rw [HX.out]; exact heap_alloc_new _ _, (lf_ok HKA.out).2.2 _ _, ⟨fun h => by omega, fun i h => by omega⟩, HB1.out.alloc HB1.out.size _⟩, (lf_ok HKA.out).2.1⟩⟩
    case round =>
      obtain ⟨j, hj, rfl, t, HTC⟩ := hrel
      have HT := Lib.hid HTC.out.1
      by_cases hlt : (j : Int) < n % 30
      · have e1 : decide ((j : Int) < n % 30) = true := by simp [hlt]
        obtain ⟨c0, c1, c2, c3, c4, c5, c6, c7⟩ := cell8 HT.out.box
        have hq := fun o => cell8 (alloc_cell8 HT.out.box o)
        have hfz := fun o => frozen8 (alloc_cell8 HT.out.box o)
        have q0 := fun o => (hq o).1
        have q1 := fun o => (hq o).2.1
        have q2 := fun o => (hq o).2.2.1
        have q3 := fun o => (hq o).2.2.2.1
        have q4 := fun o => (hq o).2.2.2.2.1
        have q5 := fun o => (hq o).2.2.2.2.2.1
        have q6 := fun o => (hq o).2.2.2.2.2.2.1
        have q7 := fun o => (hq o).2.2.2.2.2.2.2
        have g0 := fun o => (hfz o).1
        have g1 := fun o => (hfz o).2.1
        have g2 := fun o => (hfz o).2.2.1
        have g3 := fun o => (hfz o).2.2.2.1
        have g4 := fun o => (hfz o).2.2.2.2.1
        have g5 := fun o => (hfz o).2.2.2.2.2.1
        have g6 := fun o => (hfz o).2.2.2.2.2.2.1
        have g7 := fun o => (hfz o).2.2.2.2.2.2.2
        have HN := Lib.hid (HT.out.rep hxw 0 1)
        clear hq hfz
        go_wp2
        go_roundw
        case rel => exact ⟨j + 1, by omega, by go_num, _, Lib.hid ⟨HN.out, by rw [cnt_rep, HTC.out.2]⟩⟩
        case measure => simp [intOf]; omega
      · have e1 : decide ((j : Int) < n % 30) = false := by simp [hlt]
        have HC := Lib.hid (show cnt t ≤ 2000 by rw [HTC.out.2]; omega)
        clear HTC
        go_wp2_with fail
        refine (awake_any _).mono ?_
        rintro e wa ⟨rfl, hba⟩
        have HTa := Lib.hid (HT.out.now hba)
        obtain ⟨z0', z1', z2', z3', z4', z5', z6', z7'⟩ := cell8 HTa.out.box
        clear hba HT
        go_wp2_with fail
        refine (lawsame_any t t wa HTa.out.lives HTa.out.lives HC.out).mono ?_
        rintro e wz ⟨rfl, hbz⟩
        have hBz := (HTa.out.now hbz).below
        clear hbz HTa z0' z1' z2' z3' z4' z5' z6' z7'
        go_wp2
        go_ret
        exact ⟨rfl, hBz⟩
  · go_wp2_with fail
    rw [← HX.out, h3]
    clear h3
    go_loopw [9] (fun c wr => ∃ j : Nat, (j : Int) ≤ 190 + n % 20 ∧ c = .int .i64 j ∧ ∃ v, Hid (Gr w x 3 (lfT 2 f) j v wr)) (fun c _ => 300 - (intOf c).toNat)
    case atStart =>
      exact ⟨0, by omega, rfl, .slice none 0 0, Lib.hid ⟨by rw [HX.out]; exact heap_alloc_new _ _, World.ownsRow_nil _ _ _ _, HB1.out.alloc HB1.out.size _⟩⟩
    case round =>
      obtain ⟨j, hj, rfl, v, HG⟩ := hrel
      by_cases hlt : (j : Int) < 190 + n % 20
      · have e1 : decide ((j : Int) < 190 + n % 20) = true := by simp [hlt]
        obtain ⟨av, cv, rfl⟩ := row_slice HG.out.own
        have c7 := (cell8 (s := z0) HG.out.box).2.2.2.2.2.2.2
        have hj1 : j < 300 := by omega
        have HGd := Lib.hid (HG.out.now (w' := wr.drew) (Below.refl _ _).drew)
        go_wp2_with fail
        go_region_law
          (first
            | (refine step_append_own (by rfl) (.tmp 53) (.tmp 55) 25 (by rfl) (x + 1) 27 i0 _ 8 80 Tryd.underlying25 hi hz0 hz1 hz2 rfl (by omega) (.slice av j cv) j (flatT (List.replicate j (lfT 2 f))) (by rfl) (HGc.out.own.alloc _) ⟨wc.heap.size, 0, none⟩ 1 1 (cells8 (lfT 2 f)) (by rfl) (by rfl) (World.news_of_block (cs := row8 2 f 0 0 (.slice none 0 0)) (t := 27) (fr := (0, 0)) (heap_alloc_new wc _)) (by have := flatT_one_cell [lfT 2 f]; rwa [flatT_one] at this) (by unfold maxLen; omega) (by omega) (by have := HGc.out.lt; simp; omega) ?_; intro v1 w1' hown1 hgrow hnil; obtain ⟨a1, cp1, rfl⟩ := row_slice hown1; obtain ⟨d7', f7'⟩ := keepFC HGc.out.box (grownBy_trans (World.grownBy_alloc _ _ _) hgrow) HGc.out.ne; have HN := Lib.hid (HGc.out.next hxw (grownBy_trans (World.grownBy_alloc _ _ _) hgrow) hown1))
            | (go_simp; go_at_call 13; refine (HCA.out _).mono ?_; rintro e wc ⟨rfl, hbc⟩; have HGc := Lib.hid (HGd.out.now hbc); have c7c := (cell8 (s := z0) HGc.out.box).2.2.2.2.2.2.2; have c7a := fun o => (cell8 (s := z0) (alloc_cell8 (s := z0) HGc.out.box o)).2.2.2.2.2.2.2))
        all_goals
          go_wp2
          go_roundw
          case rel => exact ⟨j + 1, by omega, by go_num, _, HN⟩
          case measure => simp [intOf]; omega
      · have e1 : decide ((j : Int) < 190 + n % 20) = false := by simp [hlt]
        by_cases hk2 : k % 2 = 1
        · go_wp2_with fail
          refine (HCB.out _).mono ?_
          rintro e wc ⟨rfl, hbc⟩
          have HGc := Lib.hid (HG.out.now hbc)
          obtain ⟨av, cv, rfl⟩ := row_slice HG.out.own
          clear HG hbc
          obtain ⟨c0, c1, c2, c3, c4, c5, c6, c7⟩ := cell8 (s := z0) HGc.out.box
          have hq := fun o => cell8 (alloc_cell8 (s := z0) HGc.out.box o)
          have hfz := fun o => frozen8 (s := z0) (alloc_cell8 (s := z0) HGc.out.box o)
          have q0 := fun o => (hq o).1
          have q1 := fun o => (hq o).2.1
          have q2 := fun o => (hq o).2.2.1
          have q3 := fun o => (hq o).2.2.2.1
          have q4 := fun o => (hq o).2.2.2.2.1
          have q5 := fun o => (hq o).2.2.2.2.2.1
          have q6 := fun o => (hq o).2.2.2.2.2.2.1
          have q7 := fun o => (hq o).2.2.2.2.2.2.2
          have g0 := fun o => (hfz o).1
          have g1 := fun o => (hfz o).2.1
          have g2 := fun o => (hfz o).2.2.1
          have g3 := fun o => (hfz o).2.2.2.1
          have g4 := fun o => (hfz o).2.2.2.2.1
          have g5 := fun o => (hfz o).2.2.2.2.2.1
          have g6 := fun o => (hfz o).2.2.2.2.2.2.1
          have g7 := fun o => (hfz o).2.2.2.2.2.2.2
          clear hq hfz
          go_upto_region 21 with (fail)
          have HN := Lib.hid (Bx.rep1 (l := lfT 2 f') HGc.out.box HGc.out.below hxw (lf_ok HKB.out).2.2 ⟨fun h => by omega, fun i h => by omega⟩ (k % 22) (-1))
          have HNC := Lib.hid (show cnt (repX (k % 22) (-1) wc.heap.size (lfT 2 f')) = 2 by rw [cnt_rep, (lf_ok HKB.out).2.1])
          clear HGc c0 c1 c2 c3 c4 c5 c6 c7 q0 q1 q2 q3 q4 q5 q6 q7 g0 g1 g2 g3 g4 g5 g6 g7
          obtain ⟨wq, hwq⟩ : ∃ wq, wq = put8 (wc.alloc (.cells (row8 2 f' 0 0 (.slice none 0 0)) 27)) x 5 z0 (k % 22) (-1) (.slice (some ⟨wc.heap.size, 0, none⟩) 1 1) := ⟨_, rfl⟩
          have HT1 : Hid (Bx w x (repX (k % 22) (-1) wc.heap.size (lfT 2 f')) wq) := by rw [hwq]; exact HN
          clear HN
          unfold put8 at hwq
          rw [← hwq]
          clear hwq
          generalize repX (k % 22) (-1) wc.heap.size (lfT 2 f') = t1 at *
          obtain ⟨c0, c1, c2, c3, c4, c5, c6, c7⟩ := cell8 HT1.out.box
          have hq := fun o => cell8 (alloc_cell8 HT1.out.box o)
          have hfz := fun o => frozen8 (alloc_cell8 HT1.out.box o)
          have q0 := fun o => (hq o).1
          have q1 := fun o => (hq o).2.1
          have q2 := fun o => (hq o).2.2.1
          have q3 := fun o => (hq o).2.2.2.1
          have q4 := fun o => (hq o).2.2.2.2.1
          have q5 := fun o => (hq o).2.2.2.2.2.1
          have q6 := fun o => (hq o).2.2.2.2.2.2.1
          have q7 := fun o => (hq o).2.2.2.2.2.2.2
          have g0 := fun o => (hfz o).1
          have g1 := fun o => (hfz o).2.1
          have g2 := fun o => (hfz o).2.2.1
          have g3 := fun o => (hfz o).2.2.2.1
          have g4 := fun o => (hfz o).2.2.2.2.1
          have g5 := fun o => (hfz o).2.2.2.2.2.1
          have g6 := fun o => (hfz o).2.2.2.2.2.2.1
          have g7 := fun o => (hfz o).2.2.2.2.2.2.2
          clear hq hfz
          obtain ⟨t, HT, HC⟩ : ∃ t, Hid (Bx w x t (put8 (wq.alloc (.cells (row8 t1.k t1.s t1.lo t1.hi (.slice t1.a t1.n t1.cap)) 27)) x 5 z0 1 (1 + n % 20) (.slice (some ⟨wq.heap.size, 0, none⟩) 1 1))) ∧ Hid (cnt t ≤ 2000) := ⟨_, Lib.hid (HT1.out.rep hxw 1 (1 + n % 20)), Lib.hid (by rw [cnt_rep, HNC.out]; omega)⟩
          go_wp2_with fail
          refine (awake_any _).mono ?_
          rintro e wa ⟨rfl, hba⟩
          have HTa := Lib.hid (HT.out.now hba)
          obtain ⟨z0', z1', z2', z3', z4', z5', z6', z7'⟩ := cell8 HTa.out.box
          clear hba HT
          go_wp2_with fail
          refine (lawsame_any t t wa HTa.out.lives HTa.out.lives HC.out).mono ?_
          rintro e wz ⟨rfl, hbz⟩
          have hBz := (HTa.out.now hbz).below
          clear hbz HTa z0' z1' z2' z3' z4' z5' z6' z7'
          go_wp2
          go_ret
          exact ⟨rfl, hBz⟩
        · have hk3 : (k % 2 == 1) = false := by simp [hk2]
          obtain ⟨t, ht, hct, _⟩ := HG.out.bx (by omega) (lf_ok HKA.out).2.2 ⟨fun h => by omega, fun i h => by omega⟩ (lf_ok HKA.out).2.1
          have HT := Lib.hid ht
          have HC := Lib.hid (show cnt t ≤ 2000 by rw [hct]; omega)
          clear ht hct HG
          go_wp2_with fail
          refine (awake_any _).mono ?_
          rintro e wa ⟨rfl, hba⟩
          have HTa := Lib.hid (HT.out.now hba)
          obtain ⟨z0', z1', z2', z3', z4', z5', z6', z7'⟩ := cell8 HTa.out.box
          clear hba HT
          go_wp2_with fail
          refine (lawsame_any t t wa HTa.out.lives HTa.out.lives HC.out).mono ?_
          rintro e wz ⟨rfl, hbz⟩
          have hBz := (HTa.out.now hbz).below
          clear hbz HTa z0' z1' z2' z3' z4' z5' z6' z7'
          go_wp2
          go_ret
          exact ⟨rfl, hBz⟩
  · have hq := fun (o : Obj) => heap_alloc_new w1 o
    rw [← HX.out] at hq
    have hb0 := Lib.hid (show (w1.alloc (.cells (row8 2 f 0 0 (.slice none 0 0)) 27)).heap[x]? = some (.cells (row8 2 f 0 0 (.slice none 0 0)) 27 (0, 0)) from hq _)
    clear hq
    go_wp2_with fail
    rw [← HX.out, h3]
    clear h3
    go_loopw [10] (fun c wr => ∃ j : Nat, (j : Int) ≤ 990 + n % 20 ∧ c = .int .i64 j ∧ ∃ v, Hid (Gr w x 4 (lfT 1 z0) j v wr)) (fun c _ => 1100 - (intOf c).toNat)
    case atStart =>
      exact ⟨0, by omega, rfl, .slice none 0 0, Lib.hid ⟨by rw [HX.out]; exact heap_alloc_new _ _, World.ownsRow_nil _ _ _ _, HB1.out.alloc HB1.out.size _⟩⟩
    case round =>
      obtain ⟨j, hj, rfl, v, HG⟩ := hrel
      by_cases hlt : (j : Int) < 990 + n % 20
      · have e1 : decide ((j : Int) < 990 + n % 20) = true := by simp [hlt]
        obtain ⟨av, cv, rfl⟩ := row_slice HG.out.own
        have c7 := (cell8 (s := z0) HG.out.box).2.2.2.2.2.2.2
        have hj1 : j < 1100 := by omega
        go_wp2_with (first | (at_builtin; refine wpList_append_own _ rfl _ _ 25 rfl (x + 1) 27 i0 _ 8 80 Tryd.underlying25 hi hz0 hz1 hz2 rfl (by decide) _ _ _ rfl (HG.out.own.alloc _) ⟨wr.heap.size, 0, none⟩ 1 1 (cells8 (lfT 1 z0)) rfl rfl (World.news_of_block (cs := row8 1 z0 0 0 (.slice none 0 0)) (t := 27) (fr := (0, 0)) (heap_alloc_new wr _)) (by have := flatT_one_cell [lfT 1 z0]; rwa [flatT_one] at this) (by unfold maxLen; omega) (by omega) (by have := HG.out.lt; simp; omega) ?_; intro v1 w1' hown1 hgrow hnil; obtain ⟨a1, cp1, rfl⟩ := row_slice hown1; obtain ⟨d7', f7'⟩ := keepFC HG.out.box (grownBy_trans (World.grownBy_alloc _ _ _) hgrow) HG.out.ne; have HN := Lib.hid (HG.out.next hxw (grownBy_trans (World.grownBy_alloc _ _ _) hgrow) hown1)))
        go_roundw
        case rel => exact ⟨j + 1, by omega, by go_num, _, HN⟩
        case measure => simp [intOf]; omega
      · have e1 : decide ((j : Int) < 990 + n % 20) = false := by simp [hlt]
        obtain ⟨t, ht, hct, _⟩ := HG.out.bx (by omega) (lf_ok (Or.inl ⟨rfl, rfl⟩)).2.2 ⟨fun h => by omega, fun i h => by omega⟩ rfl
        have HT := Lib.hid ht
        have HC := Lib.hid (show cnt t ≤ 2000 by rw [hct]; omega)
        clear ht hct HG
        go_wp2_with fail
        refine (awake_any _).mono ?_
        rintro e wa ⟨rfl, hba⟩
        have HTa := Lib.hid (HT.out.now hba)
        obtain ⟨z0', z1', z2', z3', z4', z5', z6', z7'⟩ := cell8 HTa.out.box
        clear hba HT
        go_wp2_with fail
        refine (lawsame_any t t wa HTa.out.lives HTa.out.lives HC.out).mono ?_
        rintro e wz ⟨rfl, hbz⟩
        have hBz := (HTa.out.now hbz).below
        clear hbz HTa z0' z1' z2' z3' z4' z5' z6' z7'
        go_wp2
        go_ret
        exact ⟨rfl, hBz⟩
end Go.Proofs.YtadiphijfbpcnaaDoor
