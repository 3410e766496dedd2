/- Contract of the landed code's writeSet, for any set that is not empty. -/
import Derived.Test.YtnfchlkdppblfaaDoorG
namespace Go.Proofs.YtnfchlkdppblfaaDoor
open Go.RowKit
set_option maxRecDepth 100000 in
theorem ald_trans {B : Nat} {v v2 : Value} {w w2 : World} {o : Obj} (hB : B ≤ w.heap.size) (k2 : Below B (w.alloc o).drew w2) (k3 : Ok3 v (w.alloc o).drew w2 v2) : Below B w w2 ∧ Ok3 v w w2 v2 := ⟨((Below.refl B w).alloc hB _).drew.trans k2, ((Ok3.refl v w).alloc _).drew.trans k3⟩
set_option maxRecDepth 100000 in
set_option maxHeartbeats 2000000 in
theorem writeSet_any (B : Nat) (f : Nat → Int) (hf : Wf f) (hne : eqS f z0 = false) (l : List UInt8) (v : Value) (w : World) (hown : w.ownsRow B 5 1 v l.length (bc l)) (hB : B ≤ w.heap.size) (hl : l.length ≤ 900000000) :
    Calls Tryd.prog 61 #[v, SV f] w (Wr B v w l (setT f)) := by
  have hp := runs_pos hf hne
  have HOK := Lib.hid (rn_set f).ok
  have HRN := Lib.hid (runsN_le f)
  have hp1 : (0 : Int) < (runsN f : Int) := by omega
  obtain ⟨one, hone⟩ : ∃ o, o = oneB f := ⟨_, rfl⟩
  have heq : ∀ wx, Sem.run Tryd.prog (binOp .eql 25 (SV f) (SV (byK (ofK (lo (runsS f) 0) (lo (runsS f) 0))))) wx = .ok (.bool one) wx := fun wx => (eql24 f _ wx).trans (by rw [one_eq hf hp, hone])
  have HONE := Lib.hid hone
  have HEQ := Lib.hid heq
  clear hone heq hne
  obtain ⟨T, hT⟩ : ∃ T, T = setT f := ⟨_, rfl⟩
  rw [← hT]
  have HT := Lib.hid hT
  clear hT
  go_enter Tryd.func61, Tryd.ntmps61
  go_wp2_with fail
  have HK := Lib.hid (heap_alloc_new w (.cells (row4 f) 25))
  have hO := own_alloc hown (.cells (row4 f) 25)
  have hBq : Below w.heap.size w (w.alloc (.cells (row4 f) 25)) := alloc_below _ _
  have hqs : w.heap.size < (w.alloc (.cells (row4 f) 25)).heap.size := by simp
  refine (runs_any f _).mono ?_
  rintro e w1 ⟨vr, rfl, hr1, hb1⟩
  obtain ⟨g, cap, rfl, hg1, HR1⟩ := runsAt_of hr1 hp
  have HR1 := Lib.hid HR1
  have HK1 := Lib.hid ((hb1.block _ hqs).trans HK.out)
  have hO1 := ownsRow_below hO hb1
  have hB1 := hBq.trans (hb1.mono hBq.size)
  have hs1 : w.heap.size < w1.heap.size := Nat.lt_of_lt_of_le hqs hb1.size
  clear hb1 HK hO hBq hr1
  obtain ⟨_, _, hcc⟩ := HR1.out
  obtain ⟨c0, c1⟩ := hcc 0 hp
  rw [Nat.zero_mul] at c0 c1
  clear hcc
  have hq := HEQ.out
  have HFB : Hid (0 ≤ lo (runsS f) 0 ∧ lo (runsS f) 0 < 256) := by
    obtain ⟨o1, o2, o3⟩ := HOK.out 0 hp
    exact ⟨o1, Int.lt_of_le_of_lt o2 o3⟩
  generalize hfi : lo (runsS f) 0 = first at *
  have HFI := Lib.hid hfi
  clear hfi
  go_wp2_with fail
  have s0 := keep4 hs1 HK1.out (Below.refl _ w1)
  obtain ⟨_, s0, s1, s2, s3⟩ := s0
  go_region_held3 (fun w' => Below w1.heap.size w1 w' ∧ w'.cell? ⟨w.heap.size, 0, none⟩ = some (.int .u64 (f 0)) ∧ w'.cell? ⟨w.heap.size, 1, none⟩ = some (.int .u64 (f 1)) ∧ w'.cell? ⟨w.heap.size, 2, none⟩ = some (.int .u64 (f 2)) ∧ w'.cell? ⟨w.heap.size, 3, none⟩ = some (.int .u64 (f 3)))
    ((refine keep4 hs1 HK1.out ?_; first | assumption | exact (Below.refl _ _).drew))
    (first
      | (go_at_call 79; go_split_ands; refine (fromB (w := w1) (of_any first first _) ?_).mono ?_; assumption; rintro e wz ⟨rfl, hBz⟩))
  have hOz := ownsRow_below hO1 hBz
  have HRz := Lib.hid (runsAt_kept HR1.out (others_of_below hBz))
  have hBw : Below w.heap.size w wz := hB1.trans (hBz.mono hB1.size)
  have hsz : B ≤ wz.heap.size := Nat.le_trans hB hBw.size
  have HTw := Lib.hid (And.intro (hBw.mono hB) (ok_of_below v hBw))
  clear hBz hO1 HR1 HK1 s0 s1 s2 s3 c0 c1 hq HEQ hB1 hBw
  cases one
  · have HL1 := Lib.hid (show l.length + 1 ≤ 2000000000 by omega)
    have HLL := Lib.hid hl
    have HX := Lib.hid (show T = [91] ++ catTo (runT (runsS f)) (runsN f) ++ [93] by rw [HT.out]; unfold setT; rw [← HONE.out]; rfl)
    clear hl
    go_wp2_with (first
      | (at_builtin; refine put_bytes rfl _ _ rfl B _ l [91] rfl (own_alloc hOz _) ⟨wz.heap.size, 0, none⟩ 1 1 rfl rfl (new1' _ 91 _ _ rfl rfl) HL1.out (by simp; omega) ?_; intro v2 w2 a1 a2 a3; have HT2 := Lib.hid (wr_trans HTw.out.1 HTw.out.2 (al_trans hsz a2 a3).1 (al_trans hsz a2 a3).2); have HR2 := Lib.hid (runsAt_kept HRz.out (al_trans hsz a2 a3).2.oth); clear a2 a3))
    have hN256 : runsN f ≤ 256 := HRN.out
    go_loopw [0, 28] (fun vt c wr => ∃ j : Nat, j ≤ runsN f ∧ c = .int .i64 j ∧ wr.ownsRow B 5 1 vt (l ++ ([91] ++ catTo (runT (runsS f)) j)).length (bc (l ++ ([91] ++ catTo (runT (runsS f)) j))) ∧ Hid (RunsAt wr g (runsN f) (runsS f)) ∧ Hid (Below B w wr ∧ Ok3 v w wr vt)) (fun _ c _ => runsN f - (intOf c).toNat)
    case atStart => exact ⟨0, by omega, rfl, a1, HR2, HT2⟩
    case round =>
      obtain ⟨j, hj, rfl, hor, HRr, HTr⟩ := hrel
      have hszr : B ≤ wr.heap.size := Nat.le_trans hB HTr.out.1.size
      have HCL := Lib.hid (show (l ++ ([91] ++ catTo (runT (runsS f)) j)).length ≤ 900003000 by
        have h1 := catTo_len (runT_len (runsS f)) j; have := HLL.out; simp only [List.length_append, List.length_cons, List.length_nil]; omega)
      by_cases hlt : j < runsN f
      · obtain ⟨cur, _, hcc⟩ := HRr.out
        obtain ⟨c0, c1⟩ := hcc j hlt
        obtain ⟨o1, o2, o3⟩ := HOK.out j hlt
        have o1' : 0 ≤ lo (runsS f) j := o1
        have o2' : lo (runsS f) j ≤ hi (runsS f) j := o2
        have o3' : hi (runsS f) j < 256 := o3
        have HSTEP := Lib.hid (show catTo (runT (runsS f)) (j + 1) = catTo (runT (runsS f)) j ++ (byteT (lo (runsS f) j) ++ (if lo (runsS f) j < hi (runsS f) j then [45] ++ byteT (hi (runsS f) j) else [])) from rfl)
        have hOb := own_alloc hor (.cells #[.int .i64 (lo (runsS f) j), .int .i64 (hi (runsS f) j)] 123)
        clear hcc o1 o2 o3
        generalize lo (runsS f) j = x at *
        generalize hi (runsS f) j = y at *
        generalize hcl : l ++ ([91] ++ catTo (runT (runsS f)) j) = cl at *
        have HCLE := Lib.hid hcl
        clear hcl
        go_wp2_with fail
        refine (byte_any B x o1' (by omega) cl _ _ hOb (by simp; omega) (by have := HCL.out; omega)).mono ?_
        rintro e w3 ⟨v3, rfl, b1, b2, b3⟩
        have HQ3 := Lib.hid (al_trans hszr b2 b3)
        have HKB := Lib.hid (show w3.heap[wr.heap.size]? = some (.cells #[.int .i64 x, .int .i64 y] 123 (0, 0)) from b3.oth wr.heap.size _ (heap_alloc_new wr _) (by simp) (fun c fz q => by injection q with _ q _; cases q))
        have HT3 := Lib.hid (wr_trans HTr.out.1 HTr.out.2 HQ3.out.1 HQ3.out.2)
        have HR3 := Lib.hid (runsAt_kept HRr.out HQ3.out.2.oth)
        obtain ⟨e0, e1⟩ := keep2 HKB.out (grownBy_refl w3 none) (by simp)
        have hs3 : B ≤ w3.heap.size := Nat.le_trans hB HT3.out.1.size
        have HL3 := Lib.hid (show (cl ++ byteT x).length ≤ 900003004 by have := HCL.out; have := byteT_len x; simp only [List.length_append]; omega)
        clear b2 b3 c0 c1 hor hOb
        by_cases hxy : x < y
        · have HS2 := Lib.hid (show l ++ ([91] ++ catTo (runT (runsS f)) (j + 1)) = ((cl ++ byteT x) ++ [45]) ++ byteT y by rw [HSTEP.out, if_pos hxy, ← HCLE.out]; simp)
          have HL4 := Lib.hid (show (cl ++ byteT x).length + 1 ≤ 2000000000 by have := HL3.out; omega)
          have HL5 := Lib.hid (show ((cl ++ byteT x) ++ [45]).length ≤ 1000000000 by have := HL3.out; rw [List.length_append]; simp only [List.length_cons, List.length_nil]; omega)
          generalize hwp : wr.heap.size = p at *
          clear hwp
          have hoy : 0 ≤ y := by omega
          go_wp2_with fail
          go_region_held3 (fun w' => w'.cell? ⟨p, 1, none⟩ = some (.int .i64 y))
            (first | exact (keep2 HKB.out (grownBy_refl w3 none) (by simp)).2 | exact (keep2 HKB.out (grownBy_drew w3 none) (by simp)).2 | exact (keep2 HKB.out (grownBy_trans (grownBy_drew w3 none) (World.grownBy_alloc _ _ _)) (by simp)).2 | exact (keep2 (HKD.out) (grownBy_refl _ none) (by simp)).2 | exact (keep2 (HKE.out) (grownBy_refl _ none) (by simp)).2)
            (first
              | (refine step_bytes (by rfl) (.tmp 41) (.tmp 42) (by rfl) B v3 _ [45] (by rfl) (own_alloc (w := w3.drew) b1 _) ⟨w3.heap.size, 0, none⟩ 1 1 (by rfl) (by rfl) (new1' w3.drew 45 _ _ rfl rfl) HL4.out (by simp; omega) ?_; intro v4 w4 d1 d2 d3; have HKD := Lib.hid (show w4.heap[p]? = some (.cells #[.int .i64 x, .int .i64 y] 123 (0, 0)) from (((Lib.OthersKept.refl 5 none w3).drew.alloc _).trans d3.oth) p _ HKB.out (by simp) (fun c fz q => by injection q with _ q _; cases q)))
              | (go_at_call 80; refine (byte_any B y hoy o3' _ v4 w4 d1 (Nat.le_trans (Nat.le_trans hs3 (by simp)) d2.size) HL5.out).mono ?_; rintro e w5 ⟨v5, rfl, f1, f2, f3⟩; have HKE := Lib.hid (show w5.heap[p]? = some (.cells #[.int .i64 x, .int .i64 y] 123 (0, 0)) from f3.oth p _ HKD.out (by simp) (fun c fz q => by injection q with _ q _; cases q))))
          have HT4 := Lib.hid (wr_trans HT3.out.1 HT3.out.2 (ald_trans (w := w3) hs3 d2 d3).1 (ald_trans (w := w3) hs3 d2 d3).2)
          have HT5 := Lib.hid (wr_trans HT4.out.1 HT4.out.2 f2 f3)
          have HR5 := Lib.hid (runsAt_kept (runsAt_kept HR3.out (ald_trans (w := w3) hs3 d2 d3).2.oth) f3.oth)
          clear d2 d3 f2 f3
          go_wp2
          go_roundw
          case rel => exact ⟨j + 1, by omega, by go_num, by rw [HS2.out]; exact f1, HR5, HT5⟩
          case measure => simp [intOf]; omega
        · have HS2 := Lib.hid (show l ++ ([91] ++ catTo (runT (runsS f)) (j + 1)) = cl ++ byteT x by rw [HSTEP.out, if_neg hxy, ← HCLE.out]; simp)
          go_wp2
          go_roundw
          case rel => exact ⟨j + 1, by omega, by go_num, by rw [HS2.out]; exact b1, HR3, HT3⟩
          case measure => simp [intOf]; omega
      · obtain rfl : j = runsN f := by omega
        have HLF := Lib.hid (show (l ++ ([91] ++ catTo (runT (runsS f)) (runsN f))).length + 1 ≤ 2000000000 by have := HCL.out; omega)
        have HXX := Lib.hid (show l ++ T = (l ++ ([91] ++ catTo (runT (runsS f)) (runsN f))) ++ [93] by rw [HX.out]; simp)
        go_wp2_with (first
          | (at_builtin; refine put_bytes rfl _ _ rfl B _ _ [93] rfl (own_alloc hor _) ⟨wr.heap.size, 0, none⟩ 1 1 rfl rfl (new1' _ 93 _ _ rfl rfl) HLF.out (by simp; omega) ?_; intro v3 w3 b1 b2 b3))
        go_ret
        exact ⟨_, rfl, by rw [HXX.out]; exact b1, (wr_trans HTr.out.1 HTr.out.2 (al_trans hszr b2 b3).1 (al_trans hszr b2 b3).2).1, (wr_trans HTr.out.1 HTr.out.2 (al_trans hszr b2 b3).1 (al_trans hszr b2 b3).2).2⟩
  · have HX := Lib.hid (show T = byteT first by rw [HT.out]; unfold setT; rw [← HONE.out, ← HFI.out]; rfl)
    go_wp2_with fail
    refine (byte_any B first HFB.out.1 HFB.out.2 l _ _ hOz hsz (by omega)).mono ?_
    rintro e w2 ⟨v2, rfl, b1, b2, b3⟩
    go_wp2
    go_ret
    exact ⟨_, rfl, by rw [HX.out]; exact b1, (wr_trans HTw.out.1 HTw.out.2 b2 b3).1, (wr_trans HTw.out.1 HTw.out.2 b2 b3).2⟩
end Go.Proofs.YtnfchlkdppblfaaDoor
