/- Contract of the landed code's writeWithin, out of that of write. -/
import Derived.Test.YtnfchlkdppblfaaDoorJ
namespace Go.Proofs.YtnfchlkdppblfaaDoor
open Go.RowKit
set_option maxRecDepth 100000 in
theorem keepJ {w w' : World} {g : Nat} {k : Int} {s : Nat → Int} {lo hi : Int} {v : Value} (h : w.heap[g]? = some (.cells (row8 k s lo hi v) 81 (0, 0))) (h3 : Lib.OthersKept 5 none w w') :
    w'.cell? ⟨g, 0, none⟩ = some (.int .i64 k) ∧ w'.cell? ⟨g, 1, none⟩ = some (.int .u64 (s 0)) ∧ w'.cell? ⟨g, 2, none⟩ = some (.int .u64 (s 1)) ∧ w'.cell? ⟨g, 3, none⟩ = some (.int .u64 (s 2)) ∧
    w'.cell? ⟨g, 4, none⟩ = some (.int .u64 (s 3)) ∧ w'.cell? ⟨g, 5, none⟩ = some (.int .i64 lo) ∧ w'.cell? ⟨g, 6, none⟩ = some (.int .i64 hi) ∧ w'.cell? ⟨g, 7, none⟩ = some v := cell8 (kept8 (by decide) h h3)
set_option maxRecDepth 100000 in
set_option maxHeartbeats 16000000 in
theorem within_of (t : Tr) (ht : Writes t) : Within t := by
  intro B kind l v w hL hown hB hl
  obtain ⟨T, hT⟩ : ∃ T, T = encT (txt t) (enclB t.k kind) := ⟨_, rfl⟩
  rw [← hT]
  have HT := Lib.hid hT
  have HW := Lib.hid ht
  have HLV := Lib.hid hL
  have HLN := Lib.hid (txt_len t)
  have HL := Lib.hid hl
  clear hT ht hL hl
  obtain ⟨en, hen⟩ : ∃ en, en = enclB t.k kind := ⟨_, rfl⟩
  have HEN := Lib.hid hen
  clear hen
  show Calls Tryd.prog 62 #[nodeV t.k t.s t.lo t.hi (.slice t.a t.n t.cap), v, .int .i64 kind] w _
  go_enter Tryd.func62, Tryd.ntmps62
  go_wp2_with fail
  refine (enclosed_any t.k kind t.s t.lo t.hi (.slice t.a t.n t.cap) _).mono ?_
  rintro e w1 ⟨rfl, hb1⟩
  rw [← HEN.out]
  have HK := Lib.hid (box_kept hb1)
  have hBw := box_below hb1
  have hs1 : w.heap.size < w1.heap.size := by have := hb1.size; simp at this; omega
  have hown1 := ownsRow_below hown hBw
  have HQ := Lib.hid (And.intro (hBw.mono hB) (ok_of_below v hBw))
  have HL1 := Lib.hid (HLV.out.below (hBw.mono hB))
  have hB1 : B ≤ w1.heap.size := by omega
  clear hb1 hBw
  obtain ⟨c0, c1, c2, c3, c4, c5, c6, c7⟩ := cell8 HK.out
  cases en
  · go_wp2_with fail
    refine (HW.out B l v w1 HL1.out hown1 hB1 (by have := HL.out; omega)).mono ?_
    rintro e w2 ⟨v2, rfl, b1, b2, b3⟩
    have HX := Lib.hid (show T = txt t by rw [HT.out, ← HEN.out]; rfl)
    go_wp2
    go_ret
    exact ⟨_, rfl, by rw [HX.out]; exact b1, (wr_trans HQ.out.1 HQ.out.2 b2 b3).1, (wr_trans HQ.out.1 HQ.out.2 b2 b3).2⟩
  · have HX := Lib.hid (show l ++ T = ((l ++ [40]) ++ txt t) ++ [41] by rw [HT.out, ← HEN.out]; simp [encT])
    have HA := Lib.hid (show l.length + 1 ≤ 2000000000 by have := HL.out; omega)
    have HC := Lib.hid (show (l ++ [40]).length + 3000 * cnt t ≤ 800000000 by have := HL.out; simp; omega)
    have HD := Lib.hid (show ((l ++ [40]) ++ txt t).length + 1 ≤ 2000000000 by have := HL.out; have := HLN.out; simp; omega)
    have hpn := own_ne hown (Nat.le_refl _)
    generalize hwp : w.heap.size = p at *
    clear hwp
    go_wp2_with fail
    go_region_held3 (fun w' => w'.cell? ⟨p, 0, none⟩ = some (.int .i64 t.k) ∧ w'.cell? ⟨p, 1, none⟩ = some (.int .u64 (t.s 0)) ∧ w'.cell? ⟨p, 2, none⟩ = some (.int .u64 (t.s 1)) ∧ w'.cell? ⟨p, 3, none⟩ = some (.int .u64 (t.s 2)) ∧ w'.cell? ⟨p, 4, none⟩ = some (.int .u64 (t.s 3)) ∧ w'.cell? ⟨p, 5, none⟩ = some (.int .i64 t.lo) ∧ w'.cell? ⟨p, 6, none⟩ = some (.int .i64 t.hi) ∧ w'.cell? ⟨p, 7, none⟩ = some (.slice t.a t.n t.cap))
      (first | exact cell8 HK.out | exact keepJ HK.out (fun _ _ h _ _ => h) | exact keepJ HK.out (fun k x hk hb hx => (Lib.OthersKept.refl 5 none w1).alloc _ k x hk hb hx) | exact keepJ HK.out (fun k x hk hb hx => ((Lib.OthersKept.refl 5 none w1).alloc _).alloc _ k x hk hb hx) | exact keepJ HKD.out (fun _ _ h _ _ => h) | exact keepJ HKD.out (fun k x hk hb hx => (Lib.OthersKept.refl 5 none w4).alloc _ k x hk hb hx) | exact keepJ HKF.out (fun _ _ h _ _ => h) | exact keepJ HKF.out (fun k x hk hb hx => (Lib.OthersKept.refl 5 none w5).alloc _ k x hk hb hx) | exact keepJ HKM.out (fun _ _ h _ _ => h))
      (first
        | (refine step_bytes (by rfl) (.tmp 15) (.tmp 16) (by rfl) B v l [40] (by rfl) (by repeat first | exact hown1 | refine own_alloc ?_ _) _ 1 1 (by rfl) (by rfl) (by first | exact new1' _ 40 _ _ rfl (by simp) | exact World.news_of_block (cs := #[.int .u8 40]) (t := 5) (fr := (0, 0)) (heap_alloc2_old _ _ _)) HA.out (by simp; omega) ?_
           intro v4 w4 d1 d2 d3
           have HE2 : Hid (Below B w1 w4) := Below.trans (by repeat first | exact Below.refl _ _ | refine Below.drew ?_ | refine Below.alloc ?_ (by first | omega | (simp; omega)) _) d2
           have HE3 : Hid (Ok3 v w1 w4 v4) := Ok3.trans (by repeat first | exact Ok3.refl _ _ | refine Ok3.drew ?_ | refine Ok3.alloc ?_ _) d3
           have HKD := Lib.hid (kept8 (by decide) HK.out HE3.out.oth))
        | (go_at_call 41; refine (HW.out B (l ++ [40]) v4 _ (by first | exact HL1.out.below HE2.out | exact HL1.out.below (HE2.out.alloc (Nat.le_trans hB1 HE2.out.size) _)) (by repeat first | exact d1 | refine own_alloc ?_ _) (by have := HE2.out.size; simp; omega) HC.out).mono ?_
           rintro e w5 ⟨v5, rfl, f1, f2, f3⟩
           have HG2 : Hid (Below B w4 w5) := Below.trans (by repeat first | exact Below.refl _ _ | refine Below.drew ?_ | refine Below.alloc ?_ (Nat.le_trans hB1 HE2.out.size) _) f2
           have HG3 : Hid (Ok3 v4 w4 w5 v5) := Ok3.trans (by repeat first | exact Ok3.refl _ _ | refine Ok3.drew ?_ | refine Ok3.alloc ?_ _) f3
           have HKF := Lib.hid (kept8 (by decide) HKD.out HG3.out.oth))
        | (refine step_bytes (by rfl) (.tmp 18) (.tmp 19) (by rfl) B v5 _ [41] (by rfl) (by repeat first | exact f1 | refine own_alloc ?_ _) _ 1 1 (by rfl) (by rfl) (by first
             | exact new1' _ 41 _ _ rfl (by simp)
             | exact World.news_of_block (cs := #[.int .u8 41]) (t := 5) (fr := (0, 0)) ((f3.block _ (by simp) (own_ne d1 (by simp))).trans (heap_alloc_new _ _))
             | exact World.news_of_block (cs := #[.int .u8 41]) (t := 5) (fr := (0, 0)) (((d3.trans HG3.out).block _ (by simp <;> omega) (own_ne hown1 (by omega))).trans (heap_alloc2_new _ _ _))
             | exact World.news_of_block (cs := #[.int .u8 41]) (t := 5) (fr := (0, 0)) (((d3.trans HG3.out).block _ (by simp <;> omega) (own_ne hown1 (by omega))).trans (heap_alloc2_old _ _ _))) HD.out (by have := HE2.out.size; have := HG2.out.size; simp; omega) ?_
           intro v6 w6 k1 k2 k3
           have HM2 : Hid (Below B w5 w6) := Below.trans (by repeat first | exact Below.refl _ _ | refine Below.drew ?_ | refine Below.alloc ?_ (by have := HE2.out.size; have := HG2.out.size; omega) _) k2
           have HM3 : Hid (Ok3 v5 w5 w6 v6) := Ok3.trans (by repeat first | exact Ok3.refl _ _ | refine Ok3.drew ?_ | refine Ok3.alloc ?_ _) k3
           have HKM := Lib.hid (kept8 (by decide) HKF.out HM3.out.oth)))
    all_goals
      go_wp2
      go_ret
      exact ⟨_, rfl, by rw [HX.out]; exact k1, HQ.out.1.trans (HE2.out.trans (HG2.out.trans HM2.out)), HQ.out.2.trans (HE3.out.trans (HG3.out.trans HM3.out))⟩
end Go.Proofs.YtnfchlkdppblfaaDoor
