/- Contract of the landed code's write, out of that of writeWithin. -/
import Derived.Test.YtnfchlkdppblfaaDoorJ
namespace Go.Proofs.YtnfchlkdppblfaaDoor
open Go.RowKit
set_option maxRecDepth 100000 in
theorem fits_set {t : Tr} (h : fitsB t = true) (hk : t.k = 2) : eqS t.s z0 = false := by
  unfold fitsB at h
  rw [if_pos hk] at h
  simp only [Bool.and_eq_true, Bool.not_eq_true'] at h
  exact h.1
set_option maxRecDepth 100000 in
set_option maxHeartbeats 2000000 in
theorem write_empty (s : Nat → Int) (lo hi : Int) (vk : Value) (B : Nat) (l : List UInt8) (v : Value) (w : World) (hown : w.ownsRow B 5 1 v l.length (bc l)) (hB : B ≤ w.heap.size) (hl : l.length ≤ 900000000) :
    Calls Tryd.prog 41 #[nodeV 1 s lo hi vk, v] w (Wr B v w l [40, 41]) := by
  have HL := Lib.hid (show l.length + 2 ≤ 2000000000 by omega)
  go_enter Tryd.func41, Tryd.ntmps41
  go_wp2_with (first
    | (at_builtin; refine put_text rfl _ _ rfl B _ l [40, 41] rfl (own_alloc hown _) rfl HL.out (by simp; omega) ?_; intro v1 w1 k1 k2 k3))
  go_ret
  exact ⟨_, rfl, k1, (al_trans hB k2 k3).1, (al_trans hB k2 k3).2⟩
set_option maxRecDepth 100000 in
set_option maxHeartbeats 2000000 in
theorem write_bytes (s : Nat → Int) (hs : Wf s) (hne : eqS s z0 = false) (lo hi : Int) (vk : Value) (B : Nat) (l : List UInt8) (v : Value) (w : World) (hown : w.ownsRow B 5 1 v l.length (bc l)) (hB : B ≤ w.heap.size) (hl : l.length ≤ 900000000) :
    Calls Tryd.prog 41 #[nodeV 2 s lo hi vk, v] w (Wr B v w l (setT s)) := by
  have HNE := Lib.hid hne
  clear hne
  go_enter Tryd.func41, Tryd.ntmps41
  go_wp2_with fail
  refine (writeSet_any B s hs HNE.out l v _ (own_alloc hown _) (by simp; omega) hl).mono ?_
  rintro e w1 ⟨v1, rfl, k1, k2, k3⟩
  go_wp2
  go_ret
  exact ⟨_, rfl, k1, (al_trans hB k2 k3).1, (al_trans hB k2 k3).2⟩
set_option maxRecDepth 100000 in
set_option maxHeartbeats 4000000 in
theorem write_many (k : Int) (hk : k = 3 ∨ k = 4 ∨ k = 5) (s : Nat → Int) (lo hi : Int) (hc : k = 5 → 0 ≤ lo ∧ lo ≤ 20 ∧ -1 ≤ hi ∧ hi ≤ 20) (a : Option Addr) (n cap : Nat) (kid : Nat → Tr) (ih : ∀ i, i < n → Within (kid i))
    (B : Nat) (l : List UInt8) (v : Value) (w : World) (hL : Lives w B (.node k s lo hi a n cap kid)) (hown : w.ownsRow B 5 1 v l.length (bc l)) (hB : B ≤ w.heap.size) (hl : l.length + 3000 * cnt (.node k s lo hi a n cap kid) ≤ 800000000) :
    Calls Tryd.prog 41 #[nodeV k s lo hi (.slice a n cap), v] w (Wr B v w l (catTo (pieceT k kid) n ++ (if k = 5 then countsT lo hi else []))) := by
  obtain ⟨_, hcap, hm, hat, hlv⟩ := hL
  have HAT := Lib.hid hat
  have HLV := Lib.hid hlv
  have HIH := Lib.hid ih
  have HC := Lib.hid hc
  have HL := Lib.hid (show l.length + 3000 * sumTo (fun i => cnt (kid i)) n + 3000 ≤ 800000000 by simp only [cnt] at hl; omega)
  have q1 : (k == 1) = false := by simp; omega
  have q2 : (k == 2) = false := by simp; omega
  obtain ⟨T, hT⟩ : ∃ T, T = catTo (pieceT k kid) n ++ (if k = 5 then countsT lo hi else []) := ⟨_, rfl⟩
  rw [← hT]
  have HT := Lib.hid hT
  unfold maxLen at hm
  have HHK := Lib.hid hk
  clear hat hlv ih hl hT hc hk
  go_enter Tryd.func41, Tryd.ntmps41
  go_wp2
  go_loopw [1, 22] (fun vt c wr => ∃ j : Nat, j ≤ n ∧ c = .int .i64 j ∧ wr.ownsRow B 5 1 vt (l ++ catTo (pieceT k kid) j).length (bc (l ++ catTo (pieceT k kid) j)) ∧ Hid (wr.heap[w.heap.size]? = some (.cells (row8 k s lo hi (.slice a n cap)) 81 (0, 0))) ∧ Hid (Below B w wr ∧ Ok3 v w wr vt)) (fun _ c _ => n - (intOf c).toNat)
  case atStart => exact ⟨0, by omega, rfl, by simp only [catTo, List.append_nil]; exact own_alloc hown _, Lib.hid (heap_alloc_new _ _), Lib.hid ⟨(Below.refl B w).alloc hB _, (Ok3.refl v w).alloc _⟩⟩
  case round =>
    obtain ⟨j, hj, rfl, hor, HKr, HTr⟩ := hrel
    have hszr : B ≤ wr.heap.size := Nat.le_trans hB HTr.out.1.size
    have hpr : w.heap.size < wr.heap.size := (Array.getElem?_eq_some_iff.1 HKr.out).1
    have HCL := Lib.hid (show (l ++ catTo (pieceT k kid) j).length ≤ l.length + 3000 * sumTo (fun i => cnt (kid i)) j by rw [List.length_append]; have := cat_le k kid j; omega)
    by_cases hlt : j < n
    · obtain ⟨g, off, rfl, hg, hc⟩ := HAT.out (by omega)
      obtain ⟨c0, c1, c2, c3, c4, c5, c6, c7⟩ := (hc j hlt).below hg HTr.out.1
      have HLJ := Lib.hid ((HLV.out j hlt).below HTr.out.1)
      have HSUM := Lib.hid (show sumTo (fun i => cnt (kid i)) j + cnt (kid j) ≤ sumTo (fun i => cnt (kid i)) n from sumTo_mono (fun i => cnt (kid i)) (show j + 1 ≤ n by omega))
      have HSTEP := Lib.hid (show catTo (pieceT k kid) (j + 1) = catTo (pieceT k kid) j ++ ((if 0 < j ∧ k = 4 then [124] else []) ++ encT (txt (kid j)) (enclB (kid j).k k)) from rfl)
      have HIJ := Lib.hid (HIH.out j hlt)
      have hOb := own_alloc hor (.cells (row8 (kid j).k (kid j).s (kid j).lo (kid j).hi (.slice (kid j).a (kid j).n (kid j).cap)) 28)
      have d0 : ∀ o, (wr.alloc o).cell? ⟨w.heap.size, 0, none⟩ = some (.int .i64 k) := fun o => (((Below.refl wr.heap.size wr).alloc (Nat.le_refl _) o).cell (p := ⟨w.heap.size, 0, none⟩) hpr).trans (cell8 HKr.out).1
      clear hc
      generalize hcl : l ++ catTo (pieceT k kid) j = cl at *
      have HCLE := Lib.hid hcl
      clear hcl
      by_cases hsep : 0 < j ∧ k = 4
      · obtain ⟨hj0, rfl⟩ := hsep
        have hj1 : (0 : Int) < (j : Int) := by omega
        have HS2 := Lib.hid (show l ++ catTo (pieceT 4 kid) (j + 1) = (cl ++ [124]) ++ encT (txt (kid j)) (enclB (kid j).k 4) by rw [HSTEP.out, if_pos ⟨hj0, rfl⟩, ← HCLE.out]; simp)
        have HL4 := Lib.hid (show cl.length + 1 ≤ 2000000000 by have := HL.out; have := HCL.out; have := HSUM.out; omega)
        have HL5 := Lib.hid (show (cl ++ [124]).length + 1 + 3000 * cnt (kid j) ≤ 800000000 by have := HL.out; have := HCL.out; have := HSUM.out; simp; omega)
        clear hOb
        have HKB := Lib.hid (heap_alloc_new wr (.cells (row8 (kid j).k (kid j).s (kid j).lo (kid j).hi (.slice (kid j).a (kid j).n (kid j).cap)) 28))
        go_wp2_with (first
          | (at_builtin; refine put_bytes rfl _ _ rfl B _ cl [124] rfl (own_alloc (own_alloc hor _) _) _ 1 1 rfl rfl (new1' _ 124 _ _ rfl (by simp)) HL4.out (by simp; omega) ?_
             intro v3 w3 b1 b2 b3
             have HKB3 := Lib.hid (kept8 (by decide) HKB.out (((Lib.OthersKept.refl 5 none _).alloc _).trans b3.oth))
             have HKX3 := Lib.hid (kept8 (by decide) HKr.out ((((Lib.OthersKept.refl 5 none _).alloc _).alloc _).trans b3.oth))
             obtain ⟨e0, e1, e2, e3, e4, e5, e6, e7⟩ := cell8 HKB3.out
             have x0 := (cell8 HKX3.out).1
             have HT3 := Lib.hid (wr_trans HTr.out.1 HTr.out.2 (((Below.refl B wr).alloc hszr _).trans (al_trans (by simp; omega) b2 b3).1) (((Ok3.refl _ wr).alloc _).trans (al_trans (B := B) (by simp; omega) b2 b3).2))
             have HL3 := Lib.hid (HLJ.out.below (((Below.refl B wr).alloc hszr _).trans (al_trans (by simp; omega) b2 b3).1))
             clear b2 b3))
        refine (HIJ.out B 4 (cl ++ [124]) v3 w3 HL3.out b1 (Nat.le_trans hB HT3.out.1.size) HL5.out).mono ?_
        rintro e w4 ⟨v4, rfl, f1, f2, f3⟩
        have HT4 := Lib.hid (wr_trans HT3.out.1 HT3.out.2 f2 f3)
        have HKX4 := Lib.hid (kept8 (by decide) HKX3.out f3.oth)
        clear f2 f3 c0 c1 c2 c3 c4 c5 c6 c7 e0 e1 e2 e3 e4 e5 e6 e7 x0 d0
        go_wp2
        go_roundw
        case rel => exact ⟨j + 1, by omega, by go_num, by rw [HS2.out]; exact f1, HKX4, HT4⟩
        case measure => simp [intOf]; omega
      · have HS2 := Lib.hid (show l ++ catTo (pieceT k kid) (j + 1) = cl ++ encT (txt (kid j)) (enclB (kid j).k k) by rw [HSTEP.out, if_neg hsep, ← HCLE.out]; simp)
        have HL5 := Lib.hid (show cl.length + 1 + 3000 * cnt (kid j) ≤ 800000000 by have := HL.out; have := HCL.out; have := HSUM.out; omega)
        have HLB := Lib.hid (HLJ.out.below ((Below.refl B wr).alloc hszr (.cells (row8 (kid j).k (kid j).s (kid j).lo (kid j).hi (.slice (kid j).a (kid j).n (kid j).cap)) 28)))
        have hcond : j = 0 ∨ (0 < j ∧ k ≠ 4) := by omega
        clear hsep
        rcases hcond with rfl | ⟨hj0, hk4⟩
        · simp only [Nat.zero_mul, Nat.add_zero] at c0 c1 c2 c3 c4 c5 c6 c7
          go_wp2_with fail
          refine (HIJ.out B k cl _ _ HLB.out hOb (by simp; omega) HL5.out).mono ?_
          rintro e w4 ⟨v4, rfl, f1, f2, f3⟩
          have HT4 := Lib.hid (wr_trans HTr.out.1 HTr.out.2 (al_trans hszr f2 f3).1 (al_trans hszr f2 f3).2)
          have HKX4 := Lib.hid (kept8 (by decide) HKr.out (al_trans hszr f2 f3).2.oth)
          clear f2 f3 c0 c1 c2 c3 c4 c5 c6 c7 d0 hOb
          go_wp2
          go_roundw
          case rel => exact ⟨0 + 1, by omega, by go_num, by rw [HS2.out]; exact f1, HKX4, HT4⟩
          case measure => simp [intOf]; omega
        · have hj1 : (0 : Int) < (j : Int) := by omega
          have q4 : (k == 4) = false := by simp [hk4]
          go_wp2_with fail
          refine (HIJ.out B k cl _ _ HLB.out hOb (by simp; omega) HL5.out).mono ?_
          rintro e w4 ⟨v4, rfl, f1, f2, f3⟩
          have HT4 := Lib.hid (wr_trans HTr.out.1 HTr.out.2 (al_trans hszr f2 f3).1 (al_trans hszr f2 f3).2)
          have HKX4 := Lib.hid (kept8 (by decide) HKr.out (al_trans hszr f2 f3).2.oth)
          clear f2 f3 c0 c1 c2 c3 c4 c5 c6 c7 d0 hOb
          go_wp2
          go_roundw
          case rel => exact ⟨j + 1, by omega, by go_num, by rw [HS2.out]; exact f1, HKX4, HT4⟩
          case measure => simp [intOf]; omega
    · obtain rfl : n = j := by omega
      obtain ⟨x0, x1, x2, x3, x4, x5, x6, x7⟩ := cell8 HKr.out
      by_cases hk5 : k = 5
      · subst hk5
        obtain ⟨g1, g2, g3, g4⟩ := HC.out rfl
        have HXX := Lib.hid (show l ++ T = (l ++ catTo (pieceT 5 kid) n) ++ countsT lo hi by rw [HT.out]; simp)
        go_wp2_with fail
        refine (counts_text B 5 s lo hi g1 g2 g3 g4 _ _ (.slice a n cap) _ hor hszr (by have := HL.out; have := HCL.out; omega)).mono ?_
        rintro e w4 ⟨v4, rfl, f1, f2, f3⟩
        go_wp2
        go_ret
        exact ⟨_, rfl, by rw [HXX.out]; exact f1, (wr_trans HTr.out.1 HTr.out.2 f2 f3).1, (wr_trans HTr.out.1 HTr.out.2 f2 f3).2⟩
      · have q5 : (k == 5) = false := by simp [hk5]
        have HXX := Lib.hid (show l ++ T = l ++ catTo (pieceT k kid) n by rw [HT.out, if_neg hk5]; simp)
        go_wp2
        go_ret
        exact ⟨_, rfl, by rw [HXX.out]; exact hor, HTr.out.1, HTr.out.2⟩
set_option maxRecDepth 100000 in
/-- write, of any pattern as in the table. -/
theorem write_of (hw : ∀ t, Writes t → Within t) : ∀ t : Tr, fitT t = true → Writes t := by
  intro t
  induction t with
  | nul => intro hf; cases hf
  | node k s lo hi a n cap kid ih =>
  intro hf B l v w hL hown hB hl
  have hc := fits_cases (fitT_fits hf)
  simp only [Tr.k, Tr.n, Tr.lo, Tr.hi] at hc
  have hcp := cnt_pos (.node k s lo hi a n cap kid)
  rcases hc with ⟨rfl, _⟩ | ⟨rfl, _⟩ | ⟨hk, _⟩ | ⟨rfl, _, h1, h2, h3, h4⟩
  · exact write_empty s lo hi _ B l v w hown hB (by omega)
  · exact write_bytes s hL.1 (fits_set (fitT_fits hf) rfl) lo hi _ B l v w hown hB (by omega)
  · rw [txt_many (by omega) (by omega)]
    exact write_many k (by omega) s lo hi (by omega) a n cap kid (fun i hi => hw _ (ih i (fitT_kid hf hi))) B l v w hL hown hB hl
  · rw [txt_many (by omega) (by omega)]
    exact write_many 5 (by omega) s lo hi (fun _ => ⟨h1, h2, h3, h4⟩) a n cap kid (fun i hi => hw _ (ih i (fitT_kid hf hi))) B l v w hL hown hB hl
end Go.Proofs.YtnfchlkdppblfaaDoor
