/- Contract of the document's own right of layer 3: patterns without kids, and other ones. -/
import Derived.Test.YtbahadgcmaabcaaBc
namespace Go.Proofs.Ytbahadgcmaabcaa
open Go.RowKit
set_option maxRecDepth 100000 in
theorem neqS_z (s : Nat → Int) {b : Bool} (h : eqS s z0 = b) (w : World) : Sem.run Try.prog (binOp .neq 24 (SV s) (.agg #[.int .u64 0, .int .u64 0, .int .u64 0, .int .u64 0])) w = .ok (.bool (!b)) w := neqS_any s z0 h w
set_option maxRecDepth 100000 in
theorem ok_fits {t : Tr} {lv : Nat} (h : fitsB t = false) : okT t lv = false := by
  cases t with
  | nul => rfl
  | node => simp [okT, h]
set_option maxRecDepth 100000 in
theorem ok_leaf {t : Tr} {lv : Nat} (h : fitsB t = true) (hn : t.n = 0) (hl : 0 < lv) : okT t lv = true := by
  cases t with
  | nul => simp [fitsB, Tr.k] at h
  | node k s lo hi a n cap kid =>
  have : n = 0 := hn
  subst this
  simp [okT, h, hl, allTo]
set_option maxRecDepth 100000 in
set_option maxHeartbeats 2000000 in
theorem right_zero (k : Int) (s : Nat → Int) (lo hi : Int) (v : Value) (w : World) : Calls Try.prog 44 #[nodeV k s lo hi v, .int .i64 0] w fun e w' => e = .returned (.bool false) ∧ Below w.heap.size w w' := by
  go_enter Try.func44, Try.ntmps44
  go_wp2
  go_ret
  exact ⟨rfl, alloc_below _ _⟩
set_option maxRecDepth 100000 in
set_option maxHeartbeats 4000000 in
theorem right_empty (s : Nat → Int) (lo hi : Int) (a : Option Addr) (n cap : Nat) (lv : Nat) (hlv : 0 < lv) (w : World) : Calls Try.prog 44 #[nodeV 1 s lo hi (.slice a n cap), .int .i64 lv] w fun e w' => e = .returned (.bool (plainB s lo hi && decide (n = 0))) ∧ Below w.heap.size w w' := by
  have hl1 : ¬ (lv : Int) < 1 := by omega
  obtain ⟨R, hR⟩ : ∃ R, R = (plainB s lo hi && decide (n = 0)) := ⟨_, rfl⟩
  rw [← hR]
  have HR := Lib.hid hR
  clear hR
  cases he : eqS s z0
  · have hq := neqS_z s he
    have HX := Lib.hid (show R = false by rw [HR.out]; simp [plainB, he])
    clear he
    go_enter Try.func44, Try.ntmps44
    go_wp2
    all_goals
      go_ret
      exact ⟨ret_bool HX.out.symm, alloc_below _ _⟩
  · have hq := neqS_z s he
    have HE := Lib.hid he
    clear he
    by_cases hp : lo = 0 ∧ hi = 0
    · obtain ⟨rfl, rfl⟩ := hp
      by_cases hn : n = 0
      · subst hn
        have HX := Lib.hid (show R = true by rw [HR.out]; simp [plainB, HE.out])
        go_enter Try.func44, Try.ntmps44
        go_wp2
        go_ret
        exact ⟨ret_bool HX.out.symm, alloc_below _ _⟩
      · have hn1 : ((n : Int) == 0) = false := by simp [hn]
        have HX := Lib.hid (show R = false by rw [HR.out]; simp [hn])
        go_enter Try.func44, Try.ntmps44
        go_wp2
        go_ret
        exact ⟨ret_bool HX.out.symm, alloc_below _ _⟩
    · have HX := Lib.hid (show R = false by rw [HR.out]; simp [plainB]; intro _ h1 h2; exact absurd ⟨h1, h2⟩ hp)
      have hc : (lo == 0) = false ∨ (lo = 0 ∧ (hi == 0) = false) := by simp; omega
      clear hp
      rcases hc with hc | ⟨rfl, hc⟩
      · go_enter Try.func44, Try.ntmps44
        go_wp2
        go_ret
        exact ⟨ret_bool HX.out.symm, alloc_below _ _⟩
      · go_enter Try.func44, Try.ntmps44
        go_wp2
        go_ret
        exact ⟨ret_bool HX.out.symm, alloc_below _ _⟩
set_option maxRecDepth 100000 in
set_option maxHeartbeats 4000000 in
theorem right_bytes (s : Nat → Int) (lo hi : Int) (a : Option Addr) (n cap : Nat) (lv : Nat) (hlv : 0 < lv) (w : World) : Calls Try.prog 44 #[nodeV 2 s lo hi (.slice a n cap), .int .i64 lv] w fun e w' => e = .returned (.bool (!eqS s z0 && (plainB z0 lo hi && decide (n = 0)))) ∧ Below w.heap.size w w' := by
  have hl1 : ¬ (lv : Int) < 1 := by omega
  obtain ⟨R, hR⟩ : ∃ R, R = (!eqS s z0 && (plainB z0 lo hi && decide (n = 0))) := ⟨_, rfl⟩
  rw [← hR]
  have HR := Lib.hid hR
  clear hR
  cases he : eqS s z0
  · have hq := neqS_z s he
    have HE := Lib.hid he
    clear he
    by_cases hp : lo = 0 ∧ hi = 0
    · obtain ⟨rfl, rfl⟩ := hp
      by_cases hn : n = 0
      · subst hn
        have HX := Lib.hid (show R = true by rw [HR.out, HE.out]; simp [plainB, eqS])
        go_enter Try.func44, Try.ntmps44
        go_wp2
        go_ret
        exact ⟨ret_bool HX.out.symm, alloc_below _ _⟩
      · have hn1 : ((n : Int) == 0) = false := by simp [hn]
        have HX := Lib.hid (show R = false by rw [HR.out]; simp [hn])
        go_enter Try.func44, Try.ntmps44
        go_wp2
        go_ret
        exact ⟨ret_bool HX.out.symm, alloc_below _ _⟩
    · have HX := Lib.hid (show R = false by rw [HR.out]; simp [plainB]; intro _ _ h1 h2; exact absurd ⟨h1, h2⟩ hp)
      have hc : (lo == 0) = false ∨ (lo = 0 ∧ (hi == 0) = false) := by simp; omega
      clear hp
      rcases hc with hc | ⟨rfl, hc⟩
      · go_enter Try.func44, Try.ntmps44
        go_wp2
        go_ret
        exact ⟨ret_bool HX.out.symm, alloc_below _ _⟩
      · go_enter Try.func44, Try.ntmps44
        go_wp2
        go_ret
        exact ⟨ret_bool HX.out.symm, alloc_below _ _⟩
  · have hq := neqS_z s he
    have HX := Lib.hid (show R = false by rw [HR.out, he]; rfl)
    clear he
    go_enter Try.func44, Try.ntmps44
    go_wp2
    all_goals
      go_ret
      exact ⟨ret_bool HX.out.symm, alloc_below _ _⟩
set_option maxRecDepth 100000 in
set_option maxHeartbeats 4000000 in
theorem right_else (k : Int) (h1 : k ≠ 1) (h2 : k ≠ 2) (h3 : k ≠ 3) (h4 : k ≠ 4) (h5 : k ≠ 5) (s : Nat → Int) (lo hi : Int) (v : Value) (lv : Nat) (hlv : 0 < lv) (w : World) : Calls Try.prog 44 #[nodeV k s lo hi v, .int .i64 lv] w fun e w' => e = .returned (.bool false) ∧ Below w.heap.size w w' := by
  have hl1 : ¬ (lv : Int) < 1 := by omega
  have q1 : (k == 1) = false := by simp [h1]
  have q2 : (k == 2) = false := by simp [h2]
  have q3 : (k == 3) = false := by simp [h3]
  have q4 : (k == 4) = false := by simp [h4]
  have q5 : (k == 5) = false := by simp [h5]
  cases he : eqS s z0
  all_goals
    have hq := neqS_z s he
    clear he
    go_enter Try.func44, Try.ntmps44
    go_wp2
    all_goals
      go_ret
      exact ⟨rfl, alloc_below _ _⟩
end Go.Proofs.Ytbahadgcmaabcaa
/- Contract of the document's own right of layer 3: Cat and Alt. -/
namespace Go.Proofs.Ytbahadgcmaabcaa
open Go.RowKit
set_option maxRecDepth 100000 in
theorem anyTo_all {f g : Nat → Bool} : ∀ n, (!anyTo f n && allTo g n) = allTo (fun i => !f i && g i) n
  | 0 => rfl
  | n + 1 => by
    have h := anyTo_all (f := f) (g := g) n
    simp only [anyTo, allTo, ← h]
    cases anyTo f n <;> cases f n <;> cases allTo g n <;> cases g n <;> rfl
set_option maxRecDepth 100000 in
set_option maxHeartbeats 4000000 in
theorem right_3 (s : Nat → Int) (lo hi : Int) (a : Option Addr) (n cap : Nat) (kid : Nat → Tr) (lv : Nat) (hlv : 0 < lv) (h20 : lv ≤ 20) (w : World) (hL : Lives w w.heap.size (.node 3 s lo hi a n cap kid))
    (ih : ∀ i, i < n → ∀ w, Lives w w.heap.size (kid i) → Calls Try.prog 44 #[(kid i).val, .int .i64 ((lv - 1 : Nat) : Int)] w fun e w' => e = .returned (.bool (okT (kid i) (lv - 1))) ∧ Below w.heap.size w w') :
    Calls Try.prog 44 #[nodeV 3 s lo hi (.slice a n cap), .int .i64 lv] w fun e w' => e = .returned (.bool (plainB s lo hi && (decide (2 ≤ n) && allTo (fun i => !decide ((kid i).k = 3) && okT (kid i) (lv - 1)) n))) ∧ Below w.heap.size w w' := by
  have hl1 : ¬ (lv : Int) < 1 := by omega
  obtain ⟨R, hR⟩ : ∃ R, R = (plainB s lo hi && (decide (2 ≤ n) && allTo (fun i => !decide ((kid i).k = 3) && okT (kid i) (lv - 1)) n)) := ⟨_, rfl⟩
  rw [← hR]
  have HR := Lib.hid hR
  have HIH := Lib.hid ih
  obtain ⟨_, hcap, hm, hat, hkv⟩ := hL
  have HAT := Lib.hid hat
  have HKV := Lib.hid hkv
  unfold maxLen at hm
  clear hR ih hat hkv
  cases he : eqS s z0
  · have hq := neqS_z s he
    have HX := Lib.hid (show R = false by rw [HR.out]; simp [plainB, he])
    clear he
    go_enter Try.func44, Try.ntmps44
    go_wp2
    all_goals
      go_ret
      exact ⟨ret_bool HX.out.symm, alloc_below _ _⟩
  · have hq := neqS_z s he
    have HE := Lib.hid he
    clear he
    by_cases hp : lo = 0 ∧ hi = 0
    · obtain ⟨rfl, rfl⟩ := hp
      by_cases hn : 2 ≤ n
      · have hn1 : ¬ (n : Int) < 2 := by omega
        have HX := Lib.hid (show R = allTo (fun i => !decide ((kid i).k = 3) && okT (kid i) (lv - 1)) n by rw [HR.out]; simp [plainB, HE.out, hn])
        have HQ1 := Lib.hid (show (lv : Int) - 1 = ((lv - 1 : Nat) : Int) by omega)
        go_enter Try.func44, Try.ntmps44
        go_wp2
        go_loopw [8] (fun c wr => ∃ j : Nat, j ≤ n ∧ c = .int .i64 j ∧ Hid (allTo (fun i => !decide ((kid i).k = 3) && okT (kid i) (lv - 1)) j = true) ∧ Hid (wr.heap[w.heap.size]? = some (.cells (row8 3 s 0 0 (.slice a n cap)) 27 (0, 0))) ∧ Below w.heap.size w wr) (fun c _ => n - (intOf c).toNat)
        case atStart => exact ⟨0, by omega, rfl, Lib.hid rfl, Lib.hid (heap_alloc_new _ _), alloc_below _ _⟩
        case round =>
          obtain ⟨j, hj, rfl, HA, HK, hb⟩ := hrel
          obtain ⟨x0, x1, x2, x3, x4, x5, x6, x7⟩ := cell8 HK.out
          by_cases hlt : j < n
          · obtain ⟨g, off, rfl, hg, hc⟩ := HAT.out (by omega)
            obtain ⟨c0, c1, c2, c3, c4, c5, c6, c7⟩ := (hc j hlt).below hg hb
            have i1 : (j : Int) < (n : Int) := by omega
            clear hc x1 x2 x3 x4 x5 x6
            by_cases hk : (kid j).k = 3
            · have HA1 := Lib.hid (show R = false by rw [HX.out]; exact allTo_not (p := fun i => !decide ((kid i).k = 3) && okT (kid i) (lv - 1)) hlt (by simp [hk]))
              rw [hk] at c0
              clear hk
              go_wp2_with fail
              go_quiet (fail)
              go_wp2
              go_ret
              exact ⟨ret_bool HA1.out.symm, below_drewN hb _⟩
            · have hk1 : ((kid j).k == 3) = false := by simp [hk]
              have HKK := Lib.hid hk
              clear hk
              go_wp2_with fail
              go_still_tail 17, (by kernel_rfl)
              change wpList _ _ _ _ _ wr.drew
              have hbd : Below w.heap.size w wr.drew := hb.drew
              have HKd : Hid (wr.drew.heap[w.heap.size]? = some (.cells (row8 3 s 0 0 (.slice (some ⟨g, off, none⟩) n cap)) 27 (0, 0))) := HK.out
              generalize wr.drew = wd at *
              clear c0 c1 c2 c3 c4 c5 c6 c7 x0 x7 hb HK
              go_wp2_with fail
              rw [HQ1.out]
              refine (HIH.out j hlt wd ((HKV.out j hlt).now hbd)).mono ?_
              rintro e w2 ⟨rfl, hb2⟩
              have HB2 := Lib.hid (hbd.trans (hb2.mono hbd.size))
              have HK2 := Lib.hid ((hb2.block _ ((Array.getElem?_eq_some_iff.1 HKd.out).1)).trans HKd.out)
              clear hb2 hbd HKd
              cases hN : okT (kid j) (lv - 1)
              · have HA1 := Lib.hid (show R = false by rw [HX.out]; exact allTo_not (p := fun i => !decide ((kid i).k = 3) && okT (kid i) (lv - 1)) hlt (by simp [hN]))
                clear hN
                go_wp2
                go_ret
                exact ⟨ret_bool HA1.out.symm, HB2.out⟩
              · have HA1 := Lib.hid (show allTo (fun i => !decide ((kid i).k = 3) && okT (kid i) (lv - 1)) (j + 1) = true by rw [allTo, HA.out, hN, decide_eq_false HKK.out]; rfl)
                clear hN
                go_wp2
                go_roundw
                case rel => exact ⟨j + 1, by omega, by go_num, HA1, HK2, HB2.out⟩
                case measure => simp [intOf]; omega
          · obtain rfl : n = j := by omega
            go_wp2
            go_ret
            exact ⟨ret_bool (by rw [HX.out, HA.out]), hb⟩
      · have hn1 : (n : Int) < 2 := by omega
        have HX := Lib.hid (show R = false by rw [HR.out]; simp [hn])
        go_enter Try.func44, Try.ntmps44
        go_wp2
        go_ret
        exact ⟨ret_bool HX.out.symm, alloc_below _ _⟩
    · have HX := Lib.hid (show R = false by rw [HR.out]; simp [plainB]; intro _ h1 h2; exact absurd ⟨h1, h2⟩ hp)
      have hc : (lo == 0) = false ∨ (lo = 0 ∧ (hi == 0) = false) := by simp; omega
      clear hp
      rcases hc with hc | ⟨rfl, hc⟩
      · go_enter Try.func44, Try.ntmps44
        go_wp2
        go_ret
        exact ⟨ret_bool HX.out.symm, alloc_below _ _⟩
      · go_enter Try.func44, Try.ntmps44
        go_wp2
        go_ret
        exact ⟨ret_bool HX.out.symm, alloc_below _ _⟩
set_option maxRecDepth 100000 in
set_option maxHeartbeats 4000000 in
theorem right_4 (s : Nat → Int) (lo hi : Int) (a : Option Addr) (n cap : Nat) (kid : Nat → Tr) (lv : Nat) (hlv : 0 < lv) (h20 : lv ≤ 20) (w : World) (hL : Lives w w.heap.size (.node 4 s lo hi a n cap kid))
    (ih : ∀ i, i < n → ∀ w, Lives w w.heap.size (kid i) → Calls Try.prog 44 #[(kid i).val, .int .i64 ((lv - 1 : Nat) : Int)] w fun e w' => e = .returned (.bool (okT (kid i) (lv - 1))) ∧ Below w.heap.size w w') :
    Calls Try.prog 44 #[nodeV 4 s lo hi (.slice a n cap), .int .i64 lv] w fun e w' => e = .returned (.bool (plainB s lo hi && (decide (2 ≤ n) && allTo (fun i => !decide ((kid i).k = 4) && okT (kid i) (lv - 1)) n))) ∧ Below w.heap.size w w' := by
  have hl1 : ¬ (lv : Int) < 1 := by omega
  obtain ⟨R, hR⟩ : ∃ R, R = (plainB s lo hi && (decide (2 ≤ n) && allTo (fun i => !decide ((kid i).k = 4) && okT (kid i) (lv - 1)) n)) := ⟨_, rfl⟩
  rw [← hR]
  have HR := Lib.hid hR
  have HIH := Lib.hid ih
  obtain ⟨_, hcap, hm, hat, hkv⟩ := hL
  have HAT := Lib.hid hat
  have HKV := Lib.hid hkv
  unfold maxLen at hm
  clear hR ih hat hkv
  cases he : eqS s z0
  · have hq := neqS_z s he
    have HX := Lib.hid (show R = false by rw [HR.out]; simp [plainB, he])
    clear he
    go_enter Try.func44, Try.ntmps44
    go_wp2
    all_goals
      go_ret
      exact ⟨ret_bool HX.out.symm, alloc_below _ _⟩
  · have hq := neqS_z s he
    have HE := Lib.hid he
    clear he
    by_cases hp : lo = 0 ∧ hi = 0
    · obtain ⟨rfl, rfl⟩ := hp
      by_cases hn : 2 ≤ n
      · have hn1 : ¬ (n : Int) < 2 := by omega
        have HX := Lib.hid (show R = allTo (fun i => !decide ((kid i).k = 4) && okT (kid i) (lv - 1)) n by rw [HR.out]; simp [plainB, HE.out, hn])
        have HQ1 := Lib.hid (show (lv : Int) - 1 = ((lv - 1 : Nat) : Int) by omega)
        go_enter Try.func44, Try.ntmps44
        go_wp2
        go_loopw [8] (fun c wr => ∃ j : Nat, j ≤ n ∧ c = .int .i64 j ∧ Hid (allTo (fun i => !decide ((kid i).k = 4) && okT (kid i) (lv - 1)) j = true) ∧ Hid (wr.heap[w.heap.size]? = some (.cells (row8 4 s 0 0 (.slice a n cap)) 27 (0, 0))) ∧ Below w.heap.size w wr) (fun c _ => n - (intOf c).toNat)
        case atStart => exact ⟨0, by omega, rfl, Lib.hid rfl, Lib.hid (heap_alloc_new _ _), alloc_below _ _⟩
        case round =>
          obtain ⟨j, hj, rfl, HA, HK, hb⟩ := hrel
          obtain ⟨x0, x1, x2, x3, x4, x5, x6, x7⟩ := cell8 HK.out
          by_cases hlt : j < n
          · obtain ⟨g, off, rfl, hg, hc⟩ := HAT.out (by omega)
            obtain ⟨c0, c1, c2, c3, c4, c5, c6, c7⟩ := (hc j hlt).below hg hb
            have i1 : (j : Int) < (n : Int) := by omega
            clear hc x1 x2 x3 x4 x5 x6
            by_cases hk : (kid j).k = 4
            · have HA1 := Lib.hid (show R = false by rw [HX.out]; exact allTo_not (p := fun i => !decide ((kid i).k = 4) && okT (kid i) (lv - 1)) hlt (by simp [hk]))
              rw [hk] at c0
              clear hk
              go_wp2_with fail
              go_quiet (fail)
              go_wp2
              go_ret
              exact ⟨ret_bool HA1.out.symm, below_drewN hb _⟩
            · have hk1 : ((kid j).k == 4) = false := by simp [hk]
              have HKK := Lib.hid hk
              clear hk
              go_wp2_with fail
              go_still_tail 17, (by kernel_rfl)
              change wpList _ _ _ _ _ wr.drew
              have hbd : Below w.heap.size w wr.drew := hb.drew
              have HKd : Hid (wr.drew.heap[w.heap.size]? = some (.cells (row8 4 s 0 0 (.slice (some ⟨g, off, none⟩) n cap)) 27 (0, 0))) := HK.out
              generalize wr.drew = wd at *
              clear c0 c1 c2 c3 c4 c5 c6 c7 x0 x7 hb HK
              go_wp2_with fail
              rw [HQ1.out]
              refine (HIH.out j hlt wd ((HKV.out j hlt).now hbd)).mono ?_
              rintro e w2 ⟨rfl, hb2⟩
              have HB2 := Lib.hid (hbd.trans (hb2.mono hbd.size))
              have HK2 := Lib.hid ((hb2.block _ ((Array.getElem?_eq_some_iff.1 HKd.out).1)).trans HKd.out)
              clear hb2 hbd HKd
              cases hN : okT (kid j) (lv - 1)
              · have HA1 := Lib.hid (show R = false by rw [HX.out]; exact allTo_not (p := fun i => !decide ((kid i).k = 4) && okT (kid i) (lv - 1)) hlt (by simp [hN]))
                clear hN
                go_wp2
                go_ret
                exact ⟨ret_bool HA1.out.symm, HB2.out⟩
              · have HA1 := Lib.hid (show allTo (fun i => !decide ((kid i).k = 4) && okT (kid i) (lv - 1)) (j + 1) = true by rw [allTo, HA.out, hN, decide_eq_false HKK.out]; rfl)
                clear hN
                go_wp2
                go_roundw
                case rel => exact ⟨j + 1, by omega, by go_num, HA1, HK2, HB2.out⟩
                case measure => simp [intOf]; omega
          · obtain rfl : n = j := by omega
            go_wp2
            go_ret
            exact ⟨ret_bool (by rw [HX.out, HA.out]), hb⟩
      · have hn1 : (n : Int) < 2 := by omega
        have HX := Lib.hid (show R = false by rw [HR.out]; simp [hn])
        go_enter Try.func44, Try.ntmps44
        go_wp2
        go_ret
        exact ⟨ret_bool HX.out.symm, alloc_below _ _⟩
    · have HX := Lib.hid (show R = false by rw [HR.out]; simp [plainB]; intro _ h1 h2; exact absurd ⟨h1, h2⟩ hp)
      have hc : (lo == 0) = false ∨ (lo = 0 ∧ (hi == 0) = false) := by simp; omega
      clear hp
      rcases hc with hc | ⟨rfl, hc⟩
      · go_enter Try.func44, Try.ntmps44
        go_wp2
        go_ret
        exact ⟨ret_bool HX.out.symm, alloc_below _ _⟩
      · go_enter Try.func44, Try.ntmps44
        go_wp2
        go_ret
        exact ⟨ret_bool HX.out.symm, alloc_below _ _⟩
end Go.Proofs.Ytbahadgcmaabcaa
