/- The document's of: cases. -/
import Derived.Test.YtbahadgcmaabcaaJv
namespace Go.Proofs.Ytbahadgcmaabcaa
open Go.RowKit Go
set_option maxRecDepth 100000 in
set_option maxHeartbeats 4000000 in
theorem of_4 (s : Nat → Int) (lo hi : Int) (a : Option Addr) (n cap : Nat) (kid : Nat → Tr) (w : World) (hn0 : 0 < n) (hL : Lives w w.heap.size (.node 4 s lo hi a n cap kid)) (ih : ∀ i, i < n → ∀ W, Lives W W.heap.size (kid i) → Calls Try.prog 30 #[(kid i).val] W (PlE W (plT (kid i)))) (hn : (Pl.altTo (fun i => plT (kid i)) n).n ≤ 900) : Calls Try.prog 30 #[nodeV 4 s lo hi (.slice a n cap)] w (PlE w (Pl.altTo (fun i => plT (kid i)) n)) := by
  have HIH := Lib.hid ih
  have HN := Lib.hid hn
  obtain ⟨_, hcap, hm, hat, hlv⟩ := hL
  have HAT := Lib.hid hat
  have HLV := Lib.hid hlv
  unfold maxLen at hm
  obtain ⟨g, off, rfl, hg, hc⟩ := hat hn0
  have hc0 : At8 w g off (kid 0) := by simpa using hc 0 hn0
  have HC0 := Lib.hid (hc0.below hg (alloc2_below w (.cells (row8 4 s lo hi (.slice (some ⟨g, off, none⟩) n cap)) 27) (.cells pl0 40)))
  obtain ⟨c0, c1, c2, c3, c4, c5, c6, c7⟩ := HC0.out
  have HS0 := Lib.hid (OfS.start w (row8 4 s lo hi (.slice (some ⟨g, off, none⟩) n cap)))
  have hn0' : (0 : Int) < (n : Int) := by omega
  obtain ⟨K0, hK0⟩ : ∃ x, x = plT (kid 0) := ⟨_, rfl⟩
  have HK0 := Lib.hid hK0
  have HI0 : Hid (∀ W, Lives W W.heap.size (kid 0) → Calls Try.prog 30 #[(kid 0).val] W (PlE W K0)) := Lib.hid (by rw [hK0]; exact HIH.out 0 hn0)
  clear hat hlv ih hn hc hc0 hK0
  go_enter Try.func30, Try.ntmps30
  go_wp2_with fail
  refine (HI0.out _ ((HLV.out 0 hn0).now (alloc2_below _ _ _))).mono ?_
  rintro e w2 ⟨v, rfl, hP, hb⟩
  obtain ⟨a1, c1x, a2, n2, c2x, a3, n3, c3x, a4, c4x, rfl⟩ := hP.forms
  have HO := Lib.hid ((HS0.out.below hb).below (alloc_below w2 (.cells (pl5 (.slice a1 K0.n c1x) (.slice a2 n2 c2x) (.slice a3 n3 c3x) (.slice a4 K0.n c4x) K0.nu) 40)))
  have HB := Lib.hid (PBx.new hP)
  have HLO := Lib.hid (show w.heap.size + 2 ≤ w2.heap.size by have := hb.size; simpa using this)
  clear hP c0 c1 c2 c3 c4 c5 c6 c7 HC0
  go_upto_region 13 with fail
  obtain ⟨q, hq⟩ : ∃ q, q = w2.heap.size := ⟨_, rfl⟩
  obtain ⟨w5, hw5⟩ : ∃ x, x = w2.alloc (.cells (pl5 (.slice a1 K0.n c1x) (.slice a2 n2 c2x) (.slice a3 n3 c3x) (.slice a4 K0.n c4x) K0.nu) 40) := ⟨_, rfl⟩
  rw [← hw5, ← hq] at HB
  rw [← hw5] at HO
  rw [← hq] at HLO
  rw [← hw5, ← hq]
  clear hq hw5 hb
  have HB1 : Hid (PBx w5 q (Pl.altTo (fun i => plT (kid i)) 1)) := Lib.hid (by rw [show Pl.altTo (fun i => plT (kid i)) 1 = K0 from (Pl.nil_alt _).trans HK0.out.symm]; exact HB.out)
  clear HB
  obtain ⟨a, ha⟩ : ∃ a : Option Addr, a = some ⟨g, off, none⟩ := ⟨_, rfl⟩
  rw [← ha] at HO HAT ⊢
  clear ha hg HS0
  go_upto_region 14 with fail
  go_wp2_with fail
  go_loopw [6] (fun c wr => ∃ j : Nat, 1 ≤ j ∧ j ≤ n ∧ c = .int .i64 j ∧ Hid (OfS w (row8 4 s lo hi (.slice a n cap)) wr) ∧ Hid (PBx wr q (Pl.altTo (fun i => plT (kid i)) j))) (fun c _ => n - (intOf c).toNat)
  case atStart => exact ⟨1, Nat.le_refl _, hn0, rfl, HO, HB1⟩
  case round =>
    obtain ⟨j, hj1, hj, rfl, HS, HB⟩ := hrel
    obtain ⟨P, hP⟩ : ∃ P, P = Pl.altTo (fun i => plT (kid i)) j := ⟨_, rfl⟩
    rw [← hP] at HB
    have HP := Lib.hid hP
    clear hP
    obtain ⟨a1, c1, a2, n2, c2, a3, n3, c3, a4, c4, hq, hPv⟩ := HB.out
    have HQ := Lib.hid hq
    have HPV := Lib.hid hPv
    obtain ⟨x0, x1, x2, x3, x4, x5, x6, x7⟩ := cell8 HS.out.bx
    obtain ⟨p0, p1, p2, p3, p4⟩ := cell5 hq
    clear hq hPv x0 x1 x2 x3 x4 x5 x6
    by_cases hlt : j < n
    · obtain ⟨g, off, rfl, hg, hc⟩ := HAT.out (by omega)
      have hlt' : (j : Int) < (n : Int) := by omega
      obtain ⟨KP, hKP⟩ : ∃ x, x = plT (kid j) := ⟨_, rfl⟩
      have HPJ := Lib.hid (show Pl.altTo (fun i => plT (kid i)) (j + 1) = P.alt KP by rw [HP.out, hKP]; rfl)
      have HN9 := Lib.hid (show P.n + KP.n ≤ 900 by have := altTo_le (f := fun i => plT (kid i)) (show j + 1 ≤ n by omega); rw [HPJ.out] at this; exact Nat.le_trans this HN.out)
      have HC := Lib.hid (hc j hlt)
      have HG := Lib.hid hg
      have HX7 := Lib.hid x7
      have HKP : Hid (∀ W, Below wr.heap.size wr W → W.cell? ⟨w.heap.size, 7, none⟩ = some (.slice (some ⟨g, off, none⟩) n cap) ∧ W.cell? ⟨g, off + j * 8, none⟩ = some (.int .i64 (kid j).k) ∧ W.cell? ⟨g, off + j * 8 + 1, none⟩ = some (.int .u64 ((kid j).s 0)) ∧ W.cell? ⟨g, off + j * 8 + 2, none⟩ = some (.int .u64 ((kid j).s 1)) ∧ W.cell? ⟨g, off + j * 8 + 3, none⟩ = some (.int .u64 ((kid j).s 2)) ∧ W.cell? ⟨g, off + j * 8 + 4, none⟩ = some (.int .u64 ((kid j).s 3)) ∧ W.cell? ⟨g, off + j * 8 + 5, none⟩ = some (.int .i64 (kid j).lo) ∧ W.cell? ⟨g, off + j * 8 + 6, none⟩ = some (.int .i64 (kid j).hi) ∧ W.cell? ⟨g, off + j * 8 + 7, none⟩ = some (.slice (kid j).a (kid j).n (kid j).cap)) := Lib.hid fun W h => ⟨(h.cell (p := ⟨w.heap.size, 7, none⟩) (lt_heap HS.out.bx)).trans HX7.out, (HC.out.below HG.out HS.out.bel).below (Nat.lt_of_lt_of_le HG.out HS.out.bel.size) h⟩
      have HKS : Hid (∀ W, Below wr.heap.size wr W → ∀ y1 y2 y3 y4 y5 : Value, (put5 W q y1 y2 y3 y4 y5).cell? ⟨w.heap.size, 7, none⟩ = some (.slice (some ⟨g, off, none⟩) n cap) ∧ (put5 W q y1 y2 y3 y4 y5).cell? ⟨g, off + j * 8, none⟩ = some (.int .i64 (kid j).k) ∧ (put5 W q y1 y2 y3 y4 y5).cell? ⟨g, off + j * 8 + 1, none⟩ = some (.int .u64 ((kid j).s 0)) ∧ (put5 W q y1 y2 y3 y4 y5).cell? ⟨g, off + j * 8 + 2, none⟩ = some (.int .u64 ((kid j).s 1)) ∧ (put5 W q y1 y2 y3 y4 y5).cell? ⟨g, off + j * 8 + 3, none⟩ = some (.int .u64 ((kid j).s 2)) ∧ (put5 W q y1 y2 y3 y4 y5).cell? ⟨g, off + j * 8 + 4, none⟩ = some (.int .u64 ((kid j).s 3)) ∧ (put5 W q y1 y2 y3 y4 y5).cell? ⟨g, off + j * 8 + 5, none⟩ = some (.int .i64 (kid j).lo) ∧ (put5 W q y1 y2 y3 y4 y5).cell? ⟨g, off + j * 8 + 6, none⟩ = some (.int .i64 (kid j).hi) ∧ (put5 W q y1 y2 y3 y4 y5).cell? ⟨g, off + j * 8 + 7, none⟩ = some (.slice (kid j).a (kid j).n (kid j).cap)) := Lib.hid fun W h y1 y2 y3 y4 y5 => by
        have hB : Below (w.heap.size + 1) wr (put5 W q y1 y2 y3 y4 y5) := put5_below (h.mono (lt_heap HS.out.bx)) (by have := HLO.out; omega) _ _ _ _ _
        exact ⟨(hB.cell (p := ⟨w.heap.size, 7, none⟩) (Nat.lt_succ_self _)).trans HX7.out, (HC.out.below HG.out HS.out.bel).below (Nat.lt_succ_of_lt HG.out) hB⟩
      have HB0 : Below wr.heap.size wr wr.drew := (Below.refl _ _).drew
      have HIK : Hid (∀ W, Lives W W.heap.size (kid j) → Calls Try.prog 30 #[(kid j).val] W (PlE W KP)) := Lib.hid (by rw [hKP]; exact HIH.out j hlt)
      obtain ⟨c0, c1', c2', c3', c4', c5, c6, c7⟩ := HKP.out wr (Below.refl _ _) |>.2
      clear hc hg hKP
      go_wp2_with fail
      refine wp_region_held_drew (S := fun w' => w'.cell? ⟨w.heap.size, 7, none⟩ = some (.slice (some ⟨g, off, none⟩) n cap) ∧ w'.cell? ⟨g, off + j * 8, none⟩ = some (.int .i64 (kid j).k) ∧ w'.cell? ⟨g, off + j * 8 + 1, none⟩ = some (.int .u64 ((kid j).s 0)) ∧ w'.cell? ⟨g, off + j * 8 + 2, none⟩ = some (.int .u64 ((kid j).s 1)) ∧ w'.cell? ⟨g, off + j * 8 + 3, none⟩ = some (.int .u64 ((kid j).s 2)) ∧ w'.cell? ⟨g, off + j * 8 + 4, none⟩ = some (.int .u64 ((kid j).s 3)) ∧ w'.cell? ⟨g, off + j * 8 + 5, none⟩ = some (.int .i64 (kid j).lo) ∧ w'.cell? ⟨g, off + j * 8 + 6, none⟩ = some (.int .i64 (kid j).hi) ∧ w'.cell? ⟨g, off + j * 8 + 7, none⟩ = some (.slice (kid j).a (kid j).n (kid j).cap)) (by kernel_rfl) ?_ (fun hHeld => ?_)
      · exact HKP.out _ HB0
      refine wpAnyH_take (i := 1) (oi := { dst := some 58, op := Op.fieldAddr 27 (Operand.tmp 1) 4, type := 0, pos := "ref.go:114", after := #[], guard := none }) (v := ?_) rfl (by kernel_rfl) (by kernel_rfl) (by kernel_rfl) (fun _ _ _ h => h) (Or.inl ⟨by rfl, ?_⟩) (by assumption) ?_
      rotate_left
      · (intro w hSw; (try dsimp only at hSw); go_simp; try with_reducible rfl)
      try simp only [Act.put, List.setIfInBounds_toArray, List.set_cons_zero, List.set_cons_succ]
      refine wpAnyH_take (i := 2) (oi := { dst := some 59, op := Op.load 25 (Operand.tmp 58), type := 25, pos := "ref.go:114", after := #[{ on := 1, ground := Ground.data }], guard := none }) (v := ?_) rfl (by kernel_rfl) (by kernel_rfl) (by kernel_rfl) (fun _ _ _ h => h) (Or.inl ⟨by rfl, ?_⟩) (by assumption) ?_
      rotate_left
      · (intro w hSw; (try dsimp only at hSw); go_simp; try with_reducible rfl)
      try simp only [Act.put, List.setIfInBounds_toArray, List.set_cons_zero, List.set_cons_succ]
      refine wpAnyH_take (i := 3) (oi := { dst := some 60, op := Op.move (Operand.tmp 6), type := 3, pos := "ref.go:114", after := #[], guard := none }) (v := ?_) rfl (by kernel_rfl) (by kernel_rfl) (by kernel_rfl) (fun _ _ _ h => h) (Or.inl ⟨by rfl, ?_⟩) (by assumption) ?_
      rotate_left
      · (intro w hSw; (try dsimp only at hSw); go_simp; try with_reducible rfl)
      try simp only [Act.put, List.setIfInBounds_toArray, List.set_cons_zero, List.set_cons_succ]
      refine wpAnyH_take (i := 4) (oi := { dst := some 61, op := Op.indexAddr 25 (Operand.tmp 59) (Operand.tmp 60), type := 0, pos := "ref.go:114", after := #[{ on := 2, ground := Ground.data }, { on := 3, ground := Ground.data }], guard := none }) (v := ?_) rfl (by kernel_rfl) (by kernel_rfl) (by kernel_rfl) (fun _ _ _ h => h) (Or.inl ⟨by rfl, ?_⟩) (by assumption) ?_
      rotate_left
      · (intro w hSw; (try dsimp only at hSw); go_simp; try with_reducible rfl)
      try simp only [Act.put, List.setIfInBounds_toArray, List.set_cons_zero, List.set_cons_succ]
      refine wpAnyH_take (i := 5) (oi := { dst := some 62, op := Op.load 27 (Operand.tmp 61), type := 27, pos := "ref.go:114", after := #[{ on := 4, ground := Ground.data }], guard := none }) (v := ?_) rfl (by kernel_rfl) (by kernel_rfl) (by kernel_rfl) (fun _ _ _ h => h) (Or.inl ⟨by rfl, ?_⟩) (by assumption) ?_
      rotate_left
      · (intro w hSw; (try dsimp only at hSw); go_simp; try with_reducible rfl)
      try simp only [Act.put, List.setIfInBounds_toArray, List.set_cons_zero, List.set_cons_succ]
      refine wpAnyH_ready (rs := [0, 6]) (by kernel_rfl) (by simp) ?_
      refine AllReadyH.cons (o := { dst := some 57, op := Op.load 40 (Operand.tmp 5), type := 40, pos := "ref.go:114", after := #[], guard := none }) rfl (fun K hK => ?_) (AllReadyH.cons (o := { dst := some 63, op := Op.call { callee := Callee.value (Operand.func 30), args := #[Operand.tmp 62], argTypes := #[27] }, type := 40, pos := "ref.go:114", after := #[{ on := 5, ground := Ground.data }], guard := none }) rfl (fun K hK => ?_) AllReadyH.nil)
      · go_simp
        refine hK.out _ _ ?_ (fun hHeld => ?_)
        · exact HKP.out _ HB0
        clear hK K
        try simp only [Act.put, List.setIfInBounds_toArray, List.set_cons_zero, List.set_cons_succ]
        refine wpAnyH_ready (rs := [6]) (by kernel_rfl) (by simp) ?_
        refine AllReadyH.cons (o := { dst := some 63, op := Op.call { callee := Callee.value (Operand.func 30), args := #[Operand.tmp 62], argTypes := #[27] }, type := 40, pos := "ref.go:114", after := #[{ on := 5, ground := Ground.data }], guard := none }) rfl (fun K hK => ?_) AllReadyH.nil
        go_simp
        refine (HIK.out wr.drew ((HLV.out j hlt).now HS.out.bel.drew)).mono ?_
        rintro e w6 ⟨v6, rfl, hP6, hb6⟩
        obtain ⟨b1, d1, b2, m2, d2, b3, m3, d3, b4, d4, rfl⟩ := hP6.forms
        have HB6 : Below wr.heap.size wr w6 := undrew hb6
        have HP6 := Lib.hid hP6
        clear hP6 hb6
        go_wp2_with fail
        refine hK.out _ _ ?_ (fun hHeld => ?_)
        · exact HKP.out _ HB6
        clear hK K
        try simp only [Act.put, List.setIfInBounds_toArray, List.set_cons_zero, List.set_cons_succ]
        refine wpAnyH_ready (rs := [7]) (by kernel_rfl) (by simp) ?_
        refine AllReadyH.cons (o := { dst := some 64, op := Op.call { callee := Callee.value (Operand.func 47), args := #[Operand.tmp 57, Operand.tmp 63], argTypes := #[40, 40] }, type := 40, pos := "ref.go:114", after := #[{ on := 0, ground := Ground.data }, { on := 6, ground := Ground.data }, { on := 6, ground := Ground.chain }], guard := none }) rfl (fun K hK => ?_) AllReadyH.nil
        go_simp
        refine (alt_any9 P KP _ _ w6 (HPV.out.below HB6) HP6.out HN9.out).mono ?_
        rintro e w7 ⟨v7, rfl, hP7, hb7⟩
        obtain ⟨e1, f1, e2, k2, f2, e3, k3, f3, e4, f4, rfl⟩ := hP7.forms
        have HB7 : Below wr.heap.size wr w7 := HB6.trans (hb7.mono HB6.size)
        have hq7 := (HB7.block _ (lt_heap HQ.out)).trans HQ.out
        have HN1 := Lib.hid (PBx.set hq7 hP7)
        have HN2 := Lib.hid ((HS.out.below HB7).put HLO.out (.slice e1 (P.alt KP).n f1) (.slice e2 k2 f2) (.slice e3 k3 f3) (.slice e4 (P.alt KP).n f4) (.bool (P.alt KP).nu))
        have g0 := frozen4 hq7 0
        have g1 := frozen4 hq7 1
        have g2 := frozen4 hq7 2
        have g3 := frozen4 hq7 3
        have g4 := frozen4 hq7 4
        obtain ⟨r0, r1, r2, r3, r4⟩ := cell5 hq7
        clear hP7 hb7 hq7
        go_wp2_with fail
        refine hK.out _ _ ?_ (fun hHeld => ?_)
        · exact HKP.out _ HB7
        clear hK K
        try simp only [Act.put, List.setIfInBounds_toArray, List.set_cons_zero, List.set_cons_succ]
        refine wpAnyH_ready (rs := [8]) (by kernel_rfl) (by simp) ?_
        refine AllReadyH.cons (o := { dst := none, op := Op.store 40 (Operand.tmp 5) (Operand.tmp 64), type := 0, pos := "ref.go:114", after := #[{ on := 7, ground := Ground.data }, { on := 7, ground := Ground.chain }, { on := 0, ground := Ground.phase }, { on := 1, ground := Ground.phase }, { on := 2, ground := Ground.phase }, { on := 3, ground := Ground.phase }, { on := 4, ground := Ground.phase }, { on := 5, ground := Ground.phase }, { on := 6, ground := Ground.phase }, { on := 7, ground := Ground.phase }], guard := none }) rfl (fun K hK => ?_) AllReadyH.nil
        go_simp
        refine hK.out _ _ ?_ (fun hHeld => ?_)
        · exact HKS.out _ HB7 _ _ _ _ _
        clear hK K
        try simp only [Act.put, List.setIfInBounds_toArray, List.set_cons_zero, List.set_cons_succ]
        refine wpAnyH_done (by kernel_rfl) ?_ _
        go_wp2
        go_roundw
        case rel => exact ⟨j + 1, Nat.le_add_left _ _, hlt, by go_num, HN2, by rw [HPJ.out]; exact HN1⟩
        case measure => simp [intOf]; omega
      · go_simp
        refine (HIK.out wr.drew ((HLV.out j hlt).now HS.out.bel.drew)).mono ?_
        rintro e w6 ⟨v6, rfl, hP6, hb6⟩
        obtain ⟨b1, d1, b2, m2, d2, b3, m3, d3, b4, d4, rfl⟩ := hP6.forms
        have HB6 : Below wr.heap.size wr w6 := undrew hb6
        have HP6 := Lib.hid hP6
        clear hP6 hb6
        have hq6 := (HB6.block _ (lt_heap HQ.out)).trans HQ.out
        obtain ⟨q0, q1, q2, q3, q4⟩ := cell5 hq6
        clear hq6
        go_wp2_with fail
        refine hK.out _ _ ?_ (fun hHeld => ?_)
        · exact HKP.out _ HB6
        clear hK K
        try simp only [Act.put, List.setIfInBounds_toArray, List.set_cons_zero, List.set_cons_succ]
        refine wpAnyH_ready (rs := [0]) (by kernel_rfl) (by simp) ?_
        refine AllReadyH.cons (o := { dst := some 57, op := Op.load 40 (Operand.tmp 5), type := 40, pos := "ref.go:114", after := #[], guard := none }) rfl (fun K hK => ?_) AllReadyH.nil
        go_simp
        refine hK.out _ _ ?_ (fun hHeld => ?_)
        · exact HKP.out _ HB6
        clear hK K
        try simp only [Act.put, List.setIfInBounds_toArray, List.set_cons_zero, List.set_cons_succ]
        refine wpAnyH_ready (rs := [7]) (by kernel_rfl) (by simp) ?_
        refine AllReadyH.cons (o := { dst := some 64, op := Op.call { callee := Callee.value (Operand.func 47), args := #[Operand.tmp 57, Operand.tmp 63], argTypes := #[40, 40] }, type := 40, pos := "ref.go:114", after := #[{ on := 0, ground := Ground.data }, { on := 6, ground := Ground.data }, { on := 6, ground := Ground.chain }], guard := none }) rfl (fun K hK => ?_) AllReadyH.nil
        go_simp
        refine (alt_any9 P KP _ _ w6 (HPV.out.below HB6) HP6.out HN9.out).mono ?_
        rintro e w7 ⟨v7, rfl, hP7, hb7⟩
        obtain ⟨e1, f1, e2, k2, f2, e3, k3, f3, e4, f4, rfl⟩ := hP7.forms
        have HB7 : Below wr.heap.size wr w7 := HB6.trans (hb7.mono HB6.size)
        have hq7 := (HB7.block _ (lt_heap HQ.out)).trans HQ.out
        have HN1 := Lib.hid (PBx.set hq7 hP7)
        have HN2 := Lib.hid ((HS.out.below HB7).put HLO.out (.slice e1 (P.alt KP).n f1) (.slice e2 k2 f2) (.slice e3 k3 f3) (.slice e4 (P.alt KP).n f4) (.bool (P.alt KP).nu))
        have g0 := frozen4 hq7 0
        have g1 := frozen4 hq7 1
        have g2 := frozen4 hq7 2
        have g3 := frozen4 hq7 3
        have g4 := frozen4 hq7 4
        obtain ⟨r0, r1, r2, r3, r4⟩ := cell5 hq7
        clear hP7 hb7 hq7
        go_wp2_with fail
        refine hK.out _ _ ?_ (fun hHeld => ?_)
        · exact HKP.out _ HB7
        clear hK K
        try simp only [Act.put, List.setIfInBounds_toArray, List.set_cons_zero, List.set_cons_succ]
        refine wpAnyH_ready (rs := [8]) (by kernel_rfl) (by simp) ?_
        refine AllReadyH.cons (o := { dst := none, op := Op.store 40 (Operand.tmp 5) (Operand.tmp 64), type := 0, pos := "ref.go:114", after := #[{ on := 7, ground := Ground.data }, { on := 7, ground := Ground.chain }, { on := 0, ground := Ground.phase }, { on := 1, ground := Ground.phase }, { on := 2, ground := Ground.phase }, { on := 3, ground := Ground.phase }, { on := 4, ground := Ground.phase }, { on := 5, ground := Ground.phase }, { on := 6, ground := Ground.phase }, { on := 7, ground := Ground.phase }], guard := none }) rfl (fun K hK => ?_) AllReadyH.nil
        go_simp
        refine hK.out _ _ ?_ (fun hHeld => ?_)
        · exact HKS.out _ HB7 _ _ _ _ _
        clear hK K
        try simp only [Act.put, List.setIfInBounds_toArray, List.set_cons_zero, List.set_cons_succ]
        refine wpAnyH_done (by kernel_rfl) ?_ _
        go_wp2
        go_roundw
        case rel => exact ⟨j + 1, Nat.le_add_left _ _, hlt, by go_num, HN2, by rw [HPJ.out]; exact HN1⟩
        case measure => simp [intOf]; omega
    · obtain rfl : n = j := by omega
      have HF := Lib.hid (HS.out.fin HPV.out)
      have hbr := HS.out.br
      obtain ⟨l0, l1, l2, l3, l4⟩ := cell5 hbr
      have m0 := frozen4 hbr 0
      have m1 := frozen4 hbr 1
      have m2 := frozen4 hbr 2
      have m3 := frozen4 hbr 3
      have m4 := frozen4 hbr 4
      clear hbr
      go_wp2
      exact bodyPost_ret (ret5c Try.results30 rfl HF.out.1) rfl (HF.out.2.cast HP.out)
end Go.Proofs.Ytbahadgcmaabcaa
