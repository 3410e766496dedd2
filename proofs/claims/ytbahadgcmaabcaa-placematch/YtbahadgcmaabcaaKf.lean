/- The builder's addOptions. -/
import Derived.Test.YtbahadgcmaabcaaKe
namespace Go.Proofs.Ytbahadgcmaabcaa
open Go.RowKit Go
theorem AcS.grow {B : Nat} {w : World} {p : Nat} {G : Gs} {r : Nat} {W W' : World} (h : AcS B w p G r W) {q : Nat} {cs : Array Value} (hg : W.grownBy W' (some q)) (hq : W.heap[q]? = some (.cells cs 58 (0, 0))) (hl : w.heap.size ≤ q) (hne : r ≠ q) : AcS B w p G r W' :=
  ⟨(hg.block r (lt_heap h.br) fun e => hne (Option.some.inj e)).trans h.br, h.lo, h.kt.grow hg hl, h.bl.kept hg fun k hk => by cases hk; exact ⟨_, _, hq, by decide, by decide, by decide, by decide⟩⟩
set_option maxRecDepth 100000 in
set_option maxHeartbeats 8000000 in
theorem addOptions_any (B p : Nat) (t : Tr) (hadd : AddC B p t) : ∀ (N : Nat) (G : Gs) (w : World), N ≤ 20 → Bl B w p G → B ≤ w.heap.size → Lives w B t → G.n + ((plT t).opts N).n ≤ 1000 → Calls Try.prog 58 #[.pointer (some ⟨p, 0, none⟩), t.val, .int .i64 (N : Int)] w (AddE B w p G ((plT t).opts N)) := by
  intro N
  induction N with
  | zero =>
    intro G w _ hbl hB hL hn
    have hb0 := alloc2_below w (.cells (row8 t.k t.s t.lo t.hi (.slice t.a t.n t.cap)) 27) (.cells #[.slice none 0 0, .slice none 0 0, .bool true] 58)
    have HF : Hid (AddE B w p G (Pl.nil true) (.returned (.agg #[.slice none 0 0, .slice none 0 0, .bool true])) ((w.alloc (.cells (row8 t.k t.s t.lo t.hi (.slice t.a t.n t.cap)) 27)).alloc (.cells #[.slice none 0 0, .slice none 0 0, .bool true] 58))) := Lib.hid ⟨_, rfl, pt_nil _ G.n true, by rw [Gs.add_nil hbl.1]; exact hbl.below hb0, KT.of hb0⟩
    have HH := Lib.hid (heap2 w (.cells (row8 t.k t.s t.lo t.hi (.slice t.a t.n t.cap)) 27) (.cells #[.slice none 0 0, .slice none 0 0, .bool true] 58)).2
    clear hbl hB hL hn hadd hb0
    show Calls Try.prog 58 #[.pointer (some ⟨p, 0, none⟩), nodeV t.k t.s t.lo t.hi (.slice t.a t.n t.cap), .int .i64 0] w _
    go_enter Try.func58, Try.ntmps58
    go_wp2
    exact bodyPost_ret (ret3c Try.results58 rfl HH.out) rfl HF.out
  | succ N ih =>
    intro G w hN20 hbl hB hL hn
    have HS0 := Lib.hid (AcS.start2 hbl (.cells (row8 t.k t.s t.lo t.hi (.slice t.a t.n t.cap)) 27))
    have hb2 := alloc2_below w (.cells (row8 t.k t.s t.lo t.hi (.slice t.a t.n t.cap)) 27) (.cells part0 58)
    have hn1 : G.n + (plT t).n + ((plT t).opts N).n ≤ 1000 := by rw [opts_n] at hn ⊢; rw [Nat.succ_mul] at hn; omega
    have HAD := Lib.hid (hadd ((w.alloc (.cells (row8 t.k t.s t.lo t.hi (.slice t.a t.n t.cap)) 27)).alloc (.cells part0 58)) G (hbl.below hb2) (Nat.le_trans hB hb2.size) (hL.below (hb2.mono hB)) (by omega))
    have HPO := Lib.hid (plT_ok t)
    have HOO := Lib.hid ((plT_ok t).opts N)
    have HN := Lib.hid hn1
    have HB := Lib.hid hB
    have HL := Lib.hid hL
    have HIH := Lib.hid ih
    obtain ⟨C, hC⟩ : ∃ C, C = plT t := ⟨_, rfl⟩
    have HOP := Lib.hid (show (plT t).opts (N + 1) = (C.cat (C.opts N)).may by rw [hC]; rfl)
    rw [HOP.out]
    rw [← hC] at HAD HPO HN HOO HIH
    obtain ⟨O, hO⟩ : ∃ O, O = C.opts N := ⟨_, rfl⟩
    rw [← hO] at HN HOO HIH ⊢
    obtain ⟨x0, x1, x2, x3, x4, x5, x6, x7⟩ := cell8 (heap2 w (.cells (row8 t.k t.s t.lo t.hi (.slice t.a t.n t.cap)) 27) (.cells part0 58)).1
    have HX0 := Lib.hid (heap2 w (.cells (row8 t.k t.s t.lo t.hi (.slice t.a t.n t.cap)) 27) (.cells part0 58)).1
    have hNz : ¬ ((N : Int) + 1 = 0) := by omega
    have HNN : Hid (N ≤ 20) := Lib.hid (by omega)
    have HWR : Hid (IntKind.i64.wrap (N : Int) = (N : Int)) := Lib.hid (IntWalk.i64_in _ (by omega))
    have hNb : (N : Int) ≤ 20 := by omega
    have hNk : N < 900 := by omega
    have hN0 : (0 : Int) ≤ (N : Int) := by omega
    clear hadd hbl hB hL hn hb2 hC hn1 ih hO hN20 HOP
    show Calls Try.prog 58 #[.pointer (some ⟨p, 0, none⟩), nodeV t.k t.s t.lo t.hi (.slice t.a t.n t.cap), .int .i64 ((N + 1 : Nat) : Int)] w _
    rw [show ((N + 1 : Nat) : Int) = (N : Int) + 1 by omega]
    go_enter Try.func58, Try.ntmps58
    go_wp2_with fail
    refine HAD.out.mono ?_
    rintro e w3 ⟨v, rfl, hP, hG, hk⟩
    have HS3 := Lib.hid (HS0.out.go hk hG)
    have hx3 := hk.heap HX0.out (by decide) (by decide) (by decide)
    obtain ⟨a1, n1, c1, a2, n2, c2, rfl⟩ := hP.forms
    have hb4 := alloc_below w3 (.cells #[.slice a1 n1 c1, .slice a2 n2 c2, .bool C.nu] 58)
    have HS4 := Lib.hid (HS3.out.below hb4)
    have HX4 := Lib.hid ((hb4.block _ (lt_heap hx3)).trans hx3)
    have HQ4 := Lib.hid (heap_alloc_new w3 (.cells #[.slice a1 n1 c1, .slice a2 n2 c2, .bool C.nu] 58))
    have HPV := Lib.hid (hP.below hb4)
    have HLQ := Lib.hid (show w.heap.size + 2 ≤ w3.heap.size by have := hk.size; simpa using this)
    clear hb4 hk hG hP HS3 x0 x1 x2 x3 x4 x5 x6 x7 hx3 HX0 HS0
    go_upto_region 4 with fail
    obtain ⟨w4, hw⟩ : ∃ x, x = w3.alloc (.cells #[.slice a1 n1 c1, .slice a2 n2 c2, .bool C.nu] 58) := ⟨_, rfl⟩
    obtain ⟨q, hq⟩ : ∃ q, q = w3.heap.size := ⟨_, rfl⟩
    rw [← hw] at HS4 HX4 HPV
    rw [← hw, ← hq] at HQ4
    rw [← hq] at HLQ
    rw [← hw, ← hq]
    clear hw hq
    have HLO := Lib.hid (show w.heap.size + 2 ≤ q ∧ q < w4.heap.size from ⟨HLQ.out, lt_heap HQ4.out⟩)
    obtain ⟨x0, x1, x2, x3, x4, x5, x6, x7⟩ := cell8 HX4.out
    obtain ⟨y0, y1, y2⟩ := cell3 HQ4.out
    have HKP : Hid (∀ W, KT B w4 W → W.cell? ⟨w.heap.size, 0, none⟩ = some (.int .i64 t.k) ∧ W.cell? ⟨w.heap.size, 1, none⟩ = some (.int .u64 (t.s 0)) ∧ W.cell? ⟨w.heap.size, 2, none⟩ = some (.int .u64 (t.s 1)) ∧ W.cell? ⟨w.heap.size, 3, none⟩ = some (.int .u64 (t.s 2)) ∧ W.cell? ⟨w.heap.size, 4, none⟩ = some (.int .u64 (t.s 3)) ∧ W.cell? ⟨w.heap.size, 5, none⟩ = some (.int .i64 t.lo) ∧ W.cell? ⟨w.heap.size, 6, none⟩ = some (.int .i64 t.hi) ∧ W.cell? ⟨w.heap.size, 7, none⟩ = some (.slice t.a t.n t.cap) ∧ W.cell? ⟨q, 0, none⟩ = some (.slice a1 n1 c1) ∧ W.cell? ⟨q, 1, none⟩ = some (.slice a2 n2 c2) ∧ W.cell? ⟨q, 2, none⟩ = some (.bool C.nu)) := Lib.hid fun W h => by
      obtain ⟨k0, k1, k2, k3, k4, k5, k6, k7⟩ := cell8 (h.heap HX4.out (by decide) (by decide) (by decide))
      obtain ⟨j0, j1, j2⟩ := cell3 (h.heap HQ4.out (by decide) (by decide) (by decide))
      exact ⟨k0, k1, k2, k3, k4, k5, k6, k7, j0, j1, j2⟩
    have HKS : Hid (∀ (W : World) (g : Nat), q < g → KT B w4 W → ∀ x y z : Value, (put3 W g x y z).cell? ⟨w.heap.size, 0, none⟩ = some (.int .i64 t.k) ∧ (put3 W g x y z).cell? ⟨w.heap.size, 1, none⟩ = some (.int .u64 (t.s 0)) ∧ (put3 W g x y z).cell? ⟨w.heap.size, 2, none⟩ = some (.int .u64 (t.s 1)) ∧ (put3 W g x y z).cell? ⟨w.heap.size, 3, none⟩ = some (.int .u64 (t.s 2)) ∧ (put3 W g x y z).cell? ⟨w.heap.size, 4, none⟩ = some (.int .u64 (t.s 3)) ∧ (put3 W g x y z).cell? ⟨w.heap.size, 5, none⟩ = some (.int .i64 t.lo) ∧ (put3 W g x y z).cell? ⟨w.heap.size, 6, none⟩ = some (.int .i64 t.hi) ∧ (put3 W g x y z).cell? ⟨w.heap.size, 7, none⟩ = some (.slice t.a t.n t.cap) ∧ (put3 W g x y z).cell? ⟨q, 0, none⟩ = some (.slice a1 n1 c1) ∧ (put3 W g x y z).cell? ⟨q, 1, none⟩ = some (.slice a2 n2 c2) ∧ (put3 W g x y z).cell? ⟨q, 2, none⟩ = some (.bool C.nu)) := Lib.hid fun W g hg h x y z => by
      have hG := put3_grown W g x y z
      have e0 := h.heap HX4.out (by decide) (by decide) (by decide)
      have e1 := h.heap HQ4.out (by decide) (by decide) (by decide)
      obtain ⟨k0, k1, k2, k3, k4, k5, k6, k7⟩ := cell8 ((hG.block _ (lt_heap e0) fun e => by have := Option.some.inj e; have := HLO.out; omega).trans e0)
      obtain ⟨j0, j1, j2⟩ := cell3 ((hG.block _ (lt_heap e1) fun e => by have := Option.some.inj e; omega).trans e1)
      exact ⟨k0, k1, k2, k3, k4, k5, k6, k7, j0, j1, j2⟩
    have HD : Hid (Below w4.heap.size w4 w4.drew) := Lib.hid (Below.refl _ _).drew
    have HDA : Hid (∀ o, Below w4.heap.size w4 (w4.drew.alloc o)) := Lib.hid fun o => (Below.refl w4.heap.size w4).drew.alloc (Nat.le_refl _) o
    have HDB : Hid (∀ o, Below w4.heap.size w4 (w4.alloc o).drew) := Lib.hid fun o => ((Below.refl w4.heap.size w4).alloc (Nat.le_refl _) o).drew
    have HB0 : KT B w4 w4.drew := KT.of HD.out
    have HIN : Hid (∀ W, Below w4.heap.size w4 W → Calls Try.prog 58 #[.pointer (some ⟨p, 0, none⟩), nodeV t.k t.s t.lo t.hi (.slice t.a t.n t.cap), .int .i64 (N : Int)] W (AddE B W p (G.add C) O)) := Lib.hid fun W h => HIH.out (G.add C) W HNN.out (HS4.out.bl.below h) (Nat.le_trans HB.out (Nat.le_trans HS4.out.kt.size h.size)) ((HL.out.below (HS4.out.kt.below HB.out)).below (h.mono (Nat.le_trans HB.out HS4.out.kt.size))) HN.out
    go_cut [8] from 15 to 22 (fun x8 wc => ∃ q8 : Nat, x8 = .pointer (some ⟨q8, 0, none⟩) ∧ w.heap.size + 1 < q8 ∧ Hid (AcS B w p (G.add (C.cat O)) (w.heap.size + 1) wc) ∧ Hid (PBt wc q8 ((C.cat O).part G.n)))
    case first =>
      go_wp2_with fail
      refine wp_region_held_drew (S := fun w' => w'.cell? ⟨w.heap.size, 0, none⟩ = some (.int .i64 t.k) ∧ w'.cell? ⟨w.heap.size, 1, none⟩ = some (.int .u64 (t.s 0)) ∧ w'.cell? ⟨w.heap.size, 2, none⟩ = some (.int .u64 (t.s 1)) ∧ w'.cell? ⟨w.heap.size, 3, none⟩ = some (.int .u64 (t.s 2)) ∧ w'.cell? ⟨w.heap.size, 4, none⟩ = some (.int .u64 (t.s 3)) ∧ w'.cell? ⟨w.heap.size, 5, none⟩ = some (.int .i64 t.lo) ∧ w'.cell? ⟨w.heap.size, 6, none⟩ = some (.int .i64 t.hi) ∧ w'.cell? ⟨w.heap.size, 7, none⟩ = some (.slice t.a t.n t.cap) ∧ w'.cell? ⟨q, 0, none⟩ = some (.slice a1 n1 c1) ∧ w'.cell? ⟨q, 1, none⟩ = some (.slice a2 n2 c2) ∧ w'.cell? ⟨q, 2, none⟩ = some (.bool C.nu)) (by kernel_rfl) ?_ (fun hHeld => ?_)
      · exact HKP.out _ HB0
      refine wpAnyH_take (i := 0) (oi := { dst := some 15, op := Op.move (Operand.tmp 0), type := 68, pos := "builder.go:94", after := #[], guard := none }) (v := ?_) rfl (by kernel_rfl) (by kernel_rfl) (by kernel_rfl) (fun _ _ _ h => h) (Or.inl ⟨by rfl, ?_⟩) (by assumption) ?_
      rotate_left
      · (intro w hSw; (try dsimp only at hSw); go_simp; try with_reducible rfl)
      try simp only [Act.put, List.setIfInBounds_toArray, List.set_cons_zero, List.set_cons_succ]
      refine wpAnyH_take (i := 1) (oi := { dst := some 16, op := Op.load 58 (Operand.tmp 7), type := 58, pos := "builder.go:94", after := #[], guard := none }) (v := ?_) rfl (by kernel_rfl) (by kernel_rfl) (by kernel_rfl) (fun _ _ _ h => h) (Or.inl ⟨by rfl, ?_⟩) (by assumption) ?_
      rotate_left
      · (intro w hSw; (try dsimp only at hSw); go_simp; try with_reducible rfl)
      try simp only [Act.put, List.setIfInBounds_toArray, List.set_cons_zero, List.set_cons_succ]
      refine wpAnyH_take (i := 2) (oi := { dst := some 17, op := Op.move (Operand.tmp 0), type := 68, pos := "builder.go:94", after := #[], guard := none }) (v := ?_) rfl (by kernel_rfl) (by kernel_rfl) (by kernel_rfl) (fun _ _ _ h => h) (Or.inl ⟨by rfl, ?_⟩) (by assumption) ?_
      rotate_left
      · (intro w hSw; (try dsimp only at hSw); go_simp; try with_reducible rfl)
      try simp only [Act.put, List.setIfInBounds_toArray, List.set_cons_zero, List.set_cons_succ]
      refine wpAnyH_take (i := 3) (oi := { dst := some 18, op := Op.load 27 (Operand.tmp 4), type := 27, pos := "builder.go:94", after := #[], guard := none }) (v := ?_) rfl (by kernel_rfl) (by kernel_rfl) (by kernel_rfl) (fun _ _ _ h => h) (Or.inl ⟨by rfl, ?_⟩) (by assumption) ?_
      rotate_left
      · (intro w hSw; (try dsimp only at hSw); go_simp; try with_reducible rfl)
      try simp only [Act.put, List.setIfInBounds_toArray, List.set_cons_zero, List.set_cons_succ]
      refine wpAnyH_take (i := 4) (oi := { dst := some 19, op := Op.move (Operand.tmp 2), type := 3, pos := "builder.go:94", after := #[], guard := none }) (v := ?_) rfl (by kernel_rfl) (by kernel_rfl) (by kernel_rfl) (fun _ _ _ h => h) (Or.inl ⟨by rfl, ?_⟩) (by assumption) ?_
      rotate_left
      · (intro w hSw; (try dsimp only at hSw); go_simp; try with_reducible rfl)
      try simp only [Act.put, List.setIfInBounds_toArray, List.set_cons_zero, List.set_cons_succ]
      refine wpAnyH_take (i := 5) (oi := { dst := some 20, op := Op.binOp BinOp.sub 3 (Operand.tmp 19) (Operand.const (Value.int IntKind.i64 1)) 3, type := 3, pos := "builder.go:94", after := #[{ on := 4, ground := Ground.data }], guard := none }) (v := ?_) rfl (by kernel_rfl) (by kernel_rfl) (by kernel_rfl) (fun _ _ _ h => h) (Or.inl ⟨by rfl, ?_⟩) (by assumption) ?_
      rotate_left
      · (intro w hSw; (try dsimp only at hSw); go_simp; try with_reducible rfl)
      try simp only [Act.put, List.setIfInBounds_toArray, List.set_cons_zero, List.set_cons_succ]
      refine wpAnyH_ready (rs := [6, 8]) (by kernel_rfl) (by simp) ?_
      refine AllReadyH.cons (o := { dst := some 21, op := Op.call { callee := Callee.value (Operand.func 58), args := #[Operand.tmp 17, Operand.tmp 18, Operand.tmp 20], argTypes := #[68, 27, 3] }, type := 58, pos := "builder.go:94", after := #[{ on := 2, ground := Ground.data }, { on := 3, ground := Ground.data }, { on := 5, ground := Ground.data }], guard := none }) rfl (fun K hK => ?_) (AllReadyH.cons (o := { dst := some 8, op := Op.alloc 58, type := 0, pos := "builder.go:94", after := #[], guard := none }) rfl (fun K hK => ?_) AllReadyH.nil)
      · go_simp
        (try rw [HWR.out])
        (with_reducible refine (HIN.out _ ?sb3).mono ?_)
        (case sb3 => first | exact HD.out | exact HDA.out _ | exact HDB.out _)
        rintro e w5 ⟨v5, rfl, hP5, hG5, hk5⟩
        have HB5 : KT B w4 w5 := (KT.of (by first | exact HD.out | exact HDA.out _ | exact HDB.out _)).trans hk5
        obtain ⟨b1, m1, d1, b2, m2, d2, rfl⟩ := hP5.forms
        have HJN := Lib.hid fun (W : World) (h : Below w5.heap.size w5 W) => joined54_any B p ((G.add C).add O) (C.part G.n) (O.part (G.n + C.n)) _ _ W (hG5.below h) (by have := HN.out; exact this) (HPV.out.kt (HB5.trans (KT.of h))) (hP5.below h) (Pl.part_le HPO.out G.n _ (Nat.le_add_right _ _)) (Pl.part_le HOO.out (G.n + C.n) _ (Nat.le_refl _))
        clear hP5 hG5 hk5
        go_wp2_with fail
        refine hK.out _ _ ?_ (fun hHeld => ?_)
        · exact HKP.out _ (by first | exact HB0 | exact HB0.trans (KT.of (alloc_below _ _)) | exact KT.of (HDA.out _) | exact KT.of (HDB.out _) | exact HB5 | exact HB5.trans (KT.of (alloc_below _ _)) | exact HB6 | exact HB6.trans (KT.of (alloc_below _ _)))
        clear hK K
        try simp only [Act.put, List.setIfInBounds_toArray, List.set_cons_zero, List.set_cons_succ]
        refine wpAnyH_ready (rs := [7, 8]) (by kernel_rfl) (by simp) ?_
        refine AllReadyH.cons (o := { dst := some 22, op := Op.call { callee := Callee.value (Operand.func 54), args := #[Operand.tmp 15, Operand.tmp 16, Operand.tmp 21], argTypes := #[68, 58, 58] }, type := 58, pos := "builder.go:94", after := #[{ on := 0, ground := Ground.data }, { on := 1, ground := Ground.data }, { on := 6, ground := Ground.data }, { on := 6, ground := Ground.chain }], guard := none }) rfl (fun K hK => ?_) (AllReadyH.cons (o := { dst := some 8, op := Op.alloc 58, type := 0, pos := "builder.go:94", after := #[], guard := none }) rfl (fun K hK => ?_) AllReadyH.nil)
        · go_simp
          (with_reducible refine (HJN.out _ ?sb1).mono ?_)
          (case sb1 => first | exact Below.refl _ _ | exact alloc_below _ _)
          rintro e w6 ⟨v6, rfl, hP6, hG6, hk6⟩
          have HB6 : KT B w4 w6 := HB5.trans ((KT.of (by first | exact Below.refl _ _ | exact alloc_below _ _)).trans hk6)
          rw [Gs.cat_link G HPO.out] at hG6
          rw [Pl.part_cat HPO.out] at hP6
          obtain ⟨e1, k1, f1, e2, k2, f2, rfl⟩ := hP6.forms
          have HS6 := Lib.hid (HS4.out.go HB6 hG6)
          have HP6 := Lib.hid hP6
          clear hP6 hG6 hk6
          go_wp2_with fail
          refine hK.out _ _ ?_ (fun hHeld => ?_)
          · exact HKP.out _ (by first | exact HB0 | exact HB0.trans (KT.of (alloc_below _ _)) | exact KT.of (HDA.out _) | exact KT.of (HDB.out _) | exact HB5 | exact HB5.trans (KT.of (alloc_below _ _)) | exact HB6 | exact HB6.trans (KT.of (alloc_below _ _)))
          clear hK K
          try simp only [Act.put, List.setIfInBounds_toArray, List.set_cons_zero, List.set_cons_succ]
          refine wpAnyH_ready (rs := [8]) (by kernel_rfl) (by simp) ?_
          refine AllReadyH.cons (o := { dst := some 8, op := Op.alloc 58, type := 0, pos := "builder.go:94", after := #[], guard := none }) rfl (fun K hK => ?_) AllReadyH.nil
          go_simp
          refine hK.out _ _ ?_ (fun hHeld => ?_)
          · exact HKP.out _ (by first | exact HB0 | exact HB0.trans (KT.of (alloc_below _ _)) | exact KT.of (HDA.out _) | exact KT.of (HDB.out _) | exact HB5 | exact HB5.trans (KT.of (alloc_below _ _)) | exact HB6 | exact HB6.trans (KT.of (alloc_below _ _)))
          clear hK K
          try simp only [Act.put, List.setIfInBounds_toArray, List.set_cons_zero, List.set_cons_succ]
          have HN1 := Lib.hid (PBt.new (X := (C.cat O).part G.n) HP6.out)
          have HN2 := Lib.hid (HS6.out.below (alloc_below w6 (.cells #[.slice e1 k1 f1, .slice e2 k2 f2, .bool (C.cat O).nu] 58)))
          refine wpAnyH_ready (rs := [9]) (by kernel_rfl) (by simp) ?_
          refine AllReadyH.cons (o := { dst := none, op := Op.store 58 (Operand.tmp 8) (Operand.tmp 22), type := 0, pos := "builder.go:94", after := #[{ on := 8, ground := Ground.data }, { on := 7, ground := Ground.data }, { on := 7, ground := Ground.chain }, { on := 0, ground := Ground.phase }, { on := 1, ground := Ground.phase }, { on := 2, ground := Ground.phase }, { on := 3, ground := Ground.phase }, { on := 4, ground := Ground.phase }, { on := 5, ground := Ground.phase }, { on := 6, ground := Ground.phase }, { on := 7, ground := Ground.phase }, { on := 8, ground := Ground.phase }], guard := none }) rfl (fun K hK => ?_) AllReadyH.nil
          go_simp
          refine hK.out _ _ ?_ (fun hHeld => ?_)
          · exact HKP.out _ (by first | exact HB0 | exact HB0.trans (KT.of (alloc_below _ _)) | exact KT.of (HDA.out _) | exact KT.of (HDB.out _) | exact HB5 | exact HB5.trans (KT.of (alloc_below _ _)) | exact HB6 | exact HB6.trans (KT.of (alloc_below _ _)))
          clear hK K
          try simp only [Act.put, List.setIfInBounds_toArray, List.set_cons_zero, List.set_cons_succ]
          refine wpAnyH_done (by kernel_rfl) ?_ _
          go_wp2
          go_meet
          exact ⟨w6.heap.size, rfl, by have := HLO.out; have := HB5.size; (try have := HB6.size); omega, HN2, HN1⟩
        · go_simp
          refine hK.out _ _ ?_ (fun hHeld => ?_)
          · exact HKP.out _ (by first | exact HB0 | exact HB0.trans (KT.of (alloc_below _ _)) | exact KT.of (HDA.out _) | exact KT.of (HDB.out _) | exact HB5 | exact HB5.trans (KT.of (alloc_below _ _)) | exact HB6 | exact HB6.trans (KT.of (alloc_below _ _)))
          clear hK K
          try simp only [Act.put, List.setIfInBounds_toArray, List.set_cons_zero, List.set_cons_succ]
          refine wpAnyH_ready (rs := [7]) (by kernel_rfl) (by simp) ?_
          refine AllReadyH.cons (o := { dst := some 22, op := Op.call { callee := Callee.value (Operand.func 54), args := #[Operand.tmp 15, Operand.tmp 16, Operand.tmp 21], argTypes := #[68, 58, 58] }, type := 58, pos := "builder.go:94", after := #[{ on := 0, ground := Ground.data }, { on := 1, ground := Ground.data }, { on := 6, ground := Ground.data }, { on := 6, ground := Ground.chain }], guard := none }) rfl (fun K hK => ?_) AllReadyH.nil
          go_simp
          (with_reducible refine (HJN.out _ ?sb2).mono ?_)
          (case sb2 => first | exact Below.refl _ _ | exact alloc_below _ _)
          rintro e w6 ⟨v6, rfl, hP6, hG6, hk6⟩
          have HB6 : KT B w4 w6 := HB5.trans ((KT.of (by first | exact Below.refl _ _ | exact alloc_below _ _)).trans hk6)
          rw [Gs.cat_link G HPO.out] at hG6
          rw [Pl.part_cat HPO.out] at hP6
          obtain ⟨e1, k1, f1, e2, k2, f2, rfl⟩ := hP6.forms
          have HS6 := Lib.hid (HS4.out.go HB6 hG6)
          have HP6 := Lib.hid hP6
          have hq6 := hk6.heap (heap_alloc_new w5 (.cells part0 58)) (by decide) (by decide) (by decide)
          have HN1 := Lib.hid (PBt.set hq6 HP6.out)
          have HN2 := Lib.hid (HS6.out.put hq6 (by have := HLO.out; have := HB5.size; omega) (by have := HLO.out; have := HB5.size; omega) (.slice e1 k1 f1) (.slice e2 k2 f2) (.bool (C.cat O).nu))
          have g0 := frozen4 hq6 0
          have g1 := frozen4 hq6 1
          have g2 := frozen4 hq6 2
          obtain ⟨r0, r1, r2⟩ := cell3 hq6
          clear hP6 hG6 hk6 hq6
          go_wp2_with fail
          refine hK.out _ _ ?_ (fun hHeld => ?_)
          · exact HKP.out _ (by first | exact HB0 | exact HB0.trans (KT.of (alloc_below _ _)) | exact KT.of (HDA.out _) | exact KT.of (HDB.out _) | exact HB5 | exact HB5.trans (KT.of (alloc_below _ _)) | exact HB6 | exact HB6.trans (KT.of (alloc_below _ _)))
          clear hK K
          try simp only [Act.put, List.setIfInBounds_toArray, List.set_cons_zero, List.set_cons_succ]
          refine wpAnyH_ready (rs := [9]) (by kernel_rfl) (by simp) ?_
          refine AllReadyH.cons (o := { dst := none, op := Op.store 58 (Operand.tmp 8) (Operand.tmp 22), type := 0, pos := "builder.go:94", after := #[{ on := 8, ground := Ground.data }, { on := 7, ground := Ground.data }, { on := 7, ground := Ground.chain }, { on := 0, ground := Ground.phase }, { on := 1, ground := Ground.phase }, { on := 2, ground := Ground.phase }, { on := 3, ground := Ground.phase }, { on := 4, ground := Ground.phase }, { on := 5, ground := Ground.phase }, { on := 6, ground := Ground.phase }, { on := 7, ground := Ground.phase }, { on := 8, ground := Ground.phase }], guard := none }) rfl (fun K hK => ?_) AllReadyH.nil
          go_simp
          refine hK.out _ _ ?_ (fun hHeld => ?_)
          · exact HKS.out _ _ (by have := HLO.out; have := HB5.size; omega) HB6 _ _ _
          clear hK K
          try simp only [Act.put, List.setIfInBounds_toArray, List.set_cons_zero, List.set_cons_succ]
          refine wpAnyH_done (by kernel_rfl) ?_ _
          go_wp2
          go_meet
          exact ⟨w5.heap.size, rfl, by have := HLO.out; have := HB5.size; (try have := HB6.size); omega, HN2, HN1⟩
      · go_simp
        refine hK.out _ _ ?_ (fun hHeld => ?_)
        · exact HKP.out _ (by first | exact HB0 | exact HB0.trans (KT.of (alloc_below _ _)) | exact KT.of (HDA.out _) | exact KT.of (HDB.out _) | exact HB5 | exact HB5.trans (KT.of (alloc_below _ _)) | exact HB6 | exact HB6.trans (KT.of (alloc_below _ _)))
        clear hK K
        try simp only [Act.put, List.setIfInBounds_toArray, List.set_cons_zero, List.set_cons_succ]
        refine wpAnyH_ready (rs := [6]) (by kernel_rfl) (by simp) ?_
        refine AllReadyH.cons (o := { dst := some 21, op := Op.call { callee := Callee.value (Operand.func 58), args := #[Operand.tmp 17, Operand.tmp 18, Operand.tmp 20], argTypes := #[68, 27, 3] }, type := 58, pos := "builder.go:94", after := #[{ on := 2, ground := Ground.data }, { on := 3, ground := Ground.data }, { on := 5, ground := Ground.data }], guard := none }) rfl (fun K hK => ?_) AllReadyH.nil
        go_simp
        (try rw [HWR.out])
        (with_reducible refine (HIN.out _ ?sb4).mono ?_)
        (case sb4 => first | exact HD.out | exact HDA.out _ | exact HDB.out _)
        rintro e w5 ⟨v5, rfl, hP5, hG5, hk5⟩
        have HB5 : KT B w4 w5 := (KT.of (by first | exact HD.out | exact HDA.out _ | exact HDB.out _)).trans hk5
        obtain ⟨b1, m1, d1, b2, m2, d2, rfl⟩ := hP5.forms
        have HJN := Lib.hid fun (W : World) (h : Below w5.heap.size w5 W) => joined54_any B p ((G.add C).add O) (C.part G.n) (O.part (G.n + C.n)) _ _ W (hG5.below h) (by have := HN.out; exact this) (HPV.out.kt (HB5.trans (KT.of h))) (hP5.below h) (Pl.part_le HPO.out G.n _ (Nat.le_add_right _ _)) (Pl.part_le HOO.out (G.n + C.n) _ (Nat.le_refl _))
        have hq5 := hk5.heap (by first | exact heap_alloc_new w4 (.cells part0 58) | exact heap_alloc_new w4.drew (.cells part0 58)) (by decide) (by decide) (by decide)
        have HQ5 := Lib.hid hq5
        clear hP5 hG5 hk5 hq5
        go_wp2_with fail
        refine hK.out _ _ ?_ (fun hHeld => ?_)
        · exact HKP.out _ (by first | exact HB0 | exact HB0.trans (KT.of (alloc_below _ _)) | exact KT.of (HDA.out _) | exact KT.of (HDB.out _) | exact HB5 | exact HB5.trans (KT.of (alloc_below _ _)) | exact HB6 | exact HB6.trans (KT.of (alloc_below _ _)))
        clear hK K
        try simp only [Act.put, List.setIfInBounds_toArray, List.set_cons_zero, List.set_cons_succ]
        refine wpAnyH_ready (rs := [7]) (by kernel_rfl) (by simp) ?_
        refine AllReadyH.cons (o := { dst := some 22, op := Op.call { callee := Callee.value (Operand.func 54), args := #[Operand.tmp 15, Operand.tmp 16, Operand.tmp 21], argTypes := #[68, 58, 58] }, type := 58, pos := "builder.go:94", after := #[{ on := 0, ground := Ground.data }, { on := 1, ground := Ground.data }, { on := 6, ground := Ground.data }, { on := 6, ground := Ground.chain }], guard := none }) rfl (fun K hK => ?_) AllReadyH.nil
        go_simp
        (with_reducible refine (HJN.out _ ?sb5).mono ?_)
        (case sb5 => first | exact Below.refl _ _ | exact alloc_below _ _)
        rintro e w6 ⟨v6, rfl, hP6, hG6, hk6⟩
        have HB6 : KT B w4 w6 := HB5.trans ((KT.of (by first | exact Below.refl _ _ | exact alloc_below _ _)).trans hk6)
        rw [Gs.cat_link G HPO.out] at hG6
        rw [Pl.part_cat HPO.out] at hP6
        obtain ⟨e1, k1, f1, e2, k2, f2, rfl⟩ := hP6.forms
        have HS6 := Lib.hid (HS4.out.go HB6 hG6)
        have HP6 := Lib.hid hP6
        have hq6 := hk6.heap HQ5.out (by decide) (by decide) (by decide)
        have HN1 := Lib.hid (PBt.set hq6 HP6.out)
        have HN2 := Lib.hid (HS6.out.put hq6 (by have := HLO.out; have := HB5.size; omega) (by have := HLO.out; have := HB5.size; omega) (.slice e1 k1 f1) (.slice e2 k2 f2) (.bool (C.cat O).nu))
        have g0 := frozen4 hq6 0
        have g1 := frozen4 hq6 1
        have g2 := frozen4 hq6 2
        obtain ⟨r0, r1, r2⟩ := cell3 hq6
        clear hP6 hG6 hk6 hq6
        go_wp2_with fail
        refine hK.out _ _ ?_ (fun hHeld => ?_)
        · exact HKP.out _ (by first | exact HB0 | exact HB0.trans (KT.of (alloc_below _ _)) | exact KT.of (HDA.out _) | exact KT.of (HDB.out _) | exact HB5 | exact HB5.trans (KT.of (alloc_below _ _)) | exact HB6 | exact HB6.trans (KT.of (alloc_below _ _)))
        clear hK K
        try simp only [Act.put, List.setIfInBounds_toArray, List.set_cons_zero, List.set_cons_succ]
        refine wpAnyH_ready (rs := [9]) (by kernel_rfl) (by simp) ?_
        refine AllReadyH.cons (o := { dst := none, op := Op.store 58 (Operand.tmp 8) (Operand.tmp 22), type := 0, pos := "builder.go:94", after := #[{ on := 8, ground := Ground.data }, { on := 7, ground := Ground.data }, { on := 7, ground := Ground.chain }, { on := 0, ground := Ground.phase }, { on := 1, ground := Ground.phase }, { on := 2, ground := Ground.phase }, { on := 3, ground := Ground.phase }, { on := 4, ground := Ground.phase }, { on := 5, ground := Ground.phase }, { on := 6, ground := Ground.phase }, { on := 7, ground := Ground.phase }, { on := 8, ground := Ground.phase }], guard := none }) rfl (fun K hK => ?_) AllReadyH.nil
        go_simp
        refine hK.out _ _ ?_ (fun hHeld => ?_)
        · exact HKS.out _ _ (by have := HLO.out; have := HB5.size; omega) HB6 _ _ _
        clear hK K
        try simp only [Act.put, List.setIfInBounds_toArray, List.set_cons_zero, List.set_cons_succ]
        refine wpAnyH_done (by kernel_rfl) ?_ _
        go_wp2
        go_meet
        exact ⟨w4.heap.size, rfl, by have := HLO.out; have := HB5.size; (try have := HB6.size); omega, HN2, HN1⟩
    case rest =>
      obtain ⟨q8, rfl, hlo, HS, HT⟩ := hcut
      obtain ⟨e1, k1, f1, e2, k2, f2, hq8, hP⟩ := HT.out
      have HQ8 := Lib.hid hq8
      have HG8 := Lib.hid (grown_set wc q8 2 (.bool true))
      have HT8 := Lib.hid (set_2 (.bool true) hq8)
      have HS8 := Lib.hid (HS.out.grow HG8.out hq8 (by omega) (by omega))
      have HP8 : Hid (PtV (wc.setCell ⟨q8, 2, none⟩ (.bool true)) (.agg #[.slice e1 k1 f1, .slice e2 k2 f2, .bool true]) ((C.cat O).may.part G.n)) := Lib.hid (by
        obtain ⟨vf, vl, lf, ll, he, i1, s1, i2, s2⟩ := hP.kept HG8.out fun k hk => by cases hk; exact ⟨_, _, hq8, by decide⟩
        injection he with he
        injection he with he
        injection he with he1 he
        injection he with he2 he
        rw [he1, he2]
        exact ⟨vf, vl, lf, ll, by simp [Pl.orN], i1, s1, i2, s2⟩)
      obtain ⟨u0, u1, u2⟩ := cell3 hq8
      have u80 := frozen4 hq8 0
      have u81 := frozen4 hq8 1
      have u82 := frozen4 hq8 2
      clear hq8 hP
      go_upto_region 6 with fail
      obtain ⟨w9, hw⟩ : ∃ x, x = wc.setCell ⟨q8, 2, none⟩ (.bool true) := ⟨_, rfl⟩
      rw [← hw] at HT8 HS8 HP8 ⊢
      clear hw u0 u1 u2 u80 u81 u82
      have HF := Lib.hid (HS8.out.fin (P := (C.cat O).may) (a1 := e1) (n1 := k1) (c1 := f1) (a2 := e2) (n2 := k2) (c2 := f2) rfl HP8.out (by simp [Pl.orN]))
      have hnu : (C.cat O).may.nu = true := by simp [Pl.orN]
      rw [hnu] at HF
      have hbr := HS8.out.br
      obtain ⟨u0, u1, u2⟩ := cell3 HT8.out
      obtain ⟨l0, l1, l2⟩ := cell3 hbr
      have m0 := frozen4 hbr 0
      have m1 := frozen4 hbr 1
      have m2 := frozen4 hbr 2
      clear hbr
      go_wp2
      exact bodyPost_ret (ret3c Try.results58 rfl HF.out.1) rfl HF.out.2
end Go.Proofs.Ytbahadgcmaabcaa
