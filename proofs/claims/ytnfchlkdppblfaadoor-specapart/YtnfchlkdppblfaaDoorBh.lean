/- Contracts of the document's own Digits, Plain, char and bytes of layer 3. -/
import Derived.Test.YtnfchlkdppblfaaDoorM
namespace Go.Proofs.YtnfchlkdppblfaaDoor
open Go.RowKit
abbrev strV (l : List UInt8) : Value := .string ⟨l.toArray⟩
set_option maxRecDepth 100000 in
theorem own1 (w : World) (b : UInt8) : (w.alloc (.cells #[.int .u8 b.toNat] 5)).ownsRow w.heap.size 5 1 (.slice (some ⟨w.heap.size, 0, none⟩) 1 1) 1 (bc [b]) :=
  ⟨rfl, Or.inr ⟨w.heap.size, 1, _, rfl, Nat.le_refl _, heap_alloc_new _ _, Nat.le_refl _, by unfold maxLen; omega, rfl, rfl⟩⟩
set_option maxRecDepth 100000 in
theorem conv1 (w : World) (b : UInt8) (x : Int) (hx : x = b.toNat) : (convert 22 9 (.slice (some ⟨w.heap.size, 0, none⟩) 1 1)).run Tryd.prog (w.alloc (.cells #[.int .u8 x] 5)) = .ok (strV [b]) (w.alloc (.cells #[.int .u8 x] 5)) := by
  subst hx; exact conv_any (l := [b]) (own1 w b)
set_option maxRecDepth 100000 in
theorem str_add (x y : List UInt8) (h : x.length + y.length ≤ 2000000000) (w : World) : (Op.stringOp .add ⟨x.toArray⟩ ⟨y.toArray⟩).run Tryd.prog w = .ok (strV (x ++ y)) w := by
  rw [run_string_add_sum w _ _ (by simp [ByteArray.size]; omega), ByteArray.mk_append_mk]
set_option maxRecDepth 100000 in
set_option maxHeartbeats 4000000 in
theorem digits1 (n : Nat) (h : n < 10) (w : World) : Calls Tryd.prog 67 #[.int .i64 n] w fun e w' => e = .returned (strV (digs n)) ∧ Below w.heap.size w w' := by
  have hd : n = 0 ∨ n = 1 ∨ n = 2 ∨ n = 3 ∨ n = 4 ∨ n = 5 ∨ n = 6 ∨ n = 7 ∨ n = 8 ∨ n = 9 := by omega
  rcases hd with rfl | rfl | rfl | rfl | rfl | rfl | rfl | rfl | rfl | rfl
  · have hc := fun w => conv1 w 48 48 rfl
    go_enter Tryd.func67, Tryd.ntmps67
    go_wp2
    go_ret
    exact ⟨rfl, alloc_below _ _⟩
  · have hc := fun w => conv1 w 49 49 rfl
    go_enter Tryd.func67, Tryd.ntmps67
    go_wp2
    go_ret
    exact ⟨rfl, alloc_below _ _⟩
  · have hc := fun w => conv1 w 50 50 rfl
    go_enter Tryd.func67, Tryd.ntmps67
    go_wp2
    go_ret
    exact ⟨rfl, alloc_below _ _⟩
  · have hc := fun w => conv1 w 51 51 rfl
    go_enter Tryd.func67, Tryd.ntmps67
    go_wp2
    go_ret
    exact ⟨rfl, alloc_below _ _⟩
  · have hc := fun w => conv1 w 52 52 rfl
    go_enter Tryd.func67, Tryd.ntmps67
    go_wp2
    go_ret
    exact ⟨rfl, alloc_below _ _⟩
  · have hc := fun w => conv1 w 53 53 rfl
    go_enter Tryd.func67, Tryd.ntmps67
    go_wp2
    go_ret
    exact ⟨rfl, alloc_below _ _⟩
  · have hc := fun w => conv1 w 54 54 rfl
    go_enter Tryd.func67, Tryd.ntmps67
    go_wp2
    go_ret
    exact ⟨rfl, alloc_below _ _⟩
  · have hc := fun w => conv1 w 55 55 rfl
    go_enter Tryd.func67, Tryd.ntmps67
    go_wp2
    go_ret
    exact ⟨rfl, alloc_below _ _⟩
  · have hc := fun w => conv1 w 56 56 rfl
    go_enter Tryd.func67, Tryd.ntmps67
    go_wp2
    go_ret
    exact ⟨rfl, alloc_below _ _⟩
  · have hc := fun w => conv1 w 57 57 rfl
    go_enter Tryd.func67, Tryd.ntmps67
    go_wp2
    go_ret
    exact ⟨rfl, alloc_below _ _⟩
set_option maxRecDepth 100000 in
set_option maxHeartbeats 4000000 in
theorem digits2 (n : Nat) (h : 10 ≤ n) (h' : n ≤ 20) (w : World) : Calls Tryd.prog 67 #[.int .i64 n] w fun e w' => e = .returned (strV (digs n)) ∧ Below w.heap.size w w' := by
  have hd : n = 10 ∨ n = 11 ∨ n = 12 ∨ n = 13 ∨ n = 14 ∨ n = 15 ∨ n = 16 ∨ n = 17 ∨ n = 18 ∨ n = 19 ∨ n = 20 := by omega
  rcases hd with rfl | rfl | rfl | rfl | rfl | rfl | rfl | rfl | rfl | rfl | rfl
  · have hc := fun w => conv1 w 48 48 rfl
    have ha := fun w => str_add [49] [48] (by decide) w
    go_enter Tryd.func67, Tryd.ntmps67
    go_wp2_with fail
    refine (digits1 1 (by omega) _).mono ?_
    rintro e w1 ⟨rfl, hb1⟩
    have HB1 := Lib.hid (box_below hb1)
    clear hb1
    go_wp2
    go_ret
    exact ⟨by first | rfl | (simp [digs, digsL]; done), HB1.out⟩
  · have hc := fun w => conv1 w 49 49 rfl
    have ha := fun w => str_add [49] [49] (by decide) w
    go_enter Tryd.func67, Tryd.ntmps67
    go_wp2_with fail
    refine (digits1 1 (by omega) _).mono ?_
    rintro e w1 ⟨rfl, hb1⟩
    have HB1 := Lib.hid (box_below hb1)
    clear hb1
    go_wp2
    go_ret
    exact ⟨by first | rfl | (simp [digs, digsL]; done), HB1.out⟩
  · have hc := fun w => conv1 w 50 50 rfl
    have ha := fun w => str_add [49] [50] (by decide) w
    go_enter Tryd.func67, Tryd.ntmps67
    go_wp2_with fail
    refine (digits1 1 (by omega) _).mono ?_
    rintro e w1 ⟨rfl, hb1⟩
    have HB1 := Lib.hid (box_below hb1)
    clear hb1
    go_wp2
    go_ret
    exact ⟨by first | rfl | (simp [digs, digsL]; done), HB1.out⟩
  · have hc := fun w => conv1 w 51 51 rfl
    have ha := fun w => str_add [49] [51] (by decide) w
    go_enter Tryd.func67, Tryd.ntmps67
    go_wp2_with fail
    refine (digits1 1 (by omega) _).mono ?_
    rintro e w1 ⟨rfl, hb1⟩
    have HB1 := Lib.hid (box_below hb1)
    clear hb1
    go_wp2
    go_ret
    exact ⟨by first | rfl | (simp [digs, digsL]; done), HB1.out⟩
  · have hc := fun w => conv1 w 52 52 rfl
    have ha := fun w => str_add [49] [52] (by decide) w
    go_enter Tryd.func67, Tryd.ntmps67
    go_wp2_with fail
    refine (digits1 1 (by omega) _).mono ?_
    rintro e w1 ⟨rfl, hb1⟩
    have HB1 := Lib.hid (box_below hb1)
    clear hb1
    go_wp2
    go_ret
    exact ⟨by first | rfl | (simp [digs, digsL]; done), HB1.out⟩
  · have hc := fun w => conv1 w 53 53 rfl
    have ha := fun w => str_add [49] [53] (by decide) w
    go_enter Tryd.func67, Tryd.ntmps67
    go_wp2_with fail
    refine (digits1 1 (by omega) _).mono ?_
    rintro e w1 ⟨rfl, hb1⟩
    have HB1 := Lib.hid (box_below hb1)
    clear hb1
    go_wp2
    go_ret
    exact ⟨by first | rfl | (simp [digs, digsL]; done), HB1.out⟩
  · have hc := fun w => conv1 w 54 54 rfl
    have ha := fun w => str_add [49] [54] (by decide) w
    go_enter Tryd.func67, Tryd.ntmps67
    go_wp2_with fail
    refine (digits1 1 (by omega) _).mono ?_
    rintro e w1 ⟨rfl, hb1⟩
    have HB1 := Lib.hid (box_below hb1)
    clear hb1
    go_wp2
    go_ret
    exact ⟨by first | rfl | (simp [digs, digsL]; done), HB1.out⟩
  · have hc := fun w => conv1 w 55 55 rfl
    have ha := fun w => str_add [49] [55] (by decide) w
    go_enter Tryd.func67, Tryd.ntmps67
    go_wp2_with fail
    refine (digits1 1 (by omega) _).mono ?_
    rintro e w1 ⟨rfl, hb1⟩
    have HB1 := Lib.hid (box_below hb1)
    clear hb1
    go_wp2
    go_ret
    exact ⟨by first | rfl | (simp [digs, digsL]; done), HB1.out⟩
  · have hc := fun w => conv1 w 56 56 rfl
    have ha := fun w => str_add [49] [56] (by decide) w
    go_enter Tryd.func67, Tryd.ntmps67
    go_wp2_with fail
    refine (digits1 1 (by omega) _).mono ?_
    rintro e w1 ⟨rfl, hb1⟩
    have HB1 := Lib.hid (box_below hb1)
    clear hb1
    go_wp2
    go_ret
    exact ⟨by first | rfl | (simp [digs, digsL]; done), HB1.out⟩
  · have hc := fun w => conv1 w 57 57 rfl
    have ha := fun w => str_add [49] [57] (by decide) w
    go_enter Tryd.func67, Tryd.ntmps67
    go_wp2_with fail
    refine (digits1 1 (by omega) _).mono ?_
    rintro e w1 ⟨rfl, hb1⟩
    have HB1 := Lib.hid (box_below hb1)
    clear hb1
    go_wp2
    go_ret
    exact ⟨by first | rfl | (simp [digs, digsL]; done), HB1.out⟩
  · have hc := fun w => conv1 w 48 48 rfl
    have ha := fun w => str_add [50] [48] (by decide) w
    go_enter Tryd.func67, Tryd.ntmps67
    go_wp2_with fail
    refine (digits1 2 (by omega) _).mono ?_
    rintro e w1 ⟨rfl, hb1⟩
    have HB1 := Lib.hid (box_below hb1)
    clear hb1
    go_wp2
    go_ret
    exact ⟨by first | rfl | (simp [digs, digsL]; done), HB1.out⟩
end Go.Proofs.YtnfchlkdppblfaaDoor
/- Contracts of the document's own Plain, char and bytes of layer 3. -/
namespace Go.Proofs.YtnfchlkdppblfaaDoor
open Go.RowKit
set_option maxRecDepth 100000 in
theorem plain7 (b : Int) : (¬ 97 ≤ b ∧ ¬ 65 ≤ b ∧ ¬ 48 ≤ b ∧ plainC b = false) ∨ (¬ 97 ≤ b ∧ ¬ 65 ≤ b ∧ 48 ≤ b ∧ b ≤ 57 ∧ plainC b = true) ∨ (¬ 97 ≤ b ∧ ¬ 65 ≤ b ∧ 48 ≤ b ∧ ¬ b ≤ 57 ∧ plainC b = false) ∨ (¬ 97 ≤ b ∧ 65 ≤ b ∧ b ≤ 90 ∧ plainC b = true) ∨ (¬ 97 ≤ b ∧ 65 ≤ b ∧ ¬ b ≤ 90 ∧ 48 ≤ b ∧ ¬ b ≤ 57 ∧ plainC b = false) ∨ (97 ≤ b ∧ b ≤ 122 ∧ plainC b = true) ∨ (97 ≤ b ∧ ¬ b ≤ 122 ∧ 65 ≤ b ∧ ¬ b ≤ 90 ∧ 48 ≤ b ∧ ¬ b ≤ 57 ∧ plainC b = false) := by
  cases h : plainC b
  · simp only [plainC, Bool.or_eq_false_iff, Bool.and_eq_false_iff, decide_eq_false_iff_not] at h; simp; omega
  · simp only [plainC, Bool.or_eq_true, Bool.and_eq_true, decide_eq_true_eq] at h; simp; omega
set_option maxRecDepth 100000 in
set_option maxHeartbeats 2000000 in
theorem refplain_any (b : Int) (w : World) : Calls Tryd.prog 97 #[.int .i64 b] w fun e w' => e = .returned (.bool (plainC b)) ∧ w' = w := by
  rcases plain7 b with ⟨h1, h2, h3, h⟩ | ⟨h1, h2, h3, h4, h⟩ | ⟨h1, h2, h3, h4, h⟩ | ⟨h1, h2, h3, h⟩ | ⟨h1, h2, h3, h4, h5, h⟩ | ⟨h1, h2, h⟩ | ⟨h1, h2, h3, h4, h5, h6, h⟩
  all_goals
    rw [h]
    clear h
    go_enter Tryd.func97, Tryd.ntmps97
    go_wp2
    go_ret
    exact ⟨rfl, rfl⟩
set_option maxRecDepth 100000 in
theorem conv2 (w wx : World) (b c : UInt8) (hw : wx.heap[w.heap.size]? = some (.cells #[.int .u8 b.toNat, .int .u8 c.toNat] 5 (0, 0))) : (convert 22 9 (.slice (some ⟨w.heap.size, 0, none⟩) 2 2)).run Tryd.prog wx = .ok (strV [b, c]) wx :=
  conv_any (B := w.heap.size) (l := [b, c]) ⟨rfl, Or.inr ⟨w.heap.size, 2, _, rfl, Nat.le_refl _, hw, Nat.le_refl _, by unfold maxLen; omega, rfl, rfl⟩⟩
set_option maxRecDepth 100000 in
set_option maxHeartbeats 4000000 in
theorem refchar_any (b : Int) (h0 : 0 ≤ b) (h256 : b < 256) (w : World) : Calls Tryd.prog 87 #[.int .i64 b] w fun e w' => e = .returned (strV (byteT b)) ∧ Below w.heap.size w w' := by
  obtain ⟨p, hp⟩ : ∃ p, p = plainC b := ⟨_, rfl⟩
  obtain ⟨T, hT⟩ : ∃ T, T = byteT b := ⟨_, rfl⟩
  rw [← hT]
  have HP := Lib.hid hp
  have HT := Lib.hid hT
  clear hp hT
  cases p
  · have HX := Lib.hid (show T = [92, 120] ++ [hexd (b.toNat / 16), hexd (b.toNat % 16)] by rw [HT.out]; unfold byteT; rw [← HP.out]; rfl)
    have i1 : 0 ≤ b % 16 := by omega
    have i2 : b % 16 < 16 := by omega
    have i3 : 0 ≤ b / 16 := by omega
    have i4 : b / 16 < 16 := by omega
    have hq1 : b.tdiv 16 = b / 16 := Int.tdiv_eq_ediv_of_nonneg h0
    have hq2 : b.tmod 16 = b % 16 := Int.tmod_eq_emod_of_nonneg h0
    have x1 : ∀ h', (⟨#[48, 49, 50, 51, 52, 53, 54, 55, 56, 57, 97, 98, 99, 100, 101, 102]⟩ : ByteArray)[(b / 16).toNat]'h' = hexd (b.toNat / 16) := fun h' => by rw [hex_at _ (by omega)]; congr 1; omega
    have x2 : ∀ h', (⟨#[48, 49, 50, 51, 52, 53, 54, 55, 56, 57, 97, 98, 99, 100, 101, 102]⟩ : ByteArray)[(b % 16).toNat]'h' = hexd (b.toNat % 16) := fun h' => by rw [hex_at _ (by omega)]; congr 1; omega
    generalize hexd (b.toNat / 16) = d1 at *
    generalize hexd (b.toNat % 16) = d2 at *
    have hc1 := conv2 w (w.drew.alloc (.cells #[.int .u8 d1.toNat, .int .u8 d2.toNat] 5)) d1 d2 (heap_alloc_new w.drew _)
    have hc2 := conv2 w (w.alloc (.cells #[.int .u8 d1.toNat, .int .u8 d2.toNat] 5)).drew d1 d2 (heap_alloc_new w _)
    have hc3 := conv2 w (w.alloc (.cells #[.int .u8 d1.toNat, .int .u8 d2.toNat] 5)) d1 d2 (heap_alloc_new w _)
    have ha := fun w => str_add [92, 120] [d1, d2] (by simp) w
    go_enter Tryd.func87, Tryd.ntmps87
    go_wp2_with fail
    refine (refplain_any b _).mono ?_
    rintro e w1 ⟨rfl, rfl⟩
    rw [← HP.out]
    go_wp2_with fail
    go_region
    all_goals
      go_wp2
      go_ret
      exact ⟨by rw [HX.out]; rfl, by first | exact (alloc_below _ _).drew | exact ((Below.refl _ _).drew.alloc (Nat.le_refl _) _) | exact alloc_below _ _⟩
  · have HX := Lib.hid (show T = [UInt8.ofNat b.toNat] by rw [HT.out]; unfold byteT; rw [← HP.out]; rfl)
    have hw : IntKind.u8.wrap b = b := by rw [IntKind.wrap_u8]; omega
    have hc := fun w => conv1 w (UInt8.ofNat b.toNat) b (u8_of h0 h256).symm
    go_enter Tryd.func87, Tryd.ntmps87
    go_wp2_with fail
    refine (refplain_any b _).mono ?_
    rintro e w1 ⟨rfl, rfl⟩
    rw [← HP.out]
    go_wp2
    go_ret
    exact ⟨by rw [HX.out]; rfl, alloc_below _ _⟩
set_option maxRecDepth 100000 in
theorem runsAt_below {w w' : World} {g n : Nat} {r : List Int} (h : RunsAt w g n r) (hg : g < w.heap.size) (hb : Below w.heap.size w w') : RunsAt w' g n r := by
  obtain ⟨cur, h1, h2⟩ := h
  exact ⟨cur, (hb.block g hg).trans h1, fun i hi => ⟨(hb.cell (p := ⟨g, _, none⟩) hg).trans (h2 i hi).1, (hb.cell (p := ⟨g, _, none⟩) hg).trans (h2 i hi).2⟩⟩
set_option maxRecDepth 100000 in
set_option maxHeartbeats 4000000 in
theorem refbytes_any (f : Nat → Int) (hf : Wf f) (hne : eqS f z0 = false) (w : World) : Calls Tryd.prog 65 #[SV f] w fun e w' => e = .returned (strV (setT f)) ∧ Below w.heap.size w w' := by
  have hp := runs_pos hf hne
  have HOK := Lib.hid (rn_set f).ok
  have hN256 : runsN f ≤ 256 := runsN_le f
  obtain ⟨T, hT⟩ : ∃ T, T = setT f := ⟨_, rfl⟩
  rw [← hT]
  have HT := Lib.hid hT
  have HSL := Lib.hid (setT_len f)
  clear hne hT
  go_enter Tryd.func65, Tryd.ntmps65
  go_wp2_with fail
  refine (refruns_any f _).mono ?_
  rintro e w1 ⟨vr, rfl, hr1, hb1⟩
  obtain ⟨g, cap, rfl, hg1, HR1⟩ := runsAt_of hr1 hp
  have HR1 := Lib.hid HR1
  have hB1 := box_below hb1
  clear hb1 hr1
  have hp1 : (0 : Int) < (runsN f : Int) := by omega
  have key : ∃ wd, Below w.heap.size w wd ∧ True := ⟨w1, hB1, trivial⟩
  clear key
  by_cases hone : oneB f = true
  · have HX := Lib.hid (show T = byteT (lo (runsS f) 0) by rw [HT.out]; unfold setT; rw [if_pos hone])
    have hoo := hone
    simp only [oneB, Bool.and_eq_true, decide_eq_true_eq] at hoo
    obtain ⟨o1, o2, o3⟩ := HOK.out 0 hp
    have o1' : 0 ≤ lo (runsS f) 0 := o1
    have o2' : lo (runsS f) 0 < 256 := Int.lt_of_le_of_lt o2 o3
    obtain ⟨_, _, hcc⟩ := HR1.out
    obtain ⟨c0, c1⟩ := hcc 0 hp
    rw [Nat.zero_mul] at c0 c1
    rw [← hoo.2] at c1
    have hn1 := hoo.1
    clear hcc o1 o2 o3 hone
    obtain ⟨_, hl⟩ := hoo
    clear hl
    generalize lo (runsS f) 0 = x at *
    rw [hn1]
    go_wp2_with fail
    go_quiet (fail)
    have hBd : Below w.heap.size w (w1.drewN nq) := below_drewN hB1 _
    have hBe : Below w1.heap.size w1 (w1.drewN nq) := below_drewN (Below.refl _ _) _
    have c0' := (hBe.cell (p := ⟨g, 0, none⟩) hg1).trans c0
    generalize w1.drewN nq = wd at *
    go_wp2_with fail
    refine (refchar_any x o1' o2' _).mono ?_
    rintro e w2 ⟨rfl, hb2⟩
    have HB2 := Lib.hid (hBd.trans (hb2.mono hBd.size))
    clear hb2
    go_wp2
    go_ret
    exact ⟨by rw [HX.out]; rfl, HB2.out⟩
  · have HX := Lib.hid (show T = [91] ++ catTo (runT (runsS f)) (runsN f) ++ [93] by rw [HT.out]; unfold setT; rw [if_neg hone])
    have hcs : runsN f ≠ 1 ∨ (runsN f = 1 ∧ lo (runsS f) 0 ≠ hi (runsS f) 0) := by
      simp only [oneB, Bool.and_eq_true, decide_eq_true_eq, not_and] at hone
      by_cases q : runsN f = 1
      · exact Or.inr ⟨q, hone q⟩
      · exact Or.inl q
    clear hone
    rcases hcs with hn1 | ⟨hn1, hlh⟩
    · have hq : ((runsN f : Int) == 1) = false := by simp; omega
      go_wp2_with fail
      go_quiet (fail)
      have hBd : Below w.heap.size w (w1.drewN nq) := below_drewN hB1 _
      have HRd := Lib.hid (runsAt_below HR1.out hg1 (below_drewN (Below.refl _ _) nq : Below w1.heap.size w1 (w1.drewN nq)))
      have hgd : g < (w1.drewN nq).heap.size := Nat.lt_of_lt_of_le hg1 (below_drewN (Below.refl w1.heap.size w1) nq).size
      generalize w1.drewN nq = wd at *
      skip
      go_wp2
      go_loopw [4, 5] (fun vt c wr => ∃ j : Nat, j ≤ runsN f ∧ c = .int .i64 j ∧ Hid (vt = strV ([91] ++ catTo (runT (runsS f)) j)) ∧ Below wd.heap.size wd wr) (fun _ c _ => runsN f - (intOf c).toNat)
      case atStart => exact ⟨0, by omega, rfl, Lib.hid rfl, Below.refl _ _⟩
      case round =>
        obtain ⟨j, hj, rfl, HV, hb⟩ := hrel
        obtain rfl := HV.out
        have HCL := Lib.hid (show ([91] ++ catTo (runT (runsS f)) j).length ≤ 2400 by
          have h1 := catTo_len (runT_len (runsS f)) j; simp only [List.length_append, List.length_cons, List.length_nil]; omega)
        by_cases hlt : j < runsN f
        · obtain ⟨_, _, hcc⟩ := runsAt_below HRd.out hgd hb
          obtain ⟨c0, c1⟩ := hcc j hlt
          obtain ⟨o1, o2, o3⟩ := HOK.out j hlt
          have o1' : 0 ≤ lo (runsS f) j := o1
          have o2' : lo (runsS f) j ≤ hi (runsS f) j := o2
          have o3' : hi (runsS f) j < 256 := o3
          have HSTEP := Lib.hid (show catTo (runT (runsS f)) (j + 1) = catTo (runT (runsS f)) j ++ (byteT (lo (runsS f) j) ++ (if lo (runsS f) j < hi (runsS f) j then [45] ++ byteT (hi (runsS f) j) else [])) from rfl)
          have HCC := Lib.hid hcc
          clear hcc o1 o2 o3
          generalize hlx : lo (runsS f) j = x at *
          generalize hhx : hi (runsS f) j = y at *
          generalize hcl : [91] ++ catTo (runT (runsS f)) j = cl at *
          have HCLE := Lib.hid (And.intro hcl (And.intro hlx hhx))
          clear hcl hlx hhx
          have i1 : (j : Int) < (runsN f : Int) := by omega
          have ha1 := fun w => str_add cl (byteT x) (by have := HCL.out; have := byteT_len x; omega) w
          go_wp2_with fail
          refine (refchar_any x o1' (by omega) _).mono ?_
          rintro e w3 ⟨rfl, hb3⟩
          have hB3 := hb.trans (hb3.mono hb.size)
          have e0 := (hb3.cell (p := ⟨g, j * 2, none⟩) (Nat.lt_of_lt_of_le hgd hb.size)).trans c0
          have e1 := (hb3.cell (p := ⟨g, j * 2 + 1, none⟩) (Nat.lt_of_lt_of_le hgd hb.size)).trans c1
          clear hb3 c0 c1 hb
          by_cases hxy : x < y
          · have HS2 := Lib.hid (show [91] ++ catTo (runT (runsS f)) (j + 1) = ((cl ++ byteT x) ++ [45]) ++ byteT y by rw [HSTEP.out, if_pos hxy, ← HCLE.out.1]; simp)
            have ha2 := fun w => str_add (cl ++ byteT x) [45] (by have := HCL.out; have := byteT_len x; simp; omega) w
            have ha3 := fun w => str_add ((cl ++ byteT x) ++ [45]) (byteT y) (by have := HCL.out; have := byteT_len x; have := byteT_len y; simp; omega) w
            go_wp2_with fail
            go_quiet (fail)
            have hB4 : Below wd.heap.size wd (w3.drewN nq) := below_drewN hB3 _
            have hE4 : Below w3.heap.size w3 (w3.drewN nq) := below_drewN (Below.refl _ _) _
            have g1 := (hE4.cell (p := ⟨g, j * 2 + 1, none⟩) (Nat.lt_of_lt_of_le hgd hB3.size)).trans e1
            generalize w3.drewN nq = w4 at *
            clear hE4 e0 e1
            generalize hcm : (cl ++ byteT x) ++ [45] = cm at *
            go_wp2_with fail
            refine (refchar_any y (by omega) o3' _).mono ?_
            rintro e w5 ⟨rfl, hb5⟩
            have HB5 := Lib.hid (hB4.trans (hb5.mono hB4.size))
            clear hb5
            go_wp2
            go_roundw
            case rel => exact ⟨j + 1, by omega, by go_num, Lib.hid (by rw [HS2.out]), HB5.out⟩
            case measure => simp [intOf]; omega
          · have HS2 := Lib.hid (show [91] ++ catTo (runT (runsS f)) (j + 1) = cl ++ byteT x by rw [HSTEP.out, if_neg hxy, ← HCLE.out.1]; simp)
            go_wp2_with fail
            go_quiet (fail)
            go_wp2
            go_roundw
            case rel => exact ⟨j + 1, by omega, by go_num, Lib.hid (by rw [HS2.out]), below_drewN hB3 _⟩
            case measure => simp [intOf]; omega
        · obtain rfl : j = runsN f := by omega
          have ha4 := fun w => str_add ([91] ++ catTo (runT (runsS f)) (runsN f)) [93] (by have := HCL.out; simp only [List.length_cons, List.length_nil] at this ⊢; omega) w
          generalize hcl : [91] ++ catTo (runT (runsS f)) (runsN f) = cl at *
          go_wp2
          go_ret
          exact ⟨by rw [HX.out]; rfl, hBd.trans (hb.mono hBd.size)⟩
    · have hq : (lo (runsS f) 0 == hi (runsS f) 0) = false := by simp [hlh]
      obtain ⟨_, _, hcc⟩ := HR1.out
      obtain ⟨c0, c1⟩ := hcc 0 hp
      rw [Nat.zero_mul] at c0 c1
      clear hcc
      have hq1 : ((runsN f : Int) == 1) = true := by simp; omega
      go_wp2_with fail
      go_quiet (fail)
      have hBd : Below w.heap.size w (w1.drewN nq) := below_drewN hB1 _
      have HRd := Lib.hid (runsAt_below HR1.out hg1 (below_drewN (Below.refl _ _) nq : Below w1.heap.size w1 (w1.drewN nq)))
      have hgd : g < (w1.drewN nq).heap.size := Nat.lt_of_lt_of_le hg1 (below_drewN (Below.refl w1.heap.size w1) nq).size
      generalize w1.drewN nq = wd at *
      clear c0 c1
      go_wp2
      go_loopw [4, 5] (fun vt c wr => ∃ j : Nat, j ≤ runsN f ∧ c = .int .i64 j ∧ Hid (vt = strV ([91] ++ catTo (runT (runsS f)) j)) ∧ Below wd.heap.size wd wr) (fun _ c _ => runsN f - (intOf c).toNat)
      case atStart => exact ⟨0, by omega, rfl, Lib.hid rfl, Below.refl _ _⟩
      case round =>
        obtain ⟨j, hj, rfl, HV, hb⟩ := hrel
        obtain rfl := HV.out
        have HCL := Lib.hid (show ([91] ++ catTo (runT (runsS f)) j).length ≤ 2400 by
          have h1 := catTo_len (runT_len (runsS f)) j; simp only [List.length_append, List.length_cons, List.length_nil]; omega)
        by_cases hlt : j < runsN f
        · obtain ⟨_, _, hcc⟩ := runsAt_below HRd.out hgd hb
          obtain ⟨c0, c1⟩ := hcc j hlt
          obtain ⟨o1, o2, o3⟩ := HOK.out j hlt
          have o1' : 0 ≤ lo (runsS f) j := o1
          have o2' : lo (runsS f) j ≤ hi (runsS f) j := o2
          have o3' : hi (runsS f) j < 256 := o3
          have HSTEP := Lib.hid (show catTo (runT (runsS f)) (j + 1) = catTo (runT (runsS f)) j ++ (byteT (lo (runsS f) j) ++ (if lo (runsS f) j < hi (runsS f) j then [45] ++ byteT (hi (runsS f) j) else [])) from rfl)
          have HCC := Lib.hid hcc
          clear hcc o1 o2 o3
          generalize hlx : lo (runsS f) j = x at *
          generalize hhx : hi (runsS f) j = y at *
          generalize hcl : [91] ++ catTo (runT (runsS f)) j = cl at *
          have HCLE := Lib.hid (And.intro hcl (And.intro hlx hhx))
          clear hcl hlx hhx
          have i1 : (j : Int) < (runsN f : Int) := by omega
          have ha1 := fun w => str_add cl (byteT x) (by have := HCL.out; have := byteT_len x; omega) w
          go_wp2_with fail
          refine (refchar_any x o1' (by omega) _).mono ?_
          rintro e w3 ⟨rfl, hb3⟩
          have hB3 := hb.trans (hb3.mono hb.size)
          have e0 := (hb3.cell (p := ⟨g, j * 2, none⟩) (Nat.lt_of_lt_of_le hgd hb.size)).trans c0
          have e1 := (hb3.cell (p := ⟨g, j * 2 + 1, none⟩) (Nat.lt_of_lt_of_le hgd hb.size)).trans c1
          clear hb3 c0 c1 hb
          by_cases hxy : x < y
          · have HS2 := Lib.hid (show [91] ++ catTo (runT (runsS f)) (j + 1) = ((cl ++ byteT x) ++ [45]) ++ byteT y by rw [HSTEP.out, if_pos hxy, ← HCLE.out.1]; simp)
            have ha2 := fun w => str_add (cl ++ byteT x) [45] (by have := HCL.out; have := byteT_len x; simp; omega) w
            have ha3 := fun w => str_add ((cl ++ byteT x) ++ [45]) (byteT y) (by have := HCL.out; have := byteT_len x; have := byteT_len y; simp; omega) w
            go_wp2_with fail
            go_quiet (fail)
            have hB4 : Below wd.heap.size wd (w3.drewN nq) := below_drewN hB3 _
            have hE4 : Below w3.heap.size w3 (w3.drewN nq) := below_drewN (Below.refl _ _) _
            have g1 := (hE4.cell (p := ⟨g, j * 2 + 1, none⟩) (Nat.lt_of_lt_of_le hgd hB3.size)).trans e1
            generalize w3.drewN nq = w4 at *
            clear hE4 e0 e1
            generalize hcm : (cl ++ byteT x) ++ [45] = cm at *
            go_wp2_with fail
            refine (refchar_any y (by omega) o3' _).mono ?_
            rintro e w5 ⟨rfl, hb5⟩
            have HB5 := Lib.hid (hB4.trans (hb5.mono hB4.size))
            clear hb5
            go_wp2
            go_roundw
            case rel => exact ⟨j + 1, by omega, by go_num, Lib.hid (by rw [HS2.out]), HB5.out⟩
            case measure => simp [intOf]; omega
          · have HS2 := Lib.hid (show [91] ++ catTo (runT (runsS f)) (j + 1) = cl ++ byteT x by rw [HSTEP.out, if_neg hxy, ← HCLE.out.1]; simp)
            go_wp2_with fail
            go_quiet (fail)
            go_wp2
            go_roundw
            case rel => exact ⟨j + 1, by omega, by go_num, Lib.hid (by rw [HS2.out]), below_drewN hB3 _⟩
            case measure => simp [intOf]; omega
        · obtain rfl : j = runsN f := by omega
          have ha4 := fun w => str_add ([91] ++ catTo (runT (runsS f)) (runsN f)) [93] (by have := HCL.out; simp only [List.length_cons, List.length_nil] at this ⊢; omega) w
          generalize hcl : [91] ++ catTo (runT (runsS f)) (runsN f) = cl at *
          go_wp2
          go_ret
          exact ⟨by rw [HX.out]; rfl, hBd.trans (hb.mono hBd.size)⟩
end Go.Proofs.YtnfchlkdppblfaaDoor
