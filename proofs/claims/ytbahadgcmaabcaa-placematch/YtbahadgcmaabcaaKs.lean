/- The law PlaceMatch: the walk. -/
import Derived.Test.YtbahadgcmaabcaaKr
import Derived.Test.YtbahadgcmaabcaaGl
import Derived.Test.YtbahadgcmaabcaaEk
import Derived.Deep.AppendLies
import Derived.IntWalk
namespace Go.Proofs.Ytbahadgcmaabcaa
open Go.RowKit Go
theorem size_zero {S : ByteArray} : S.size = 0 ↔ S = ⟨#[]⟩ := by
  constructor
  · intro h
    obtain ⟨d⟩ := S
    have : d = #[] := Array.eq_empty_of_size_eq_zero h
    rw [this]
  · rintro rfl; rfl
theorem loop_ne (bs : ByteArray) : ∀ (m i : Nat) (r : List UInt8), bs.size - i = m → r ≠ [] → ByteArray.toList.loop bs i r ≠ [] := by
  intro m
  induction m with
  | zero =>
    intro i r hm hr
    rw [ByteArray.toList.loop, if_neg (by omega)]
    simpa using hr
  | succ m ih =>
    intro i r hm hr
    rw [ByteArray.toList.loop, if_pos (by omega)]
    exact ih _ _ (by omega) (by simp)
theorem toList_nil (S : ByteArray) : S.toList.isEmpty = decide (S.size = 0) := by
  by_cases h : S.size = 0
  · rw [decide_eq_true h]
    unfold ByteArray.toList
    rw [ByteArray.toList.loop, if_neg (by omega)]
    rfl
  · rw [decide_eq_false h]
    have : S.toList ≠ [] := by
      unfold ByteArray.toList
      rw [ByteArray.toList.loop, if_pos (by omega)]
      exact loop_ne S _ _ _ rfl (by simp)
    cases hs : S.toList with
    | nil => exact absurd hs this
    | cons => rfl
theorem isL_at9 {l : List Int} {p : Nat → Bool} {N : Nat} (h : IsL l p) (hp : ∀ i, p i = true → i < N) {k : Nat} (hk : k < l.length) : ∃ q : Nat, l.getD k 0 = q ∧ q < N ∧ p q = true := by
  have e : l.getD k 0 = l[k] := by rw [List.getD_eq_getElem?_getD, List.getElem?_eq_getElem hk]; rfl
  obtain ⟨q, hq, hpq⟩ := (h.2 l[k]).1 (List.getElem_mem hk)
  exact ⟨q, by rw [e, hq], hp q hpq, hpq⟩
set_option maxRecDepth 100000 in
set_option maxHeartbeats 4000000 in
theorem plmatch_walk (a a2 : Option Addr) (n cap n2 cap2 : Nat) (F0 F2 : Nat → Int) (w : World) (h : ByteRow w a n F0) (hF : ∀ i, 0 ≤ F0 i ∧ F0 i < 256) (hn : n ≤ cap) (hc : cap ≤ maxLen) (h2 : ByteRow w a2 n2 F2) (hF2 : ∀ i, 0 ≤ F2 i ∧ F2 i < 256) (hn2 : n2 ≤ cap2) (hc2 : cap2 ≤ maxLen) : Calls Try.prog 7 #[.slice a n cap, .slice a2 n2 cap2] w fun e w' => e = .returned (.bool true) ∧ Below w.heap.size w w' := by
  have HMD : Hid (∀ w1, Below w.heap.size w w1 → Calls Try.prog 11 #[.slice a n cap] w1 (MadeI w1)) := Lib.hid fun w1 hb => made_any w1 a n cap F0 (h.below hb) hF hn hc
  have HTX : Hid (∀ w1, Below w.heap.size w w1 → Calls Try.prog 15 #[.slice a2 n2 cap2] w1 fun e w' => ∃ S : ByteArray, e = .returned (.string S) ∧ S.size ≤ 12 ∧ Below w1.heap.size w1 w') := Lib.hid fun w1 hb => text_any a2 n2 cap2 F2 w1 (h2.below hb) hF2 (by unfold maxLen at hc2; omega)
  have HAW := Lib.hid (awake9_any w)
  clear h hF hn hc h2 hF2 hn2 hc2
  go_enter Try.func7, Try.ntmps7
  go_wp2_with fail
  refine HAW.out.mono ?_
  rintro e w1 ⟨rfl, hb1⟩
  have HB1 := Lib.hid hb1
  clear hb1 HAW
  go_wp2_with fail
  refine (HMD.out w1 HB1.out).mono ?_
  rintro e w2 ⟨T, rfl, hok, hsz, hcs, hL, hb2⟩
  have HB2 := Lib.hid (HB1.out.trans (hb2.mono HB1.out.size))
  have HL2 := Lib.hid hL
  have HRT := Lib.hid (made_right hok hsz hcs.1)
  have HFT := Lib.hid (fit_of_ok hok)
  have HSZ := Lib.hid hsz
  clear hb2 hL hok hsz hcs HB1 HMD
  go_wp2_with fail
  refine (HTX.out w2 HB2.out).mono ?_
  rintro e w2' ⟨S, rfl, hS12, hb2'⟩
  have hb3 := alloc_below w2' (.cells (row8 T.k T.s T.lo T.hi (.slice T.a T.n T.cap)) 27)
  have HB3 := Lib.hid (HB2.out.trans ((hb2'.trans (hb3.mono hb2'.size)).mono HB2.out.size))
  have HX3 := Lib.hid (heap_alloc_new w2' (.cells (row8 T.k T.s T.lo T.hi (.slice T.a T.n T.cap)) 27))
  have HL3 := Lib.hid ((HL2.out.now hb2').now hb3)
  clear hb2' hb3 HB2 HL2 HTX
  go_upto_region 5 with fail
  obtain ⟨w3, hw⟩ : ∃ x, x = w2'.alloc (.cells (row8 T.k T.s T.lo T.hi (.slice T.a T.n T.cap)) 27) := ⟨_, rfl⟩
  obtain ⟨p, hp⟩ : ∃ q, q = w2'.heap.size := ⟨_, rfl⟩
  rw [← hw] at HB3 HL3
  rw [← hw, ← hp] at HX3
  rw [← hw, ← hp]
  clear hw hp
  have HP := Lib.hid (placeOf_any T w3 HL3.out)
  unfold OfE at HP
  rw [HRT.out, if_pos rfl, if_pos rfl, show T.val = nodeV T.k T.s T.lo T.hi (.slice T.a T.n T.cap) from rfl] at HP
  obtain ⟨x0, x1, x2, x3, x4, x5, x6, x7⟩ := cell8 HX3.out
  go_wp2_with fail
  refine HP.out.mono ?_
  rintro e w4 ⟨v, rfl, hV, hb4⟩
  have hN : (plT T).n = sz T := plT_n T HFT.out
  obtain ⟨P, hP⟩ : ∃ P, P = plT T := ⟨_, rfl⟩
  have HMT : Hid (∀ W, Below w3.heap.size w3 W → Calls Try.prog 18 #[nodeV T.k T.s T.lo T.hi (.slice T.a T.n T.cap), .string S] W fun e w' => e = .returned (.bool (finB (nx S) P S.size)) ∧ Below W.heap.size W w') := Lib.hid fun W hb => (refmatch_any S T W (HL3.out.now hb)).mono (by
    rintro e w' ⟨b, rfl, hbm, hb⟩
    refine ⟨?_, hb⟩
    have : b = finB (nx S) P S.size := by
      rw [Bool.eq_iff_iff, hbm, fin_iff (hP ▸ plT_ok T), hP, ← mt_ac (nx S) S.size T HFT.out]
      exact ⟨fun h => h.2.2, fun h => ⟨HRT.out, by omega, h⟩⟩
    rw [this])
  have hN40 : P.n ≤ 40 := by have := HSZ.out; rw [hP, hN]; omega
  rw [← hP] at hV
  clear hP hN HP HSZ HFT HRT HL3
  obtain ⟨vs, vf, vl, vo, lf, ll, us, F, rfl, hX⟩ := hV
  have HX := Lib.hid hX
  obtain ⟨a1, c1, rfl, -⟩ := hX.sets
  obtain ⟨af, cf, rfl, -⟩ := hX.ffi
  obtain ⟨al, cl, rfl, -⟩ := hX.fla
  obtain ⟨ao, co, rfl, -⟩ := hX.rows
  obtain ⟨nu, hnu⟩ : ∃ b, b = P.nu := ⟨_, rfl⟩
  rw [← hnu]
  have HNU := Lib.hid hnu
  have hb5 := alloc_below w4 (.cells (pl5 (.slice a1 P.n c1) (.slice af lf.length cf) (.slice al ll.length cl) (.slice ao P.n co) nu) 40)
  have HR5 := Lib.hid (heap_alloc_new w4 (.cells (pl5 (.slice a1 P.n c1) (.slice af lf.length cf) (.slice al ll.length cl) (.slice ao P.n co) nu) 40))
  have HX5 := Lib.hid (HX.out.below hb5)
  have HW5 := Lib.hid (hb4.trans (hb5.mono hb4.size))
  clear hX HX hb4 hb5 hnu x0 x1 x2 x3 x4 x5 x6 x7
  go_upto_region 6 with fail
  obtain ⟨w5, hw⟩ : ∃ x, x = w4.alloc (.cells (pl5 (.slice a1 P.n c1) (.slice af lf.length cf) (.slice al ll.length cl) (.slice ao P.n co) nu) 40) := ⟨_, rfl⟩
  obtain ⟨r, hr⟩ : ∃ q, q = w4.heap.size := ⟨_, rfl⟩
  rw [← hw] at HX5 HW5
  rw [← hw, ← hr] at HR5
  rw [← hw, ← hr]
  clear hw hr
  have HBW := Lib.hid (HB3.out.trans (HW5.out.mono HB3.out.size))
  have HX0 := Lib.hid ((HW5.out.block _ (lt_heap HX3.out)).trans HX3.out)
  obtain ⟨y0, y1, y2, y3, y4⟩ := cell5 HR5.out
  clear HX3 HB3
  go_upto_region 8 with fail
  obtain ⟨fin, hfin⟩ : ∃ b, b = finB (nx S) P S.size := ⟨_, rfl⟩
  rw [← hfin] at HMT
  have HFIN := Lib.hid hfin
  clear hfin
  go_cut [10] from 41 to 46 (fun cv wc => cv = .bool (decide (0 = S.size) && fin) ∧ wc = w5)
  case first =>
    cases nu
    · go_wp2
      go_meet
      refine ⟨?_, rfl⟩
      by_cases h0 : 0 = S.size
      · rw [HFIN.out, finB, if_pos h0.symm, ← HNU.out, Bool.and_false]
      · rw [decide_eq_false h0, Bool.false_and]
    · go_wp2
      go_meet
      refine ⟨?_, rfl⟩
      rw [toList_nil]
      by_cases h0 : 0 = S.size
      · rw [HFIN.out, finB, if_pos h0.symm, ← HNU.out, Bool.and_true, decide_eq_true h0, decide_eq_true h0.symm]
      · rw [decide_eq_false h0, Bool.false_and, decide_eq_false (fun e => h0 e.symm)]
  case rest =>
  obtain ⟨rfl, rfl⟩ := hcut
  clear HNU y0 y1 y2 y3 y4
  obtain ⟨y0, y1, y2, y3, y4⟩ := cell5 HR5.out
  go_upto_region 11 with fail
  clear y0 y1 y2 y3 y4
  have hp5 : p < wc.heap.size := lt_heap HX0.out
  have hr5 : r < wc.heap.size := lt_heap HR5.out
  go_loopw [10, 11, 12] (fun s v c wr => ∃ (i : Nat) (l : List Int), i ≤ S.size ∧ c = .int .i64 i ∧ s = .bool (decide (i = S.size) && fin) ∧ Hid (IL wr v l) ∧ Hid (IsL l (nbB (nx S) P i)) ∧ Hid (Below wc.heap.size wc wr)) (fun _ _ c _ => S.size - (intOf c).toNat)
  case atStart => exact ⟨0, lf, by omega, rfl, rfl, Lib.hid HX5.out.ffi, Lib.hid HX5.out.sfi, Lib.hid (Below.refl _ _)⟩
  case round =>
    obtain ⟨i, l, hi, rfl, rfl, HIL, HISL, HS⟩ := hrel
    by_cases hlt : i < S.size
    · have hlt' : (i : Int) < (S.size : Int) := by omega
      have hne : decide (i = S.size) = false := decide_eq_false (by omega)
      rw [hne, Bool.false_and]
      obtain ⟨b, d, rfl, -⟩ := HIL.out
      have hll := HISL.out.len (n := P.n) fun j hj => by
        cases hq : nbB (nx S) P i j
        · rfl
        · have := nbB_lt HX5.out.ok hq; omega
      go_upto_region 15 with fail
      obtain ⟨w7, hw7⟩ : ∃ x, x = wr := ⟨_, rfl⟩
      rw [← hw7] at HIL HS ⊢
      clear hw7
      go_loopw [13, 14, 15] (fun v t c wq => ∃ (k : Nat) (nw lt : List Int), k ≤ l.length ∧ c = .int .i64 k ∧ Hid (TwI w7 v t nw lt wq) ∧ Hid (nw = nwL (nx S) P i (l.take k)) ∧ Hid (IsL lt (thB (nx S) P i (l.take k)))) (fun _ _ c _ => l.length - (intOf c).toNat)
      case atStart => exact ⟨0, [], [], by omega, rfl, Lib.hid (TwI.start w7), Lib.hid rfl, Lib.hid (isL_nil fun _ => rfl)⟩
      case round =>
        obtain ⟨k, nw, lt, hk, rfl, HT, HNW, HLT⟩ := hrel
        by_cases hkt : k < l.length
        · obtain ⟨q, hq1, hq2, hq3⟩ := isL_at9 HISL.out (fun j hj => nbB_lt HX5.out.ok hj) hkt
          have hkt' : (k : Int) < (l.length : Int) := by omega
          have hbq := HT.out.bel
          have HSQ := Lib.hid (HS.out.trans (hbq.mono HS.out.size))
          obtain ⟨g2, o2, k2, he2, hg2, z7⟩ := il_cells2 HIL.out (Below.refl _ _) hkt
          injection he2 with e1 _ e3
          subst e1
          rw [hq1] at z7
          have z1 := (hbq.cell (p := ⟨g2, o2 + k, none⟩) hg2).trans z7
          obtain ⟨av, cv, rfl⟩ := row_slice HT.out.own
          obtain ⟨at', ct, rfl, -⟩ := HT.out.il
          have hnw : nw.length ≤ 40 := by
            have h1 : nw.length ≤ (l.take k).length := by rw [HNW.out]; exact List.length_filter_le _ _
            have h2 := List.length_take_le k l
            omega
          have hlt2 := HLT.out.len (n := P.n) fun j hj => by
            cases hq : thB (nx S) P i (l.take k) j
            · rfl
            · obtain ⟨x, hx, h1⟩ := List.any_eq_true.1 hq
              simp only [Bool.and_eq_true] at h1
              have h3 := h1.2
              rw [HX5.out.ok.fo _ j (Or.inr hj)] at h3
              cases h3
          have hd1 : decide ((q : Int) < 0) = false := decide_eq_false (by omega)
          have hd2 : decide ((P.n : Int) ≤ (q : Int)) = false := decide_eq_false (by omega)
          have hd2' : decide (P.n ≤ q) = false := decide_eq_false (by omega)
          obtain ⟨y0, y1, y2, y3, y4⟩ := cell5 ((HSQ.out.block _ hr5).trans HR5.out)
          have hg3 : g2 < wr.heap.size := Nat.lt_of_lt_of_le hg2 hbq.size
          have hr3 : r < wr.heap.size := Nat.lt_of_lt_of_le hr5 HSQ.out.size
          clear e3 hbq
          go_wp2_with fail
          go_quiet (fail)
          go_wp2_with fail
          obtain ⟨gs, os, cs, hes, u0, u1, u2, u3⟩ := HX5.out.sets.cells HSQ.out hq2
          injection hes with e1 _ e3
          have HE1 := Lib.hid e1
          clear e1 e3
          have HKP : Hid (∀ W, Below wr.heap.size wr W → W.cell? ⟨r, 0, none⟩ = some (.slice (some ⟨gs, os, none⟩) P.n c1) ∧ W.cell? ⟨g2, o2 + k, none⟩ = some (.int .i64 q) ∧ W.cell? ⟨gs, os + q * 4, none⟩ = some (.int .u64 (P.set q 0)) ∧ W.cell? ⟨gs, os + q * 4 + 1, none⟩ = some (.int .u64 (P.set q 1)) ∧ W.cell? ⟨gs, os + q * 4 + 2, none⟩ = some (.int .u64 (P.set q 2)) ∧ W.cell? ⟨gs, os + q * 4 + 3, none⟩ = some (.int .u64 (P.set q 3))) := Lib.hid fun W h => by
            refine ⟨(h.cell (p := ⟨r, 0, none⟩) hr3).trans (by rw [y0, HE1.out]), (h.cell (p := ⟨g2, o2 + k, none⟩) hg3).trans z1, ?_⟩
            obtain ⟨gs', os', cs', hes', v0, v1, v2, v3⟩ := HX5.out.sets.cells (HSQ.out.trans (h.mono HSQ.out.size)) hq2
            injection hes' with e1' _ _
            rw [HE1.out] at e1'
            injection e1' with e1'
            injection e1' with e1' e2'
            subst e1' e2'
            exact ⟨v0, v1, v2, v3⟩
          have HB0 : ∀ m, Below wr.heap.size wr (wr.drewN m) := fun m => below_drewN (Below.refl _ _) m
          have HW : Hid (IntKind.i64.wrap (S[i].toNat : Int) = (S[i].toNat : Int)) := Lib.hid (IntWalk.i64_in _ (by have := S[i].toNat_lt; omega))
          clear u0 u1 u2 u3 y1 y2 y4
          go_region_held3 (fun W => W.cell? ⟨r, 0, none⟩ = some (.slice (some ⟨gs, os, none⟩) P.n c1) ∧ W.cell? ⟨g2, o2 + k, none⟩ = some (.int .i64 q) ∧ W.cell? ⟨gs, os + q * 4, none⟩ = some (.int .u64 (P.set q 0)) ∧ W.cell? ⟨gs, os + q * 4 + 1, none⟩ = some (.int .u64 (P.set q 1)) ∧ W.cell? ⟨gs, os + q * 4 + 2, none⟩ = some (.int .u64 (P.set q 2)) ∧ W.cell? ⟨gs, os + q * 4 + 3, none⟩ = some (.int .u64 (P.set q 3)))
            ((first | with_reducible exact HKP.out _ (HB0 _) | with_reducible exact HKP.out _ ((HB0 _).drew) | exact HKP.out _ (HB0 (_ + 1)) | with_reducible exact HKP.out _ HBx))
            (first
              | (go_at_call 16; refine (refhas_any (P.set q) _ _).mono ?_; rintro e wx ⟨rfl, hbx⟩; have HBx : Below wr.heap.size wr wx := (HB0 _).trans hbx)
              | fail)
          obtain ⟨hb, hhb⟩ : ∃ b, b = hasI (P.set q) (nx S i) := ⟨_, rfl⟩
          have e : hasI (P.set q) (IntKind.i64.wrap (S[i].toNat : Int)) = hb := by rw [hhb, nx_in hlt]; exact congrArg _ HW.out
          rw [e]
          have HTx := Lib.hid (HT.out.below HBx)
          have zx := (HBx.cell (p := ⟨g2, o2 + k, none⟩) hg3).trans z1
          have hqn : (l.getD k 0).toNat = q := by rw [hq1]; rfl
          have HHB := Lib.hid hhb
          clear e hhb HKP HB0 HW z1 y0 y3 hd1 hd2 hd2' HBx hg3 hr3
          cases hb with
          | false =>
            go_wp2
            go_roundw
            case rel => exact ⟨k + 1, nw, lt, hkt, by go_num, HTx, Lib.hid (by rw [nw_take_no hkt (by rw [hqn]; exact HHB.out.symm)]; exact HNW.out), Lib.hid (HLT.out.congr fun r => (th_take_no hkt (by rw [hqn]; exact HHB.out.symm) r).symm)⟩
            case measure => simp [intOf]; omega
          | true =>
            obtain ⟨i0, hi0, hz0, hz1, hz2⟩ := info_parts info3
            have hszx := HTx.out.bel.size
            have HOW := Lib.hid HTx.out.own
            have HXA := Lib.hid (alloc_below wx (.cells #[.int .i64 (q : Int)] 3))
            go_upto_region 21 with (at_builtin; refine wpList_append_lies _ rfl (.tmp 89) (.tmp 94) 37 rfl w7.heap.size 3 i0 (.int .i64 0) 1 8 Try.underlying37 hi0 hz0 hz1 hz2 rfl (by decide) _ _ _ rfl (HOW.out.alloc _) ⟨wx.heap.size, 0, none⟩ 1 1 [.int .i64 (q : Int)] rfl rfl (cell_one_new _ _ _) (by simp [Value.oneCell']) (by decide) (by unfold maxLen; omega) (by omega) (by simp; omega) _ rfl ?_; intro g4 cap4 w8 hown8 hgr8 hat8 hlt8; have HT8 := Lib.hid (HTx.out.app HXA.out hgr8 hown8 hat8))
            have HS8 := Lib.hid (HS.out.trans (HT8.out.bel.mono HS.out.size))
            have hr8 : r < w8.heap.size := Nat.lt_of_lt_of_le hr5 HS8.out.size
            have hg8 : g2 < w8.heap.size := Nat.lt_of_lt_of_le hg2 HT8.out.bel.size
            have y8 := (cell5 ((HS8.out.block _ hr5).trans HR5.out)).2.2.2.1
            have z8 := (HT8.out.bel.cell (p := ⟨g2, o2 + k, none⟩) hg2).trans z7
            obtain ⟨go, oo, co', heo, hgo, t0⟩ := HX5.out.rows.cells HS8.out hq2
            injection heo with e1 _ e3
            rw [e1] at y8
            have hxl := HX5.out.lists q hq2
            have HADD : Hid (∀ W, Below w8.heap.size w8 W → Calls Try.prog 17 #[.slice at' lt.length ct, us q] W (GivesO W (mrg lt (F q)))) := Lib.hid fun W hb => add_own9 lt (F q) _ _ W (HT8.out.il.below hb) (hxl.1.below (HS8.out.trans (hb.mono HS8.out.size))) HLT.out.1 (by have := hxl.2.len (n := P.n) fun j hj => HX5.out.ok.fo q j (Or.inr hj); omega)
            have HIM := Lib.hid (HLT.out.mrg hxl.2)
            obtain ⟨u, hu⟩ : ∃ u, u = us q := ⟨_, rfl⟩
            rw [← hu] at HADD t0
            obtain ⟨au, cu, hform, -⟩ := hxl.1
            rw [← hu] at hform
            rw [hform] at HADD t0
            have hgo8 : go < w8.heap.size := Nat.lt_of_lt_of_le hgo HS8.out.size
            have HKP : Hid (∀ W, Below w8.heap.size w8 W → W.cell? ⟨r, 3, none⟩ = some (.slice (some ⟨go, oo, none⟩) P.n co) ∧ W.cell? ⟨g2, o2 + k, none⟩ = some (.int .i64 q) ∧ W.cell? ⟨go, oo + q, none⟩ = some (.slice au (F q).length cu)) := Lib.hid fun W h => ⟨(h.cell (p := ⟨r, 3, none⟩) hr8).trans y8, (h.cell (p := ⟨g2, o2 + k, none⟩) hg8).trans z8, (h.cell (p := ⟨go, oo + q, none⟩) hgo8).trans t0⟩
            have HB1 : Below w8.heap.size w8 w8.drew := (Below.refl _ _).drew
            clear hown8 hgr8 hat8 hlt8 HOW HXA hszx zx HTx hu hform hxl e1 e3 hi0 hz0 hz1 hz2 y8 z8 t0 hr8 hg8 hgo8
            go_region_held3 (fun W => W.cell? ⟨r, 3, none⟩ = some (.slice (some ⟨go, oo, none⟩) P.n co) ∧ W.cell? ⟨g2, o2 + k, none⟩ = some (.int .i64 q) ∧ W.cell? ⟨go, oo + q, none⟩ = some (.slice au (F q).length cu))
              ((first | with_reducible exact HKP.out _ HB1 | with_reducible exact HKP.out _ HBy))
              (first
                | (go_at_call 17; refine (HADD.out _ HB1).mono ?_; rintro e wy ⟨v9, rfl, hown9, hby⟩; obtain ⟨a9, c9, rfl⟩ := row_slice hown9; have HBy : Below w8.heap.size w8 wy := undrew hby; have HOY : Hid (wy.ownsRow w8.heap.size 3 1 (.slice a9 (mrg lt (F q)).length c9) (mrg lt (F q)).length ((mrg lt (F q)).map (Value.int .i64))) := Lib.hid hown9)
                | fail)
            have HT9 := Lib.hid (HT8.out.add HOY.out HBy)
            go_wp2
            go_roundw
            case rel => exact ⟨k + 1, nw ++ [(q : Int)], mrg lt (F q), hkt, by go_num, HT9, Lib.hid (by rw [nw_take_yes hkt (by rw [hqn]; exact HHB.out.symm), hq1]; rw [← HNW.out]), Lib.hid (HIM.out.congr fun r => by rw [th_take_yes hkt (by rw [hqn]; exact HHB.out.symm) r, hqn])⟩
            case measure => simp [intOf]; omega
        · obtain rfl : k = l.length := by omega
          have HN : Hid (nw = nwL (nx S) P i l) := Lib.hid (by have := HNW.out; rwa [List.take_length] at this)
          have HNX : Hid (IsL lt (nbB (nx S) P (i + 1))) := Lib.hid (HLT.out.congr fun r => by rw [List.take_length]; exact th_all HX5.out.ok HISL.out r)
          obtain ⟨av, cv, rfl⟩ := row_slice HT.out.own
          obtain ⟨at', ct, rfl, -⟩ := HT.out.il
          have HNI := Lib.hid (il_row HT.out.own)
          have HLI := Lib.hid HT.out.il
          have hbq := HT.out.bel
          have HS8 := Lib.hid (HS.out.trans (hbq.mono HS.out.size))
          have hlln := HX5.out.sla.len (n := P.n) HX5.out.ok.la
          have hnwn : nw.length ≤ P.n := Nat.le_trans (by rw [HN.out]; exact List.length_filter_le _ _) hll
          clear hbq HT HNW HLT hk hkt HS
          go_upto_region 23 with fail
          obtain ⟨w8, hw8⟩ : ∃ x, x = wr := ⟨_, rfl⟩
          rw [← hw8] at HNI HLI HS8 ⊢
          clear hw8
          go_loopw [10, 16] (fun s c wq => ∃ m : Nat, m ≤ nw.length ∧ (i + 1 ≠ S.size → m = 0) ∧ c = .int .i64 m ∧ s = .bool ((nw.take m).any fun x => ll.any fun y => decide (y = x)) ∧ Hid (Below w8.heap.size w8 wq)) (fun _ c _ => nw.length - (intOf c).toNat)
          case atStart => exact ⟨0, by omega, fun _ => rfl, rfl, rfl, Lib.hid (Below.refl _ _)⟩
          case round =>
            obtain ⟨m, hm, hm0, rfl, rfl, HS3⟩ := hrel
            by_cases hmt : m < nw.length
            · have hmt' : (m : Int) < (nw.length : Int) := by omega
              by_cases hlast : i + 1 = S.size
              · have hq1 : ((i : Int) == (S.size : Int) - 1) = true := by simp; omega
                have hq2 : (i : Int) = (S.size : Int) - 1 := by omega
                obtain ⟨A, hA⟩ : ∃ b, b = (nw.take m).any fun x => ll.any fun y => decide (y = x) := ⟨_, rfl⟩
                rw [← hA]
                have HAH := Lib.hid hA
                clear hA
                go_upto_region 26 with fail
                clear hq1 hq2
                go_loopw [10, 17] (fun s c wq => ∃ j : Nat, j ≤ ll.length ∧ c = .int .i64 j ∧ s = .bool (A || (ll.take j).any fun y => decide (y = nw.getD m 0)) ∧ Hid (Below w8.heap.size w8 wq)) (fun _ c _ => ll.length - (intOf c).toNat)
                case atStart => exact ⟨0, by omega, rfl, by simp, HS3⟩
                case round =>
                  obtain ⟨j, hj, rfl, rfl, HS4⟩ := hrel
                  have HSR := Lib.hid (HS8.out.trans (HS4.out.mono HS8.out.size))
                  obtain ⟨y0, y1, y2, y3, y4⟩ := cell5 ((HSR.out.block _ hr5).trans HR5.out)
                  by_cases hjt : j < ll.length
                  · have hjt' : (j : Int) < (ll.length : Int) := by omega
                    have hstep : (A || (ll.take (j + 1)).any fun y => decide (y = nw.getD m 0)) = ((A || (ll.take j).any fun y => decide (y = nw.getD m 0)) || decide (ll.getD j 0 = nw.getD m 0)) := by
                      rw [take_next hjt, List.any_append, Bool.or_assoc]
                      simp only [List.any_cons, List.any_nil, Bool.or_false]
                    obtain ⟨B, hB⟩ : ∃ b, b = (A || (ll.take j).any fun y => decide (y = nw.getD m 0)) := ⟨_, rfl⟩
                    rw [← hB] at hstep ⊢
                    clear hB
                    cases B with
                    | true =>
                      go_wp2_with fail
                      go_quiet (fail)
                      go_wp2
                      go_roundw
                      case rel => exact ⟨j + 1, hjt, by go_num, by rw [hstep]; rfl, Lib.hid (HS4.out.trans (below_drewN (Below.refl _ _) _))⟩
                      case measure => simp [intOf]; omega
                    | false =>
                      obtain ⟨gl, ol, kl, hel, -, z1⟩ := il_cells2 HX5.out.fla HSR.out hjt
                      obtain ⟨gn, on', kn, hen, -, z2⟩ := il_cells2 HNI.out HS4.out hmt
                      injection hel with e1 _ e3
                      injection hen with e4 _ e5
                      rw [e1] at y2
                      subst e4
                      obtain ⟨x, hx⟩ : ∃ x, x = ll.getD j 0 := ⟨_, rfl⟩
                      obtain ⟨y, hy⟩ : ∃ x, x = nw.getD m 0 := ⟨_, rfl⟩
                      rw [← hx] at z1 hstep
                      rw [← hy] at z2 hstep
                      have HST : Hid (((A || (ll.take (j + 1)).any fun z => decide (z = nw.getD m 0))) = decide (x = y)) := Lib.hid (by rw [← hy]; simpa using hstep)
                      clear hx hy hstep e1 e3 e5
                      by_cases hxy : x = y
                      · subst hxy
                        go_wp2_with fail
                        go_quiet (fail)
                        go_wp2
                        go_roundw
                        case rel => exact ⟨j + 1, hjt, by go_num, by rw [HST.out]; simp, Lib.hid (HS4.out.trans (below_drewN (Below.refl _ _) _))⟩
                        case measure => simp [intOf]; omega
                      · have hxy2 : (x == y) = false := by simpa using hxy
                        go_wp2_with fail
                        go_quiet (fail)
                        go_wp2
                        go_roundw
                        case rel => exact ⟨j + 1, hjt, by go_num, by rw [HST.out]; simp [hxy], Lib.hid (HS4.out.trans (below_drewN (Below.refl _ _) _))⟩
                        case measure => simp [intOf]; omega
                  · obtain rfl : j = ll.length := by omega
                    have HEQ : Hid ((A || (ll.take ll.length).any fun y => decide (y = nw.getD m 0)) = (nw.take (m + 1)).any fun x => ll.any fun y => decide (y = x)) := Lib.hid (by
                      rw [take_next hmt, List.any_append, ← HAH.out, List.take_length]
                      simp only [List.any_cons, List.any_nil, Bool.or_false])
                    go_wp2
                    go_roundw
                    case rel => exact ⟨m + 1, hmt, fun h => absurd hlast h, by go_num, by rw [HEQ.out], HS4⟩
                    case measure => simp [intOf]; omega
              · obtain rfl : m = 0 := hm0 hlast
                have hq1 : ((i : Int) == (S.size : Int) - 1) = false := by simp; omega
                have hq2 : ¬ (i : Int) = (S.size : Int) - 1 := by omega
                have HEND : Hid ((nw.take 0).any (fun x => ll.any fun y => decide (y = x)) = (decide (i + 1 = S.size) && fin)) := Lib.hid (by rw [decide_eq_false hlast]; rfl)
                have HLI3 := Lib.hid (HLI.out.below HS3.out)
                go_wp2
                go_roundw
                case rel => exact ⟨i + 1, lt, hlt, by go_num, by rw [HEND.out], HLI3, HNX, Lib.hid (HS8.out.trans (HS3.out.mono HS8.out.size))⟩
                case measure => simp [intOf]; omega
            · have HEND : Hid ((nw.take m).any (fun x => ll.any fun y => decide (y = x)) = (decide (i + 1 = S.size) && fin)) := Lib.hid (by
                by_cases hlast : i + 1 = S.size
                · rw [List.take_of_length_le (by omega), HN.out, fin_nw HX5.out.ok HISL.out HX5.out.sla, hlast, HFIN.out, decide_eq_true rfl, Bool.true_and]
                · rw [hm0 hlast, decide_eq_false hlast]; rfl)
              have hmt' : ¬ (m : Int) < (nw.length : Int) := by omega
              have HLI3 := Lib.hid (HLI.out.below HS3.out)
              go_wp2
              go_roundw
              case rel => exact ⟨i + 1, lt, hlt, by go_num, by rw [HEND.out], HLI3, HNX, Lib.hid (HS8.out.trans (HS3.out.mono HS8.out.size))⟩
              case measure => simp [intOf]; omega
    · obtain rfl : i = S.size := by omega
      rw [decide_eq_true rfl, Bool.true_and]
      have HM := Lib.hid (HMT.out wr (HW5.out.trans (HS.out.mono HW5.out.size)))
      have HE := Lib.hid (HBW.out.trans (HS.out.mono HBW.out.size))
      obtain ⟨x0, x1, x2, x3, x4, x5, x6, x7⟩ := cell8 ((HS.out.block _ hp5).trans HX0.out)
      go_wp2_with fail
      refine HM.out.mono ?_
      rintro e wz ⟨rfl, hbz⟩
      have HZ := Lib.hid (HE.out.trans (hbz.mono HE.out.size))
      go_wp2
      go_ret
      exact ⟨ret_bool (by simp), HZ.out⟩
end Go.Proofs.Ytbahadgcmaabcaa
