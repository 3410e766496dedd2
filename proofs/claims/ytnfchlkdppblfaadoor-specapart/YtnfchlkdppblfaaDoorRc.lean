/- The law SpecApart: the walk. -/
import Derived.Test.YtnfchlkdppblfaaDoorRb
import Derived.Test.YtnfchlkdppblfaaDoorHg
import Derived.Test.YtnfchlkdppblfaaDoorDg
namespace Go.Proofs.YtnfchlkdppblfaaDoor
open Go.RowKit Go
theorem spec_iff' {s t : Sp} {c k : Nat} {ex : Bool} {c' k' : Nat} {ex' : Bool} (hs : s.cs = csM c k ex) (ht : t.cs = csM c' k' ex') (hk1 : 1 ≤ k) (hk3 : k ≤ 3) (hk1' : 1 ≤ k') (hk3' : k' ≤ 3) (h : ∀ i, i < s.rs.n → RkP (s.rs.r i) k) (h' : ∀ i, i < t.rs.n → RkP (t.rs.r i) k') :
    decide (textT s = textT t) = sameS s t := by
  obtain ⟨cs, d, l⟩ := s
  obtain ⟨cs', d', l'⟩ := t
  dsimp only at hs ht
  subst hs ht
  exact spec_iff hk1 hk3 hk1' hk3' h h'
theorem made_rkp {W : World} {s : Sp} {c k : Nat} {ex : Bool} (hs : s.cs = csM c k ex) (hb : specB s = true) (hin : SpIn W s) : ∀ i, i < s.rs.n → RkP (s.rs.r i) k := fun i hi => by
  have hr := (spec_parts hb).2.2.2.2 i hi
  rw [hs] at hr
  have := hin.2.2.2.2 i hi
  exact ⟨hr, this.2.1.wfT, this.2.2.wfT⟩
theorem act_all {s : Sp} {i c : Nat} (hi : i < s.rs.n) (hc : c < s.cs.n) (h : (s.rs.r i).all = true) : activeB s i c = true := by
  unfold activeB holdB
  rw [ixB_iff.2 (show (0 : Int) ≤ i ∧ (i : Int) < s.rs.n by omega), ixB_iff.2 (show (0 : Int) ≤ c ∧ (c : Int) < s.cs.n by omega)]
  simp [h]
theorem act_none {s : Sp} {i c : Nat} (hi : i < s.rs.n) (hc : c < s.cs.n) (h : (s.rs.r i).all = false) (h0 : (s.rs.r i).cn = 0) : activeB s i c = !(s.cs.c c).ex := by
  unfold activeB holdB
  rw [ixB_iff.2 (show (0 : Int) ≤ i ∧ (i : Int) < s.rs.n by omega), ixB_iff.2 (show (0 : Int) ≤ c ∧ (c : Int) < s.cs.n by omega)]
  simp [h, h0, hasN, anyTo]
theorem keep33 {w w1 : World} {s t : Sp} (h : Bx2 w (.cells (row3 s) 38) (.cells (row3 t) 38) w1) : w1.cell? ⟨w.heap.size, 0, none⟩ = some (.slice s.cs.a s.cs.n s.cs.cap) ∧ w1.cell? ⟨w.heap.size, 1, none⟩ = some (.bool s.dft) ∧ w1.cell? ⟨w.heap.size, 2, none⟩ = some (.slice s.rs.a s.rs.n s.rs.cap) ∧
    w1.cell? ⟨w.heap.size + 1, 0, none⟩ = some (.slice t.cs.a t.cs.n t.cs.cap) ∧ w1.cell? ⟨w.heap.size + 1, 1, none⟩ = some (.bool t.dft) ∧ w1.cell? ⟨w.heap.size + 1, 2, none⟩ = some (.slice t.rs.a t.rs.n t.rs.cap) := by
  obtain ⟨a0, a1, a2⟩ := cell3 h.one
  obtain ⟨b0, b1, b2⟩ := cell3 h.two
  exact ⟨a0, a1, a2, b0, b1, b2⟩
theorem str_eq (l m : List UInt8) : (l.toArray.toList == m.toArray.toList) = decide (l = m) := by
  cases h : decide (l = m)
  · have := of_decide_eq_false h; simpa using this
  · have := of_decide_eq_true h; simpa using this
theorem Bx2.belowS {w w1 : World} {o o' : Obj} (h : Bx2 w o o' w1) : Below w.heap.size w w1 := (alloc2_below w o o').trans (Below.mono h (alloc2_below w o o').size)
set_option maxRecDepth 100000 in
set_option maxHeartbeats 8000000 in
theorem spapart_walk (w : World) (a : Option Addr) (n cap : Nat) (F : Nat → Int) (a' : Option Addr) (n' cap' : Nat) (F' : Nat → Int) (h : ByteRow w a n F) (h' : ByteRow w a' n' F') (hF : ∀ i, 0 ≤ F i ∧ F i < 256) (hF' : ∀ i, 0 ≤ F' i ∧ F' i < 256) (hn : n ≤ cap) (hc : cap ≤ maxLen) (hn' : n' ≤ cap') (hc' : cap' ≤ maxLen) :
    Calls Tryd.prog 4 #[.slice a n cap, .slice a' n' cap'] w fun e w' => e = .returned (.bool true) ∧ Below w.heap.size w w' := by
  have H1 := Lib.hid (fun w1 (hb : Below w.heap.size w w1) => mmade_any false w1 a n cap F (h.below hb) hF hn hc)
  have H2 := Lib.hid (fun w1 (hb : Below w.heap.size w w1) => mmade_any false w1 a' n' cap' F' (h'.below hb) hF' hn' hc')
  clear h h' hF hF' hn hc hn' hc'
  go_enter Tryd.func4, Tryd.ntmps4
  go_wp2_with fail
  refine (spawake_any w).mono ?_
  rintro e w0 ⟨rfl, hb0⟩
  go_wp2_with fail
  refine (H1.out w0 hb0).mono ?_
  rintro e w1 ⟨s, rfl, ss, cs, rs, hns, ⟨c, k, ex, hcs, hk1, hk3⟩, _, hb1⟩
  have SS := Lib.hid ss
  have CS := Lib.hid cs
  have RS := Lib.hid rs
  have RK := Lib.hid (made_rkp hcs rs ss)
  have HCS := Lib.hid hcs
  have HB1 := Lib.hid (hb0.trans (hb1.mono hb0.size))
  have SP := Lib.hid (spec_parts rs)
  clear ss cs rs hcs
  go_wp2_with fail
  refine (H2.out w1 HB1.out).mono ?_
  rintro e w2 ⟨t, rfl, tt, ct, rt, _, ⟨c', k', ex', hct, hl1, hl3⟩, _, hb2⟩
  have TT := Lib.hid tt
  have CT := Lib.hid ct
  have RT := Lib.hid rt
  have TK := Lib.hid (made_rkp hct rt tt)
  have SS2 := Lib.hid (SS.out.now hb2)
  have HB2 := Lib.hid (HB1.out.trans (hb2.mono HB1.out.size))
  have HIF := Lib.hid (spec_iff' HCS.out hct hk1 hk3 hl1 hl3 RK.out TK.out)
  clear tt ct rt hct hb1 hb2 SS H1 H2 hb0
  have hnr := SP.out.2.2.2.1
  have hnc := SP.out.2.1
  obtain ⟨T1, hT1⟩ : ∃ T1, T1 = (textT s).toArray := ⟨_, rfl⟩
  obtain ⟨T2, hT2⟩ : ∃ T2, T2 = (textT t).toArray := ⟨_, rfl⟩
  have HD := Lib.hid (show ((⟨T1⟩ : ByteArray).toList == (⟨T2⟩ : ByteArray).toList) = sameS s t by rw [← HIF.out, hT1, hT2, ByteArray.toList_eq, ByteArray.toList_eq]; exact str_eq _ _)
  have P1 := Lib.hid (fun W (hb : Bx2 w2 (.cells (row3 s) 38) (.cells (row3 t) 38) W) => (spprint_any s W (SS2.out.now hb.belowS) CS.out).mono fun e w' q => (show e = .returned (.tuple #[.string ⟨T1⟩, .int .i64 0]) ∧ Bx2 w2 (.cells (row3 s) 38) (.cells (row3 t) 38) w' from ⟨by rw [q.1]; unfold spprintV; rw [if_pos RS.out, hT1], hb.to q.2⟩))
  have P2 := Lib.hid (fun W (hb : Bx2 w2 (.cells (row3 s) 38) (.cells (row3 t) 38) W) => (spprint_any t W (TT.out.now hb.belowS) CT.out).mono fun e w' q => (show e = .returned (.tuple #[.string ⟨T2⟩, .int .i64 0]) ∧ Bx2 w2 (.cells (row3 s) 38) (.cells (row3 t) 38) w' from ⟨by rw [q.1]; unfold spprintV; rw [if_pos RT.out, hT2], hb.to q.2⟩))
  have PA := Lib.hid (fun (i j : Int) W (hb : Bx2 w2 (.cells (row3 s) 38) (.cells (row3 t) 38) W) => (active_any s i j W (SS2.out.now hb.belowS)).mono fun e w' q => (show e = .returned (.bool (activeB s i j)) ∧ Bx2 w2 (.cells (row3 s) 38) (.cells (row3 t) 38) w' from ⟨q.1, hb.to q.2⟩))
  have PS := Lib.hid (fun W (hb : Bx2 w2 (.cells (row3 s) 38) (.cells (row3 t) 38) W) => (spsame_any s t W (SS2.out.now hb.belowS) (TT.out.now hb.belowS) CS.out).mono fun e w' q => (show e = .returned (.bool (sameS s t)) ∧ Bx2 w2 (.cells (row3 s) 38) (.cells (row3 t) 38) w' from ⟨q.1, hb.to q.2⟩))
  have HKT := Lib.hid (fun W (hb : Bx2 w2 (.cells (row3 s) 38) (.cells (row3 t) 38) W) => keep33 hb)
  have hn1 := hns.1
  have hn4 := hns.2
  have hc1 := SP.out.1
  obtain ⟨gr, offr, hra, hgr, hAr⟩ := SS2.out.2.2.2.1 (by omega)
  obtain ⟨gc, offc, hca, hgc, hAc⟩ := SS2.out.1.2.2.1 (by omega)
  have HAR : Hid (∀ W, Bx2 w2 (.cells (row3 s) 38) (.cells (row3 t) 38) W → ∀ i, i < s.rs.n → W.cell? ⟨gr, offr + i * 22, none⟩ = some (.slice (s.rs.r i).ca (s.rs.r i).cn (s.rs.r i).cc) ∧ W.cell? ⟨gr, offr + i * 22 + 1, none⟩ = some (.bool (s.rs.r i).all)) := Lib.hid fun W hb i hi => by
    have := (hAr i hi).below hgr hb.belowS; exact ⟨this.1, this.2.1⟩
  have HAC : Hid (∀ W, Bx2 w2 (.cells (row3 s) 38) (.cells (row3 t) 38) W → ∀ j, j < s.cs.n → W.cell? ⟨gc, offc + j * 2 + 1, none⟩ = some (.bool (s.cs.c j).ex)) := Lib.hid fun W hb j hj => by
    have := (hAc j hj).below hgc hb.belowS; exact this.2
  have HRA := Lib.hid hra
  have HCA := Lib.hid hca
  have HST : Hid (∀ i, i < s.rs.n → (s.rs.r i).all = true → (s.rs.r i).cn = 0) := Lib.hid fun i hi hall => by
    have := (RK.out i hi).starts
    unfold startsB at this
    rw [if_pos hall] at this
    exact of_decide_eq_true this
  have HLE := Lib.hid (show s.rs.n ≤ s.rs.cap ∧ s.cs.n ≤ s.cs.cap from ⟨SS2.out.2.1, SS2.out.1.1⟩)
  clear hra hca hAr hAc hns hT1 hT2 HIF RK TK HCS SP
  go_wp2_with (first
    | (go_at_call 11; refine (P1.out _ (Bx2.refl w2 _ _)).mono ?_; clear P1; rintro e w3 ⟨rfl, hb3⟩; obtain ⟨a0, a1, a2, d0, d1, d2⟩ := HKT.out _ hb3)
    | (go_at_call 11; refine (P2.out _ hb3).mono ?_; clear P2; rintro e w4 ⟨rfl, hb4⟩; clear a0 a1 a2 d0 d1 d2))
  go_loopw [12] (fun v wr => ∃ i : Nat, i ≤ s.rs.n ∧ v = .int .i64 i ∧ Hid (Bx2 w2 (.cells (row3 s) 38) (.cells (row3 t) 38) wr)) (fun v _ => s.rs.n - (RowKit.intOf v).toNat)
  case atStart => exact ⟨0, by omega, rfl, Lib.hid hb4⟩
  case round =>
    obtain ⟨i, hi, rfl, HBR⟩ := hrel
    obtain ⟨a0, a1, a2, d0, d1, d2⟩ := HKT.out _ HBR.out
    by_cases hlt : i < s.rs.n
    · have hlt' : (i : Int) < (s.rs.n : Int) := by omega
      obtain ⟨wo, ho⟩ : ∃ x, x = wr := ⟨wr, rfl⟩
      subst ho
      go_wp2
      clear a0 a1 a2 d0 d1 d2
      go_loopw [13] (fun v wr => ∃ j : Nat, j ≤ s.cs.n ∧ v = .int .i64 j ∧ Hid (Bx2 w2 (.cells (row3 s) 38) (.cells (row3 t) 38) wr)) (fun v _ => s.cs.n - (RowKit.intOf v).toNat)
      case atStart => exact ⟨0, by omega, rfl, HBR⟩
      case round =>
        obtain ⟨j, hj, rfl, HBJ⟩ := hrel
        obtain ⟨a0, a1, a2, d0, d1, d2⟩ := HKT.out _ HBJ.out
        by_cases hjl : j < s.cs.n
        · have hjl' : (j : Int) < (s.cs.n : Int) := by omega
          have HPA := Lib.hid (PA.out i j _ HBJ.out)
          go_wp2_with fail
          refine HPA.out.mono ?_
          rintro e w5 ⟨rfl, hb5⟩
          have HB5 := Lib.hid hb5
          clear a0 a1 a2 d0 d1 d2 HPA
          obtain ⟨a0, a1, a2, d0, d1, d2⟩ := HKT.out _ hb5
          obtain ⟨r0, r1⟩ := HAR.out _ hb5 i hlt
          have q1 := HAC.out _ hb5 j hjl
          rw [HRA.out] at a2
          rw [HCA.out] at a0
          have HA1 := Lib.hid (act_all hlt hjl)
          have HA2 := Lib.hid (act_none hlt hjl)
          have HS := Lib.hid (HST.out i hlt)
          obtain ⟨r, hr⟩ : ∃ r, r = s.rs.r i := ⟨_, rfl⟩
          rw [← hr] at r0 r1 HA1 HA2 HS
          obtain ⟨is, his⟩ : ∃ is, is = activeB s i j := ⟨_, rfl⟩
          rw [← his] at HA1 HA2 ⊢
          obtain ⟨xj, hxj⟩ : ∃ xj, xj = (s.cs.c j).ex := ⟨_, rfl⟩
          rw [← hxj] at q1 HA2
          obtain ⟨al, hal⟩ : ∃ al, al = r.all := ⟨_, rfl⟩
          rw [← hal] at r1 HA1 HA2 HS
          obtain ⟨cn, hcn⟩ : ∃ cn, cn = r.cn := ⟨_, rfl⟩
          rw [← hcn] at r0 HA2 HS
          clear hr his hxj hal hcn hb5 d0 d1 d2
          cases al
          · by_cases h0 : cn = 0
            · subst h0
              obtain rfl : is = !xj := HA2.out rfl rfl
              have hx : ((!xj) == xj) = false := by cases xj <;> rfl
              clear HA1 HA2 HS
              go_wp2
              go_roundw
              case rel => exact ⟨j + 1, by omega, by go_num, HB5⟩
              case measure => simp [RowKit.intOf]; omega
            · have h0' : ((cn : Int) == 0) = false := by simp; omega
              clear HA1 HA2 HS
              go_wp2
              go_roundw
              case rel => exact ⟨j + 1, by omega, by go_num, HB5⟩
              case measure => simp [RowKit.intOf]; omega
          · obtain rfl : is = true := HA1.out rfl
            obtain rfl : cn = 0 := HS.out rfl
            clear HA1 HA2 HS
            go_wp2
            go_roundw
            case rel => exact ⟨j + 1, by omega, by go_num, HB5⟩
            case measure => simp [RowKit.intOf]; omega
        · have hjl' : ¬ (j : Int) < (s.cs.n : Int) := by omega
          go_wp2
          go_roundw
          case rel => exact ⟨i + 1, by omega, by go_num, HBJ⟩
          case measure => simp [RowKit.intOf]; omega
    · have hlt' : ¬ (i : Int) < (s.rs.n : Int) := by omega
      have HPS := Lib.hid (PS.out _ HBR.out)
      go_wp2_with fail
      refine HPS.out.mono ?_
      rintro e w6 ⟨rfl, hb6⟩
      have HB6 := Lib.hid (HB2.out.trans (hb6.belowS.mono HB2.out.size))
      clear hb6 a0 a1 a2 d0 d1 d2 HPS PS PA
      have hd := HD.out
      clear HD
      generalize sameS s t = b at *
      cases b
      · go_wp2
        go_ret
        exact ⟨rfl, HB6.out⟩
      · go_wp2
        go_ret
        exact ⟨rfl, HB6.out⟩
end Go.Proofs.YtnfchlkdppblfaaDoor
