/- Contract of the landed code's Size, for any pattern as in the table: the walk. -/
import Derived.Test.YtbahadgcmaabcaaY
namespace Go.Proofs.Ytbahadgcmaabcaa
open Go.RowKit
theorem min_int (S T : Nat) (h : min S 1000000 = min 1000000 T) : ((min 1000000 T : Nat) : Int) = (if S ≤ 1000000 then (S : Int) else 1000000) := by
  rw [← h]; split <;> omega
theorem top_cells {w : World} {B g c : Nat} {bs : List Br} {b : Br} (h : w.ownsRow B 80 2 (.slice (some ⟨g, 0, none⟩) (bs.length + 1) c) (bs.length + 1) (flatB (bs ++ [b]))) :
    w.cell? ⟨g, bs.length * 2, none⟩ = some b.sl ∧ w.cell? ⟨g, bs.length * 2 + 1, none⟩ = some (.int .i64 b.m) := by
  obtain ⟨g', c', hv, _, _, _, _, hc⟩ := row_cells h (by omega)
  injection hv with h1 _ h2
  injection h1 with h1
  injection h1 with h1
  subst h1
  have hl := flatB_length bs
  constructor
  · apply hc
    rw [flatB_append, List.getElem?_append_right (by omega), hl]
    simp [flatB]
  · apply hc
    rw [flatB_append, List.getElem?_append_right (by omega), hl]
    simp [flatB]
theorem row_cut {w : World} {B g c : Nat} {bs : List Br} {b : Br} (h : w.ownsRow B 80 2 (.slice (some ⟨g, 0, none⟩) (bs.length + 1) c) (bs.length + 1) (flatB (bs ++ [b]))) : w.ownsRow B 80 2 (.slice (some ⟨g, 0, none⟩) bs.length c) bs.length (flatB bs) := by
  obtain ⟨_, ⟨hv, _⟩ | ⟨g', cap, cur, hv, hg, hh, h1, h2, h3, h4⟩⟩ := h
  · cases hv
  · injection hv with e1 _ e2
    injection e1 with e1
    injection e1 with e1
    subst e1 e2
    refine ⟨flatB_length bs, Or.inr ⟨g, c, cur, rfl, hg, hh, by omega, h2, h3, ?_⟩⟩
    have : (cur.toList.take ((bs.length + 1) * 2)).take (bs.length * 2) = (flatB (bs ++ [b])).take (bs.length * 2) := by rw [h4]
    rw [List.take_take, Nat.min_eq_left (by omega)] at this
    rw [this, flatB_append, ← flatB_length bs, List.take_left]
theorem row_ne {w : World} {B g c n : Nat} {xs : List Value} (h : w.ownsRow B 80 2 (.slice (some ⟨g, 0, none⟩) n c) n xs) : some w.heap.size ≠ (Value.slice (some ⟨g, 0, none⟩) n c).ownBlock := fun e => by have := (h.lt _ e.symm).2; omega
theorem grown_below {w w' : World} {B e size n : Nat} {v : Value} {xs : List Value} (h : w.ownsRow B e size v n xs) (hB : B ≤ w.heap.size) (hg : w.grownBy w' v.ownBlock) : Below B w w' :=
  (Below.refl B w).grown hg hB fun k hk => own_ge h k hk
theorem At8.zero {w : World} {g o : Nat} {t : Tr} (h : At8 w g (o + 0 * 8) t) : At8 w g o t := by rw [Nat.zero_mul, Nat.add_zero] at h; exact h
/-- A pattern whose Size its kids have no part in is taken off. -/
theorem szI_leaf {B N T S E : Nat} {bs : List Br} {b : Br} {v : Value} {wr w1 : World} (hn : 0 < b.n) (hbr : ∀ c ∈ bs ++ [b], BrL wr B c) (hpe : pend (bs ++ [b]) ≤ 2000) (hre : E + rest (bs ++ [b]) ≤ N) (hto : min 1000000 (S + tot (bs ++ [b])) = min 1000000 T)
    (hz : timT (b.kid 0) = 0) (hown : w1.ownsRow B 80 2 v (bs.length + (tailB b).length) (flatB bs ++ flatB (tailB b))) (hb : Below B wr w1) :
    SzI B N T (pend (bs ++ tailB b)) (S + ownT (b.kid 0) * b.m) E v w1 ∧ pend (bs ++ tailB b) < pend (bs ++ [b]) := by
  have h1 := pend_pop bs hn
  have h2 := rest_pop bs hn
  have h3 := tot_pop bs hn
  have h4 := cnt_pos (b.kid 0)
  refine ⟨⟨bs ++ tailB b, by rw [flatB_append, List.length_append]; exact hown, fun c hc => ?_, rfl, by omega, by omega, ?_⟩, by omega⟩
  · rcases List.mem_append.1 hc with q | q
    · exact (hbr c (by simp [q])).below hb
    · exact ((hbr b (by simp)).below hb).tail c q
  · rw [sz_eq, hz, Nat.zero_mul, Nat.add_zero, Nat.mul_comm] at h3
    rw [← hto, h3]
    congr 1
    omega
/-- A pattern with kids is taken off, and its kids come in its place. -/
theorem szI_kids {B N T S E : Nat} {bs : List Br} {b c : Br} {v : Value} {wr w1 : World} (hn : 0 < b.n) (hbr : ∀ c ∈ bs ++ [b], BrL wr B c) (hpe : pend (bs ++ [b]) ≤ 2000) (hre : E + rest (bs ++ [b]) ≤ N) (hto : min 1000000 (S + tot (bs ++ [b])) = min 1000000 T)
    (ho : ownT (b.kid 0) = 0) (hz : 0 < timT (b.kid 0)) (hcn : c.n = (b.kid 0).n) (hck : c.kid = (b.kid 0).kid) (hcm : c.m = min (timT (b.kid 0) * b.m) 1000000) (hc : BrL w1 B c)
    (hown : w1.ownsRow B 80 2 v (bs.length + (tailB b).length + 1) (flatB bs ++ flatB (tailB b) ++ flatB [c])) (hb : Below B wr w1) :
    SzI B N T (pend (bs ++ tailB b ++ [c])) S (E + (b.kid 0).n) v w1 ∧ pend (bs ++ tailB b ++ [c]) < pend (bs ++ [b]) := by
  have h1 := pend_pop bs hn
  have h2 := rest_pop bs hn
  have h3 := tot_pop bs hn
  have h4 := cnt_dsc (b.kid 0)
  have h5 : sumB cnt c = dsc (b.kid 0) := by unfold sumB dsc; rw [hcn, hck]
  have h6 : dsc (b.kid 0) = (b.kid 0).n + sumB dsc c := by rw [dsc_split]; unfold sumB; rw [hcn, hck]
  have h7 : pend (bs ++ tailB b ++ [c]) = pend (bs ++ tailB b) + sumB cnt c := by rw [pend_append, pend_one]
  have h8 : rest (bs ++ tailB b ++ [c]) = rest (bs ++ tailB b) + sumB dsc c := by rw [rest_append, rest_one]
  have h9 : tot (bs ++ tailB b ++ [c]) = tot (bs ++ tailB b) + c.m * sumB sz c := by rw [tot_append, tot_one]
  refine ⟨⟨bs ++ tailB b ++ [c], by rw [flatB_append, flatB_append, List.length_append, List.length_append]; exact hown, fun d hd => ?_, rfl, by omega, by omega, ?_⟩, by omega⟩
  · rcases List.mem_append.1 hd with q | q
    · rcases List.mem_append.1 q with q | q
      · exact (hbr d (by simp [q])).below hb
      · exact ((hbr b (by simp)).below hb).tail d q
    · rw [List.mem_singleton] at q; rw [q]; exact hc
  · have e1 : sz (b.kid 0) = timT (b.kid 0) * sumB sz c := by rw [sz_eq, ho, Nat.zero_add]; unfold sumB; rw [hcn, hck]
    rw [← hto, h9, h3, e1, hcm, ← Nat.add_assoc, ← Nat.add_assoc]
    exact min_mul _ _ _ _ hz
set_option maxRecDepth 100000 in
set_option maxHeartbeats 4000000 in
theorem size_any (t : Tr) (w : World) (hL : Lives w w.heap.size t) (hf : fitT t = true) (hc : cnt t ≤ 2000) :
    Calls Try.prog 36 #[t.val] w fun e w' => e = .returned (.int .i64 ((min 1000000 (sz t) : Nat) : Int)) ∧ Below w.heap.size w w' := by
  obtain ⟨i0, hi, hz0, hz1, hz2⟩ := info_parts info57
  obtain ⟨T, hT⟩ : ∃ T, T = sz t := ⟨_, rfl⟩
  rw [← hT]
  have HT := Lib.hid hT
  have HL := Lib.hid hL
  have HF := Lib.hid hf
  clear hT hL hf
  show Calls Try.prog 36 #[nodeV t.k t.s t.lo t.hi (.slice t.a t.n t.cap)] w _
  go_enter Try.func36, Try.ntmps36
  go_wp2
  go_loopg [3, 4, 5] (cnt t) (fun gk sv ev v wr => ∃ S E : Nat, sv = .int .i64 S ∧ ev = .int .i64 E ∧ S ≤ 2000000 ∧ Hid (SzI (w.heap.size + 2) 2000 T gk S E v wr) ∧ w.heap.size + 2 ≤ wr.heap.size ∧ Below w.heap.size w wr)
  case atStart =>
    have hb3 : Below w.heap.size w (((w.alloc (.cells (row8 t.k t.s t.lo t.hi (.slice t.a t.n t.cap)) 27)).alloc (.cells (row8 t.k t.s t.lo t.hi (.slice t.a t.n t.cap)) 27)).alloc (.cells #[.slice (some ⟨w.heap.size + 1, 0, none⟩) 1 1, .int .i64 1] 80)) := ((alloc_below _ _).alloc (by simp) _).alloc (by simp; omega) _
    refine ⟨0, 1, rfl, rfl, by omega, Lib.hid ⟨[⟨w.heap.size + 1, 0, 1, 1, fun _ => t, 1⟩], ⟨rfl, Or.inr ⟨w.heap.size + 2, 1, _, rfl, Nat.le_refl _, heap_alloc3_c _ _ _ _, by simp, by unfold maxLen; omega, rfl, rfl⟩⟩, fun b hb => ?_, ?_, ?_, ?_, ?_⟩, by simp, hb3⟩
    · rw [List.mem_singleton] at hb
      subst hb
      refine ⟨by simp, by simp, by unfold maxLen; simp, by simp, by simp, fun i hi => ?_, fun i hi => ⟨(HL.out.below hb3).mono (by omega), HF.out⟩⟩
      obtain rfl : i = 0 := by have : i < 1 := hi; omega
      exact cell8 (heap_alloc3_b _ _ _ _)
    · simp [pend, sumB, sumTo]
    · simp [pend, sumB, sumTo]; exact hc
    · have := cnt_dsc t; simp [rest, sumB, sumTo]; omega
    · rw [HT.out]; simp [tot, sumB, sumTo]
  case round =>
    obtain ⟨S, E, rfl, rfl, hS, HI, hsz, hb⟩ := hrel
    obtain ⟨bs, hown, hbr, hgk, hpe, hrest, htot⟩ := HI.out
    rcases List.eq_nil_or_concat bs with rfl | ⟨bs', b, hbs⟩
    · obtain ⟨a, c, rfl⟩ := row_slice hown
      have HM := Lib.hid (min_int _ _ (szI_empty HI.out))
      clear htot hrest hgk hown
      go_wp2
      all_goals
        go_ret
        exact ⟨ret_int (by rw [HM.out]; split <;> omega), hb⟩
    · rw [List.concat_eq_append] at hbs
      subst hbs
      have hlen : (bs' ++ [b]).length = bs'.length + 1 := by simp
      rw [hlen] at hown
      obtain ⟨g, c, rfl, hg, hgl, hc1, hc2, _⟩ := row_cells hown (by omega)
      have hpl := pend_len _ fun c hc => (hbr c hc).1
      rw [hlen] at hpl
      have hL5 : bs'.length ≤ 5000 := by omega
      by_cases hS1 : S < 1000000
      · obtain ⟨d0, d1⟩ := top_cells hown
        have HCUT := Lib.hid (row_cut hown)
        have HBR := Lib.hid hbr
        have HPE := Lib.hid hgk
        have HRE := Lib.hid hrest
        have HTO := Lib.hid htot
        have hE : (E : Int) ≤ 26843545 := by omega
        have hL6 : (bs'.length : Int) ≤ 5000 := by omega
        obtain ⟨hbn, hbc, hbm, hbg, hmm, hat, hlv⟩ := hbr b (by simp)
        have HAT := Lib.hid hat
        have HLV := Lib.hid hlv
        have hS2 : (S : Int) < 1000000 := by omega
        have HS := Lib.hid hS1
        have HMM := Lib.hid hmm
        have HL5 := Lib.hid hL5
        have HC2 := Lib.hid hc2
        have HBM := Lib.hid hbm
        clear hown hbr hgk hrest htot hlen hpl hpe hat hlv hS1 hS hmm hL5 hbm
        generalize hLL : bs'.length = L at *
        have i1 : (L : Int) ≤ (c : Int) := by omega
        clear hc2
        go_wp2_with fail
        have HK := Lib.hid (heap_alloc_new wr (.cells #[.slice (some ⟨b.g, b.off, none⟩) b.n b.cap, .int .i64 b.m] 80))
        have hne : some wr.heap.size ≠ (Value.slice (some ⟨g, 0, none⟩) L c).ownBlock := row_ne HCUT.out
        have hO := HCUT.out.alloc (.cells #[.slice (some ⟨b.g, b.off, none⟩) b.n b.cap, .int .i64 b.m] 80)
        have HG := Lib.hid (World.grownBy_alloc wr (.cells #[.slice (some ⟨b.g, b.off, none⟩) b.n b.cap, .int .i64 b.m] 80) (Value.slice (some ⟨g, 0, none⟩) L c).ownBlock)
        have hpw : wr.heap.size < (wr.alloc (.cells #[.slice (some ⟨b.g, b.off, none⟩) b.n b.cap, .int .i64 b.m] 80)).heap.size := by simp
        generalize hwq : wr.alloc (.cells #[.slice (some ⟨b.g, b.off, none⟩) b.n b.cap, .int .i64 b.m] 80) = wq at *
        clear hwq
        obtain ⟨c0, c1⟩ := keep2 HK.out (grownBy_refl wq _) hne
        obtain ⟨p, hp⟩ : ∃ p, p = wr.heap.size := ⟨_, rfl⟩
        rw [← hp] at HK hne c0 c1 hpw
        rw [← hp]
        have HPP := Lib.hid hp
        clear hp
        have hbq : w.heap.size + 2 ≤ wq.heap.size := by have := HG.out.size; omega
        go_region_held3 (fun w' => w'.cell? ⟨p, 0, none⟩ = some (.slice (some ⟨b.g, b.off, none⟩) b.n b.cap) ∧ w'.cell? ⟨p, 1, none⟩ = some (.int .i64 b.m))
          (first | exact keep2 HK.out (grownBy_drew _ _) hne | exact keep2 HK.out (grownBy_trans (grownBy_drew _ _) hg1) hne)
          (first
            | (go_at_call 52; refine (leave_any b (w.heap.size + 2) L _ _ wq.drew hbn hbc HL5.out hbq hO).mono ?_; rintro e w1 ⟨v1, rfl, hown1, hg1⟩))
        have hGG := grownBy_trans HG.out (grownBy_trans (grownBy_drew wq _) hg1)
        have hB1 := grown_below HCUT.out hsz hGG
        have hpw1 : p < w1.heap.size := by have := hg1.size; exact Nat.lt_of_lt_of_le hpw this
        have HKB := Lib.hid ((hg1.block p hpw hne).trans HK.out)
        obtain ⟨k0, k1⟩ := keep2 HKB.out (grownBy_refl w1 none) (by simp)
        obtain ⟨x0, x1, x2, x3, x4, x5, x6, x7⟩ := ((HAT.out 0 hbn).below hbg hB1).zero
        have i2 : (0 : Int) < (b.n : Int) := by omega
        have HB1 := Lib.hid hB1
        have HOWN1 := Lib.hid hown1
        clear c0 c1 d0 d1 hGG hB1 hg1 HK hO HG hown1
        go_wp2_with fail
        obtain ⟨hlive, hfit⟩ := HLV.out 0 hbn
        refine (weight_any (b.kid 0) (fitT_fits hfit) _).mono ?_
        rintro e w2 ⟨rfl, hb2⟩
        have HB2 := Lib.hid (HB1.out.trans (hb2.mono (show w.heap.size + 2 ≤ w1.heap.size by have := HB1.out.size; omega)))
        have HOWN2 := Lib.hid (ownsRow_below HOWN1.out hb2)
        obtain ⟨l0, l1⟩ := keep2 ((hb2.block p hpw1).trans HKB.out) (grownBy_refl w2 none) (by simp)
        obtain ⟨y0, y1, y2, y3, y4, y5, y6, y7⟩ := ((HAT.out 0 hbn).below hbg HB2.out).zero
        have hbB : Below w.heap.size w w2 := hb.trans (HB2.out.mono (by omega))
        have hs2 : w.heap.size + 2 ≤ w2.heap.size := Nat.le_trans hsz HB2.out.size
        have HFC := Lib.hid (fits_cases (fitT_fits hfit))
        have HPEN := Lib.hid (show pend (bs' ++ [b]) ≤ 2000 from by have := HI.out; obtain ⟨bs2, h1, _, h3, h4, _⟩ := this; rw [← HPE.out, h3]; exact h4)
        have hm6 : (b.m : Int) ≤ 1000000 := by have := HMM.out; omega
        clear k0 k1 x0 x1 x2 x3 x4 x5 x6 x7 hb2 HB1 HOWN1 HKB
        by_cases ht : timT (b.kid 0) = 0
        · have hst := szI_leaf hbn HBR.out HPEN.out HRE.out HTO.out ht (by rw [hLL]; exact HOWN2.out) HB2.out
          have HST := Lib.hid hst
          clear hst
          have ho : ownT (b.kid 0) = 0 ∨ ownT (b.kid 0) = 1 := by unfold ownT; split <;> simp
          rcases ho with ho | ho
          · rw [ht, ho]
            rw [ho] at HST
            go_wp2
            go_roundg (pend (bs' ++ tailB b))
            case measure => rw [HPE.out]; exact HST.out.2
            case rel => exact ⟨S + 0 * b.m, E, by rw [Nat.zero_mul, Nat.add_zero], rfl, by have := HS.out; omega, Lib.hid HST.out.1, hs2, hbB⟩
          · rw [ht, ho]
            rw [ho] at HST
            go_wp2
            go_roundg (pend (bs' ++ tailB b))
            case measure => rw [HPE.out]; exact HST.out.2
            case rel => exact ⟨S + 1 * b.m, E, by rw [Nat.one_mul]; rfl, rfl, by have := HS.out; omega, Lib.hid HST.out.1, hs2, hbB⟩
        · have ho : ownT (b.kid 0) = 0 := by
            rcases HFC.out with q | q | q | q
            · unfold ownT; rw [if_neg (by omega)]
            · exfalso; apply ht; unfold timT; rw [if_neg (by omega), if_neg (by omega)]
            · unfold ownT; rw [if_neg (by omega)]
            · unfold ownT; rw [if_neg (by omega)]
          have hxn : 0 < (b.kid 0).n := by
            rcases HFC.out with q | q | q | q
            · exfalso; apply ht; unfold timT; rw [if_neg (by omega), if_neg (by omega)]
            · exfalso; apply ht; unfold timT; rw [if_neg (by omega), if_neg (by omega)]
            · omega
            · omega
          have hr20 : timT (b.kid 0) ≤ 20 := by
            rcases HFC.out with q | q | q | q
            · unfold timT; rw [if_neg (by omega), if_neg (by omega)]; omega
            · unfold timT; rw [if_neg (by omega), if_neg (by omega)]; omega
            · unfold timT; rw [if_pos q.1]; omega
            · unfold timT; rw [if_neg (by omega), if_pos q.1]; unfold repM; omega
          have HLX := Lib.hid (hlive.below HB2.out)
          have HFX := Lib.hid hfit
          have HCN := Lib.hid (show (b.kid 0).n + E ≤ 2000 by have h1 := rest_pop bs' hbn; have h2 := dsc_split (b.kid 0); have h3 := HRE.out; omega)
          have HRR := Lib.hid (show 0 < timT (b.kid 0) by omega)
          have HOW := Lib.hid ho
          rw [ho]
          generalize hx : b.kid 0 = x at *
          have HX0 := Lib.hid hx
          clear hx
          cases x with
          | nul => exact False.elim HLX.out
          | node xk xs xlo xhi xa xn xcap xkid =>
          obtain ⟨_, xl1, xl2, xl3, xl4⟩ := HLX.out
          simp only [Tr.k, Tr.s, Tr.lo, Tr.hi, Tr.a, Tr.n, Tr.cap] at y0 y1 y2 y3 y4 y5 y6 y7 hxn HCN
          obtain ⟨xg, xoff, rfl, hxg, hxat⟩ := xl3 hxn
          have HXAT := Lib.hid hxat
          have HXLV := Lib.hid xl4
          have HXL2 := Lib.hid xl2
          clear hxat xl4 xl3 xl2
          generalize hr : timT (.node xk xs xlo xhi (some ⟨xg, xoff, none⟩) xn xcap xkid) = r at *
          have HR := Lib.hid hr
          clear hr ht ho hlive hfit
          obtain ⟨q, hq⟩ : ∃ q, q = r * b.m := ⟨_, rfl⟩
          have hq1 : (r : Int) * (b.m : Int) = (q : Int) := by rw [hq]; simp
          have hq2 : (q : Int) ≤ 20000000 := by
            have : r * b.m ≤ 20 * 1000000 := Nat.mul_le_mul hr20 HMM.out
            omega
          have HQ := Lib.hid hq
          clear hq
          have hrp : (0 : Int) < (r : Int) := by have := HRR.out; omega
          have hnp : (0 : Int) < (xn : Int) := by omega
          have hne2 : (xn : Int) ≤ 2000 := by have := HCN.out; omega
          have hE2 : (E : Int) ≤ 2000 := by have := HCN.out; omega
          have hkey : ∀ (mm : Nat) (v3 : Value) (w3 : World), mm = min q 1000000 → w3.ownsRow (w.heap.size + 2) 80 2 v3 (L + (tailB b).length + 1) (flatB bs' ++ flatB (tailB b) ++ [.slice (some ⟨xg, xoff, none⟩) xn xcap, .int .i64 mm]) → Below (w.heap.size + 2) w2 w3 →
              SzI (w.heap.size + 2) 2000 T (pend (bs' ++ tailB b ++ [⟨xg, xoff, xn, xcap, xkid, mm⟩])) S (E + xn) v3 w3 ∧ pend (bs' ++ tailB b ++ [⟨xg, xoff, xn, xcap, xkid, mm⟩]) < pend (bs' ++ [b]) := by
            intro mm v3 w3 hmm3 hown3 hb3
            have hh := szI_kids (c := ⟨xg, xoff, xn, xcap, xkid, mm⟩) hbn HBR.out HPEN.out HRE.out HTO.out (by rw [HX0.out]; exact HOW.out) (by rw [HX0.out, HR.out]; exact HRR.out) (by rw [HX0.out]; rfl) (by rw [HX0.out]; rfl) (by rw [HX0.out, HR.out, ← HQ.out]; exact hmm3) ?_ (by rw [hLL]; exact hown3) (HB2.out.trans hb3)
            · rw [HX0.out] at hh; exact hh
            · exact ⟨hxn, xl1, HXL2.out, hxg, by show mm ≤ 1000000; omega, fun i hi => (HXAT.out i hi).below hxg hb3, fun i hi => ⟨(HXLV.out i hi).below hb3, fitT_kid HFX.out hi⟩⟩
          have HKEY := Lib.hid hkey
          clear hkey
          have hOw := HOWN2.out
          have hL7 : L + (tailB b).length ≤ 6000 := by have := HL5.out; unfold tailB; split <;> simp <;> omega
          have HL7 := Lib.hid hL7
          clear hL7
          generalize hmi : (b.m : Int) = mi at *
          generalize hri : (r : Int) = ri at *
          generalize hqi : (q : Int) = qi at *
          have HQI := Lib.hid hqi
          have HMI := Lib.hid (And.intro hmi hri)
          have hqi0 : 0 ≤ qi := by omega
          clear hmi hri hqi
          by_cases hq3 : qi ≤ 1000000
          · go_wp2_with (first | (at_builtin; refine wpList_append_own _ rfl _ _ 81 rfl (w.heap.size + 2) 80 i0 _ 2 32 Try.underlying81 hi hz0 hz1 hz2 rfl (by decide) _ _ _ rfl (hOw.alloc _) ⟨w2.heap.size, 0, none⟩ 1 1 [.slice (some ⟨xg, xoff, none⟩) xn xcap, .int .i64 qi] rfl rfl ?c1 ?c2 ?c3 ?c4 ?c5 ?_))
            case c1 => exact World.news_of_block (cs := #[.slice (some ⟨xg, xoff, none⟩) xn xcap, .int .i64 qi]) (t := 80) (fr := (0, 0)) (heap_alloc_new w2 _)
            case c2 => intro u hu; simp at hu; rcases hu with rfl | rfl <;> rfl
            case c3 => have := HL7.out; unfold maxLen; omega
            case c4 => have := HL7.out; omega
            case c5 => simp; omega
            · intro v3 w3 hown3 hgrow _
              have hb3 := grown_below (hOw.alloc _) (by simp; omega) hgrow
              have hb4 : Below (w.heap.size + 2) w2 w3 := ((Below.refl _ w2).alloc hs2 _).trans hb3
              obtain ⟨j1, j2⟩ := HKEY.out q v3 w3 (by have := HQI.out; omega) (by rw [HQI.out, List.append_assoc]; exact hown3) hb4
              have HJ1 := Lib.hid j1
              have HJ2 := Lib.hid j2
              have hbF := hbB.trans (hb4.mono (by omega))
              clear j1 j2 hown3 hgrow hb3
              go_wp2
              go_roundg (pend (bs' ++ tailB b ++ [⟨xg, xoff, xn, xcap, xkid, q⟩]))
              case measure => rw [HPE.out]; exact HJ2.out
              case rel => exact ⟨S, E + xn, rfl, rfl, by have := HS.out; omega, Lib.hid HJ1.out, Nat.le_trans hs2 hb4.size, hbF⟩
          · go_wp2_with (first | (at_builtin; refine wpList_append_own _ rfl _ _ 81 rfl (w.heap.size + 2) 80 i0 _ 2 32 Try.underlying81 hi hz0 hz1 hz2 rfl (by decide) _ _ _ rfl (hOw.alloc _) ⟨w2.heap.size, 0, none⟩ 1 1 [.slice (some ⟨xg, xoff, none⟩) xn xcap, .int .i64 1000000] rfl rfl ?c1 ?c2 ?c3 ?c4 ?c5 ?_))
            case c1 => exact World.news_of_block (cs := #[.slice (some ⟨xg, xoff, none⟩) xn xcap, .int .i64 1000000]) (t := 80) (fr := (0, 0)) (heap_alloc_new w2 _)
            case c2 => intro u hu; simp at hu; rcases hu with rfl | rfl <;> rfl
            case c3 => have := HL7.out; unfold maxLen; omega
            case c4 => have := HL7.out; omega
            case c5 => simp; omega
            · intro v3 w3 hown3 hgrow _
              have hb3 := grown_below (hOw.alloc _) (by simp; omega) hgrow
              have hb4 : Below (w.heap.size + 2) w2 w3 := ((Below.refl _ w2).alloc hs2 _).trans hb3
              obtain ⟨j1, j2⟩ := HKEY.out 1000000 v3 w3 (by have := HQI.out; omega) (by rw [List.append_assoc]; exact hown3) hb4
              have HJ1 := Lib.hid j1
              have HJ2 := Lib.hid j2
              have hbF := hbB.trans (hb4.mono (by omega))
              clear j1 j2 hown3 hgrow hb3
              go_wp2
              go_roundg (pend (bs' ++ tailB b ++ [⟨xg, xoff, xn, xcap, xkid, 1000000⟩]))
              case measure => rw [HPE.out]; exact HJ2.out
              case rel => exact ⟨S, E + xn, rfl, rfl, by have := HS.out; omega, Lib.hid HJ1.out, Nat.le_trans hs2 hb4.size, hbF⟩
      · have HM := Lib.hid (min_int _ _ (szI_full HI.out (by omega)))
        have hE : (E : Int) ≤ 26843545 := by omega
        have hS2 : ¬ (S : Int) < 1000000 := by omega
        clear htot hrest hgk hown hS1 hS
        go_wp2
        all_goals
          go_ret
          exact ⟨ret_int (by rw [HM.out]; split <;> omega), hb⟩
end Go.Proofs.Ytbahadgcmaabcaa
