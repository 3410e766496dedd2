/- Contract of copiesOf. -/
import Derived.Test.YtnfchlkdppblfaaEq
namespace Go.Proofs.Ytnfchlkdppblfaa
open Go.RowKit Go.Maps Go
abbrev rowU (u : St) : Array Value := row7 u.k u.s (.slice u.a u.n u.cap) (.map u.m)
abbrev putU (w : World) (x : Nat) (u : St) : World := put7 w x u.k u.s (.slice u.a u.n u.cap) (.map u.m)
/-- A step in a box of its own. -/
structure BoxI (S : ByteArray) (P : Nat → Prop) (wr : World) (x : Nat) (u : St) (r : Nat → Nat → Prop) (w : World) : Prop where
  bel : Below wr.heap.size wr w
  xge : wr.heap.size ≤ x
  box : w.heap[x]? = some (.cells (rowU u) 49 (0, 0))
  bt : Built wr.heap.size (fun g => P g ∧ g ≠ x) w u
  rl : rel (nx S) S.size u = r
  nk : u.k ≠ 1
theorem BoxI.start {S : ByteArray} {P : Nat → Prop} {wr w1 : World} {u : St} {r : Nat → Nat → Prop} (hb : Below wr.heap.size wr w1) (hu : Built wr.heap.size P w1 u) (hr : rel (nx S) S.size u = r) (hk : u.k ≠ 1) : BoxI S P wr w1.heap.size u r (w1.alloc (.cells (rowU u) 49)) where
  bel := hb.alloc hb.size _
  xge := hb.size
  box := heap_alloc_new _ _
  bt := (hu.off (Nat.le_refl _)).below (alloc_below _ _)
  rl := hr
  nk := hk
theorem BoxI.turn {S : ByteArray} {P : Nat → Prop} {wr w w2 : World} {x : Nat} {u v : St} {r r' : Nat → Nat → Prop} (h : BoxI S P wr x u r w) (hb : Below w.heap.size w w2) (hv : Built wr.heap.size (fun g => P g ∧ g ≠ x) w2 v) (hr : rel (nx S) S.size v = r') (hk : v.k ≠ 1) :
    w2.heap[x]? = some (.cells (rowU u) 49 (0, 0)) ∧ BoxI S P wr x v r' (putU w2 x v) := by
  have hx := lt_of_some h.box
  have hbx : w2.heap[x]? = some (.cells (rowU u) 49 (0, 0)) := (hb.block x hx).trans h.box
  refine ⟨hbx, (h.bel.trans (hb.mono h.bel.size)).trans (put7_below w2 h.xge _ _ _ _), h.xge, stored7 (z := u.s) _ _ _ _ hbx, hv.put (put7_grown _ _ _ _ _ _) (fun g hg => hg.2) hbx, hr, hk⟩
theorem BoxI.rep {S : ByteArray} {P : Nat → Prop} {wr w : World} {x : Nat} {u : St} {r : Nat → Nat → Prop} (h : BoxI S P wr x u r w) (hP : ∀ g, wr.heap.size ≤ g → P g) :
    Calls Try.prog 52 #[u.val] w fun e w2 => ∃ v : St, e = .returned v.val ∧ w2.heap[x]? = some (.cells (rowU u) 49 (0, 0)) ∧ BoxI S P wr x v (plus r) (putU w2 x v) := by
  have hx := lt_of_some h.box
  refine (reps_any S wr.heap.size u _ w h.bt h.bel.size (fun g hg => ⟨hP g (by have := h.bel.size; omega), by omega⟩)).mono ?_
  rintro e w2 ⟨v, rfl, hv, hr, hk, hb⟩
  obtain ⟨h1, h2⟩ := h.turn hb hv (hr.trans (by rw [h.rl])) hk
  exact ⟨v, rfl, h1, h2⟩
theorem BoxI.opt {S : ByteArray} {P : Nat → Prop} {wr w : World} {x : Nat} {u : St} {r : Nat → Nat → Prop} (h : BoxI S P wr x u r w) (hP : ∀ g, wr.heap.size ≤ g → P g) :
    Calls Try.prog 35 #[u.val] w fun e w2 => ∃ v : St, e = .returned v.val ∧ w2.heap[x]? = some (.cells (rowU u) 49 (0, 0)) ∧ BoxI S P wr x v (opt r) (putU w2 x v) := by
  have hx := lt_of_some h.box
  refine (optional_any S wr.heap.size _ u w h.bt h.bel.size (fun g hg => ⟨hP g (by have := h.bel.size; omega), by omega⟩)).mono ?_
  rintro e w2 ⟨v, rfl, hv, hr, hk, hb⟩
  obtain ⟨h1, h2⟩ := h.turn hb hv (hr.trans (by rw [h.rl])) hk
  exact ⟨v, rfl, h1, h2⟩
theorem BoxI.eq {S : ByteArray} {P : Nat → Prop} {wr w W : World} {x : Nat} {u : St} {r : Nat → Nat → Prop} (hW : W = putU w x u) (h : BoxI S P wr x u r (putU w x u)) : BoxI S P wr x u r W := by
  subst hW; exact h
/-- Behind q copies. -/
structure CopI (S : ByteArray) (r : Nat → Nat → Prop) (lo hi : Int) (T : Nat) (P : Nat → Prop) (c : Array Value) (w : World) (q : Nat) (v : Value) (L : List St) (wr : World) : Prop where
  row : SRow w.heap.size P (w.heap.size + 1) v L wr
  bel : Below w.heap.size w wr
  box : wr.heap[w.heap.size]? = some (.cells c 30 (0, 0))
  len : L.length = q
  rl : ∀ p, p < q → rel (nx S) S.size (ith L p) = cps r lo hi T p
theorem CopI.snoc {S : ByteArray} {r : Nat → Nat → Prop} {lo hi : Int} {T : Nat} {P : Nat → Prop} {c : Array Value} {w : World} {q : Nat} {v v' : Value} {L : List St} {wr w2 w3 : World} {u : St} (h : CopI S r lo hi T P c w q v L wr) (hb : Below wr.heap.size wr w2) (hu : Built wr.heap.size (fun g => P g ∧ some g ≠ v.ownBlock) w2 u) (hr : rel (nx S) S.size u = cps r lo hi T q) (hk : u.k ≠ 1)
    (hown : w3.ownsRow (w.heap.size + 1) 49 7 v' (L.length + 1) (flatS L ++ cells7 u)) (hg : w2.grownBy w3 v.ownBlock) (hat : v'.ownBlock = v.ownBlock ∨ v'.ownBlock = some w2.heap.size) : CopI S r lo hi T P c w (q + 1) v' (L ++ [u]) w3 := by
  have h2 : Below w.heap.size w w2 := h.bel.trans (hb.mono h.bel.size)
  have hne : ∀ k, k < w.heap.size + 1 → some k ≠ v.ownBlock := fun k hk e => by have := (h.row.own.lt _ e.symm).1; omega
  have hbx := lt_of_some h.box
  have hlen := h.len
  refine ⟨(h.row.below hb).snoc (hu.low (by have := h.bel.size; omega)) (fun i hi b hb' hbu => by have := lt_of_some ((h.row.ks i hi).em b hb'); have := hu.lo b hbu; omega) hk hown hg hat, h2.trans ⟨hg.os, hg.tape, hg.output, hg.size, fun k hk => hg.block k (by have := h2.size; omega) (hne k (by omega))⟩, ?_, by simp; omega, fun p hp => ?_⟩
  · rw [hg.block _ (by have := hb.size; omega) (hne _ (by omega)), hb.block _ hbx]; exact h.box
  · by_cases e : p = q
    · subst e; rw [← hlen, ith_new, hr, hlen]
    · rw [ith_old (by omega)]; exact h.rl p (by omega)
set_option maxRecDepth 100000 in
set_option maxHeartbeats 4000000 in
theorem copiesOf_any (S : ByteArray) (s : Nat → Int) (lo hi : Int) (ga off cap : Nat) (y : Tr) (IH : WrOk S y) (w : World) (P : Nat → Prop) (hga : ga < w.heap.size) (h8 : At8 w ga off y) (hL : Lives w w.heap.size y) (hf : fitT y = true) (hc : cnt y ≤ 2000) (hz : sz y ≠ 0) (hP : ∀ g, w.heap.size ≤ g → P g) (h0 : 0 ≤ lo ∧ lo ≤ 20) (hh : hi = -1 ∨ (lo ≤ hi ∧ 1 ≤ hi ∧ hi ≤ 20)) (hcp : 1 ≤ cap ∧ cap ≤ maxLen) (T : Nat) (hT : (T : Int) = max (max lo hi) 1) :
    Calls Try.prog 33 #[nodeV 5 s lo hi (.slice (some ⟨ga, off, none⟩) 1 cap)] w fun e w' => ∃ v L, e = .returned v ∧ CopI S (mt (nx S) S.size y) lo hi T P (row8 5 s lo hi (.slice (some ⟨ga, off, none⟩) 1 cap)) w T v L w' := by
  obtain ⟨i0, hi0, hz0, hz1, hz2⟩ := info_parts info51
  have hm : (if (if lo < hi then hi else lo) < 1 then (1 : Int) else if lo < hi then hi else lo) = (T : Int) := by split <;> split <;> omega
  have hT20 : T ≤ 20 := by omega
  have HW : Hid (∀ q v L wr, CopI S (mt (nx S) S.size y) lo hi T P (row8 5 s lo hi (.slice (some ⟨ga, off, none⟩) 1 cap)) w q v L wr → Calls Try.prog 19 #[y.val] wr fun e w' => ∃ u : St, e = .returned u.val ∧ Built wr.heap.size (fun g => P g ∧ some g ≠ v.ownBlock) w' u ∧ rel (nx S) S.size u = mt (nx S) S.size y ∧ u.k ≠ 1 ∧ Below wr.heap.size wr w') := Lib.hid fun q v L wr h => by
    refine (IH wr (fun g => P g ∧ some g ≠ v.ownBlock) ((hL.below h.bel).mono h.bel.size) hf hc (fun g hg => ⟨hP g (by have := h.bel.size; omega), fun e => by have := (h.row.own.lt _ e.symm).2; omega⟩)).mono ?_
    rintro e w' ⟨u, rfl, hu, hr, hk, hb'⟩
    exact ⟨u, rfl, hu, hr, fun e => hz (hk.1 e), hb'⟩
  have H8 := Lib.hid (fun wr (hb : Below w.heap.size w wr) => h8.below hga hb)
  have HPV : Hid (∀ q v L wr, CopI S (mt (nx S) S.size y) lo hi T P (row8 5 s lo hi (.slice (some ⟨ga, off, none⟩) 1 cap)) w q v L wr → ∀ g, wr.heap.size ≤ g → P g ∧ some g ≠ v.ownBlock) := Lib.hid fun q v L wr h g hg => ⟨hP g (by have := h.bel.size; omega), fun e => by have := (h.row.own.lt _ e.symm).2; omega⟩
  obtain ⟨r, hr⟩ : ∃ r, r = mt (nx S) S.size y := ⟨_, rfl⟩
  rw [← hr] at HW HPV ⊢
  have HZ0 := Lib.hid h0
  have HHH := Lib.hid hh
  have hcap1 := hcp.1
  have hcap2 : cap ≤ 9223372036854775807 := by have := hcp.2; unfold maxLen at this; omega
  have HTT := Lib.hid hT
  clear h8 hL hf hc hz hP h0 hh hT IH hr hcp
  go_enter Try.func33, Try.ntmps33
  go_wp2_with fail
  clear hm
  go_loopw [3, 13] (fun v i wr => ∃ (q : Nat) (L : List St), q ≤ T ∧ i = .int .i64 q ∧ Hid (CopI S r lo hi T P (row8 5 s lo hi (.slice (some ⟨ga, off, none⟩) 1 cap)) w q v L wr)) (fun _ i _ => T - (RowKit.intOf i).toNat)
  case atStart => exact ⟨0, [], Nat.zero_le _, rfl, Lib.hid ⟨SRow.nil _ _ _ _, alloc_below _ _, heap_alloc_new _ _, rfl, fun p hp => by omega⟩⟩
  case round =>
    obtain ⟨q, L, hq, rfl, HI⟩ := hrel
    by_cases hlt : q < T
    · have hlt' : (q : Int) < (T : Int) := by omega
      have h8 := H8.out wr HI.out.bel
      have HC := Lib.hid (HW.out q _ L wr HI.out)
      have HPW := Lib.hid (HPV.out q _ L wr HI.out)
      have hlen : L.length ≤ 20 := by have := HI.out.len; omega
      have HSZ := Lib.hid HI.out.bel.size
      have hbw := lt_of_some HI.out.box
      obtain ⟨c0, c1, c2, c3, c4, c5, c6, c7⟩ := h8
      obtain ⟨b0, b1, b2, b3, b4, b5, b6, b7⟩ := cell8 (s := s) HI.out.box
      have hgw : ga < wr.heap.size := by have := HSZ.out; omega
      obtain ⟨av, cv, rfl⟩ := row_slice HI.out.row.own
      have HBX := Lib.hid (fun w1 (hb : Below wr.heap.size wr w1) => cell8 (s := s) ((hb.block _ hbw).trans HI.out.box))
      by_cases hh1 : hi = -1
      · have hh1' : (hi == -1) = true := by simp [hh1]
        have HH1 := Lib.hid hh1
        clear hh1
        by_cases hq1 : q + 1 = T
        · have hqT : ((q : Int) == (T : Int) - 1) = true := by simp; omega
          have HQ1 := Lib.hid hq1
          clear hq1
          by_cases hlo : (q : Int) < lo
          · have HCP : Hid (cps r lo hi T q = plus r) := Lib.hid (by unfold cps; rw [if_pos hlo, if_pos ⟨HH1.out, HQ1.out⟩])
            have hlo' : ¬ lo ≤ (q : Int) := by omega
            go_wp2_with fail
            refine HC.out.mono ?_
            rintro e w1 ⟨u, rfl, hu, hru, hku, hb1⟩
            rw [show u.val = stepV u.k u.s (.slice u.a u.n u.cap) (.map u.m) from rfl]
            have hs1 := hb1.size
            have hx1 : w.heap.size < w1.heap.size := by omega
            have hxn : ¬ w1.heap.size = w.heap.size := by omega
            have hxm : ¬ w.heap.size = w1.heap.size := by omega
            have HB0 := Lib.hid (BoxI.start hb1 hu hru hku)
            have HBX1 := Lib.hid (fun w2 (hb : Below wr.heap.size wr w2) => HBX.out w2 hb)
            obtain ⟨_, _, _, _, _, g5, g6, _⟩ := HBX.out w1 hb1
            clear hu hru hku c0 c1 c2 c3 c4 c5 c6 c7 b0 b1 b2 b3 b4 b5 b6 b7 hb1
            have HC1 := Lib.hid (HB0.out.rep HPW.out)
            go_wp2_with fail
            refine HC1.out.mono ?_
            rintro e w2 ⟨v1, rfl, hx1, HP1⟩
            rw [show v1.val = stepV v1.k v1.s (.slice v1.a v1.n v1.cap) (.map v1.m) from rfl]
            have HX1 := Lib.hid hx1
            clear hx1
            clear g5 g6
            go_wp2_with (first | (refine store7 rfl _ _ rfl w1.heap.size v1.k v1.s v1.a v1.n v1.cap v1.m rfl rfl HX1.out ?_; intro W1 hW; have HB1 := Lib.hid (BoxI.eq hW HP1); clear hW HP1; obtain ⟨e0, e1, e2, e3, e4, e5, e6⟩ := cell7 (s := v1.s) HB1.out.box; obtain ⟨_, _, _, _, _, g5, g6, _⟩ := HBX.out _ HB1.out.bel; have hsz1 := lt_of_some HB1.out.box; go_frame) | (at_builtin; refine wpList_append_own_at _ rfl _ _ 45 rfl (w.heap.size + 1) 49 i0 _ 7 72 Try.underlying45 hi0 hz0 hz1 hz2 rfl (by decide) _ _ _ rfl ((HI.out.row.below (HB1.out.bel.trans ((alloc_below (W1) (.cells (rowU v1) 49)).mono HB1.out.bel.size))).own) ⟨W1.heap.size, 0, none⟩ 1 1 (cells7 v1) rfl rfl ?xq1 ?xq2 ?xq3 ?xq4 ?xq5 ?_) | go_in)
            case xq1 => exact World.news_of_block (cs := rowU v1) (t := 49) (fr := (0, 0)) (heap_alloc_new _ _)
            case xq2 => exact cells7_one v1
            case xq3 => unfold maxLen; omega
            case xq4 => omega
            case xq5 => simp; omega
            · intro vz wz hown1 hgrow _ hat
              have HJ2 := Lib.hid (HI.out.snoc (HB1.out.bel.trans ((alloc_below (W1) (.cells (rowU v1) 49)).mono HB1.out.bel.size)) (((HB1.out.bt).imp (fun g hg => hg.1)).below (alloc_below _ _)) (HB1.out.rl.trans HCP.out.symm) HB1.out.nk hown1 hgrow (by simpa using hat))
              obtain ⟨a1, cp1, rfl⟩ := row_slice hown1
              clear hown1 hgrow hat
              go_wp2
              go_roundw
              case rel => exact ⟨q + 1, L ++ [v1], by omega, by go_num, HJ2⟩
              case measure => simp [RowKit.intOf]; omega
          · have HCP : Hid (cps r lo hi T q = opt (plus r)) := Lib.hid (by unfold cps; rw [if_neg hlo, if_pos ⟨HH1.out, HQ1.out⟩])
            have hlo' : lo ≤ (q : Int) := by omega
            go_wp2_with fail
            refine HC.out.mono ?_
            rintro e w1 ⟨u, rfl, hu, hru, hku, hb1⟩
            rw [show u.val = stepV u.k u.s (.slice u.a u.n u.cap) (.map u.m) from rfl]
            have hs1 := hb1.size
            have hx1 : w.heap.size < w1.heap.size := by omega
            have hxn : ¬ w1.heap.size = w.heap.size := by omega
            have hxm : ¬ w.heap.size = w1.heap.size := by omega
            have HB0 := Lib.hid (BoxI.start hb1 hu hru hku)
            have HBX1 := Lib.hid (fun w2 (hb : Below wr.heap.size wr w2) => HBX.out w2 hb)
            obtain ⟨_, _, _, _, _, g5, g6, _⟩ := HBX.out w1 hb1
            clear hu hru hku c0 c1 c2 c3 c4 c5 c6 c7 b0 b1 b2 b3 b4 b5 b6 b7 hb1
            have HC1 := Lib.hid (HB0.out.rep HPW.out)
            go_wp2_with fail
            refine HC1.out.mono ?_
            rintro e w2 ⟨v1, rfl, hx1, HP1⟩
            rw [show v1.val = stepV v1.k v1.s (.slice v1.a v1.n v1.cap) (.map v1.m) from rfl]
            have HX1 := Lib.hid hx1
            clear hx1
            clear g5 g6
            go_wp2_with (first | (refine store7 rfl _ _ rfl w1.heap.size v1.k v1.s v1.a v1.n v1.cap v1.m rfl rfl HX1.out ?_; intro W1 hW; have HB1 := Lib.hid (BoxI.eq hW HP1); clear hW HP1; obtain ⟨e0, e1, e2, e3, e4, e5, e6⟩ := cell7 (s := v1.s) HB1.out.box; obtain ⟨_, _, _, _, _, g5, g6, _⟩ := HBX.out _ HB1.out.bel; have hsz1 := lt_of_some HB1.out.box; go_frame))
            have HC2 := Lib.hid (HB1.out.opt HPW.out)
            refine HC2.out.mono ?_
            rintro e w3 ⟨v2, rfl, hx2, HP2⟩
            rw [show v2.val = stepV v2.k v2.s (.slice v2.a v2.n v2.cap) (.map v2.m) from rfl]
            have HX2 := Lib.hid hx2
            clear hx2
            clear e0 e1 e2 e3 e4 e5 e6 g5 g6
            go_wp2_with (first | (refine store7 rfl _ _ rfl w1.heap.size v2.k v2.s v2.a v2.n v2.cap v2.m rfl rfl HX2.out ?_; intro W2 hW; have HB2 := Lib.hid (BoxI.eq hW HP2); clear hW HP2; obtain ⟨e0, e1, e2, e3, e4, e5, e6⟩ := cell7 (s := v2.s) HB2.out.box; obtain ⟨_, _, _, _, _, g5, g6, _⟩ := HBX.out _ HB2.out.bel; have hsz2 := lt_of_some HB2.out.box; go_frame) | (at_builtin; refine wpList_append_own_at _ rfl _ _ 45 rfl (w.heap.size + 1) 49 i0 _ 7 72 Try.underlying45 hi0 hz0 hz1 hz2 rfl (by decide) _ _ _ rfl ((HI.out.row.below (HB2.out.bel.trans ((alloc_below (W2) (.cells (rowU v2) 49)).mono HB2.out.bel.size))).own) ⟨W2.heap.size, 0, none⟩ 1 1 (cells7 v2) rfl rfl ?yq1 ?yq2 ?yq3 ?yq4 ?yq5 ?_) | go_in)
            case yq1 => exact World.news_of_block (cs := rowU v2) (t := 49) (fr := (0, 0)) (heap_alloc_new _ _)
            case yq2 => exact cells7_one v2
            case yq3 => unfold maxLen; omega
            case yq4 => omega
            case yq5 => simp; omega
            · intro vz wz hown1 hgrow _ hat
              have HJ2 := Lib.hid (HI.out.snoc (HB2.out.bel.trans ((alloc_below (W2) (.cells (rowU v2) 49)).mono HB2.out.bel.size)) (((HB2.out.bt).imp (fun g hg => hg.1)).below (alloc_below _ _)) (HB2.out.rl.trans HCP.out.symm) HB2.out.nk hown1 hgrow (by simpa using hat))
              obtain ⟨a1, cp1, rfl⟩ := row_slice hown1
              clear hown1 hgrow hat
              go_wp2
              go_roundw
              case rel => exact ⟨q + 1, L ++ [v2], by omega, by go_num, HJ2⟩
              case measure => simp [RowKit.intOf]; omega
        · have hqT : ((q : Int) == (T : Int) - 1) = false := by simp; omega
          by_cases hlo : (q : Int) < lo
          · have HCP : Hid (cps r lo hi T q = r) := Lib.hid (by unfold cps; rw [if_pos hlo, if_neg (fun h => hq1 h.2)])
            have hlo' : ¬ lo ≤ (q : Int) := by omega
            go_wp2_with fail
            refine HC.out.mono ?_
            rintro e w1 ⟨u, rfl, hu, hru, hku, hb1⟩
            rw [show u.val = stepV u.k u.s (.slice u.a u.n u.cap) (.map u.m) from rfl]
            have hs1 := hb1.size
            have hx1 : w.heap.size < w1.heap.size := by omega
            have hxn : ¬ w1.heap.size = w.heap.size := by omega
            have hxm : ¬ w.heap.size = w1.heap.size := by omega
            have HB0 := Lib.hid (BoxI.start hb1 hu hru hku)
            have HBX1 := Lib.hid (fun w2 (hb : Below wr.heap.size wr w2) => HBX.out w2 hb)
            obtain ⟨_, _, _, _, _, g5, g6, _⟩ := HBX.out w1 hb1
            clear hu hru hku c0 c1 c2 c3 c4 c5 c6 c7 b0 b1 b2 b3 b4 b5 b6 b7 hb1
            go_wp2_with (first | (at_builtin; refine wpList_append_own_at _ rfl _ _ 45 rfl (w.heap.size + 1) 49 i0 _ 7 72 Try.underlying45 hi0 hz0 hz1 hz2 rfl (by decide) _ _ _ rfl ((HI.out.row.below (HB0.out.bel.trans ((alloc_below (w1.alloc (.cells (rowU u) 49)) (.cells (rowU u) 49)).mono HB0.out.bel.size))).own) ⟨w1.heap.size + 1, 0, none⟩ 1 1 (cells7 u) rfl rfl ?zq1 ?zq2 ?zq3 ?zq4 ?zq5 ?_))
            case zq1 => exact World.news_of_block (cs := rowU u) (t := 49) (fr := (0, 0)) (two_newb w1 _ _)
            case zq2 => exact cells7_one u
            case zq3 => unfold maxLen; omega
            case zq4 => omega
            case zq5 => simp; omega
            · intro vz wz hown1 hgrow _ hat
              have HJ2 := Lib.hid (HI.out.snoc (HB0.out.bel.trans ((alloc_below (w1.alloc (.cells (rowU u) 49)) (.cells (rowU u) 49)).mono HB0.out.bel.size)) (((HB0.out.bt).imp (fun g hg => hg.1)).below (alloc_below _ _)) (HB0.out.rl.trans HCP.out.symm) HB0.out.nk hown1 hgrow (by simpa using hat))
              obtain ⟨a1, cp1, rfl⟩ := row_slice hown1
              clear hown1 hgrow hat
              go_wp2
              go_roundw
              case rel => exact ⟨q + 1, L ++ [u], by omega, by go_num, HJ2⟩
              case measure => simp [RowKit.intOf]; omega
          · have HCP : Hid (cps r lo hi T q = opt (r)) := Lib.hid (by unfold cps; rw [if_neg hlo, if_neg (fun h => hq1 h.2)])
            have hlo' : lo ≤ (q : Int) := by omega
            go_wp2_with fail
            refine HC.out.mono ?_
            rintro e w1 ⟨u, rfl, hu, hru, hku, hb1⟩
            rw [show u.val = stepV u.k u.s (.slice u.a u.n u.cap) (.map u.m) from rfl]
            have hs1 := hb1.size
            have hx1 : w.heap.size < w1.heap.size := by omega
            have hxn : ¬ w1.heap.size = w.heap.size := by omega
            have hxm : ¬ w.heap.size = w1.heap.size := by omega
            have HB0 := Lib.hid (BoxI.start hb1 hu hru hku)
            have HBX1 := Lib.hid (fun w2 (hb : Below wr.heap.size wr w2) => HBX.out w2 hb)
            obtain ⟨_, _, _, _, _, g5, g6, _⟩ := HBX.out w1 hb1
            clear hu hru hku c0 c1 c2 c3 c4 c5 c6 c7 b0 b1 b2 b3 b4 b5 b6 b7 hb1
            have HC1 := Lib.hid (HB0.out.opt HPW.out)
            go_wp2_with fail
            refine HC1.out.mono ?_
            rintro e w2 ⟨v1, rfl, hx1, HP1⟩
            rw [show v1.val = stepV v1.k v1.s (.slice v1.a v1.n v1.cap) (.map v1.m) from rfl]
            have HX1 := Lib.hid hx1
            clear hx1
            clear g5 g6
            go_wp2_with (first | (refine store7 rfl _ _ rfl w1.heap.size v1.k v1.s v1.a v1.n v1.cap v1.m rfl rfl HX1.out ?_; intro W1 hW; have HB1 := Lib.hid (BoxI.eq hW HP1); clear hW HP1; obtain ⟨e0, e1, e2, e3, e4, e5, e6⟩ := cell7 (s := v1.s) HB1.out.box; obtain ⟨_, _, _, _, _, g5, g6, _⟩ := HBX.out _ HB1.out.bel; have hsz1 := lt_of_some HB1.out.box; go_frame) | (at_builtin; refine wpList_append_own_at _ rfl _ _ 45 rfl (w.heap.size + 1) 49 i0 _ 7 72 Try.underlying45 hi0 hz0 hz1 hz2 rfl (by decide) _ _ _ rfl ((HI.out.row.below (HB1.out.bel.trans ((alloc_below (W1) (.cells (rowU v1) 49)).mono HB1.out.bel.size))).own) ⟨W1.heap.size, 0, none⟩ 1 1 (cells7 v1) rfl rfl ?wq1 ?wq2 ?wq3 ?wq4 ?wq5 ?_) | go_in)
            case wq1 => exact World.news_of_block (cs := rowU v1) (t := 49) (fr := (0, 0)) (heap_alloc_new _ _)
            case wq2 => exact cells7_one v1
            case wq3 => unfold maxLen; omega
            case wq4 => omega
            case wq5 => simp; omega
            · intro vz wz hown1 hgrow _ hat
              have HJ2 := Lib.hid (HI.out.snoc (HB1.out.bel.trans ((alloc_below (W1) (.cells (rowU v1) 49)).mono HB1.out.bel.size)) (((HB1.out.bt).imp (fun g hg => hg.1)).below (alloc_below _ _)) (HB1.out.rl.trans HCP.out.symm) HB1.out.nk hown1 hgrow (by simpa using hat))
              obtain ⟨a1, cp1, rfl⟩ := row_slice hown1
              clear hown1 hgrow hat
              go_wp2
              go_roundw
              case rel => exact ⟨q + 1, L ++ [v1], by omega, by go_num, HJ2⟩
              case measure => simp [RowKit.intOf]; omega
      · have hh1' : (hi == -1) = false := by simp [hh1]
        by_cases hlo : (q : Int) < lo
        · have HCP : Hid (cps r lo hi T q = r) := Lib.hid (by unfold cps; rw [if_pos hlo, if_neg (fun h => hh1 h.1)])
          have hlo' : ¬ lo ≤ (q : Int) := by omega
          go_wp2_with fail
          refine HC.out.mono ?_
          rintro e w1 ⟨u, rfl, hu, hru, hku, hb1⟩
          rw [show u.val = stepV u.k u.s (.slice u.a u.n u.cap) (.map u.m) from rfl]
          have hs1 := hb1.size
          have hx1 : w.heap.size < w1.heap.size := by omega
          have hxn : ¬ w1.heap.size = w.heap.size := by omega
          have hxm : ¬ w.heap.size = w1.heap.size := by omega
          have HB0 := Lib.hid (BoxI.start hb1 hu hru hku)
          have HBX1 := Lib.hid (fun w2 (hb : Below wr.heap.size wr w2) => HBX.out w2 hb)
          obtain ⟨_, _, _, _, _, g5, g6, _⟩ := HBX.out w1 hb1
          clear hu hru hku c0 c1 c2 c3 c4 c5 c6 c7 b0 b1 b2 b3 b4 b5 b6 b7 hb1
          go_wp2_with (first | (at_builtin; refine wpList_append_own_at _ rfl _ _ 45 rfl (w.heap.size + 1) 49 i0 _ 7 72 Try.underlying45 hi0 hz0 hz1 hz2 rfl (by decide) _ _ _ rfl ((HI.out.row.below (HB0.out.bel.trans ((alloc_below (w1.alloc (.cells (rowU u) 49)) (.cells (rowU u) 49)).mono HB0.out.bel.size))).own) ⟨w1.heap.size + 1, 0, none⟩ 1 1 (cells7 u) rfl rfl ?vq1 ?vq2 ?vq3 ?vq4 ?vq5 ?_))
          case vq1 => exact World.news_of_block (cs := rowU u) (t := 49) (fr := (0, 0)) (two_newb w1 _ _)
          case vq2 => exact cells7_one u
          case vq3 => unfold maxLen; omega
          case vq4 => omega
          case vq5 => simp; omega
          · intro vz wz hown1 hgrow _ hat
            have HJ2 := Lib.hid (HI.out.snoc (HB0.out.bel.trans ((alloc_below (w1.alloc (.cells (rowU u) 49)) (.cells (rowU u) 49)).mono HB0.out.bel.size)) (((HB0.out.bt).imp (fun g hg => hg.1)).below (alloc_below _ _)) (HB0.out.rl.trans HCP.out.symm) HB0.out.nk hown1 hgrow (by simpa using hat))
            obtain ⟨a1, cp1, rfl⟩ := row_slice hown1
            clear hown1 hgrow hat
            go_wp2
            go_roundw
            case rel => exact ⟨q + 1, L ++ [u], by omega, by go_num, HJ2⟩
            case measure => simp [RowKit.intOf]; omega
        · have HCP : Hid (cps r lo hi T q = opt (r)) := Lib.hid (by unfold cps; rw [if_neg hlo, if_neg (fun h => hh1 h.1)])
          have hlo' : lo ≤ (q : Int) := by omega
          go_wp2_with fail
          refine HC.out.mono ?_
          rintro e w1 ⟨u, rfl, hu, hru, hku, hb1⟩
          rw [show u.val = stepV u.k u.s (.slice u.a u.n u.cap) (.map u.m) from rfl]
          have hs1 := hb1.size
          have hx1 : w.heap.size < w1.heap.size := by omega
          have hxn : ¬ w1.heap.size = w.heap.size := by omega
          have hxm : ¬ w.heap.size = w1.heap.size := by omega
          have HB0 := Lib.hid (BoxI.start hb1 hu hru hku)
          have HBX1 := Lib.hid (fun w2 (hb : Below wr.heap.size wr w2) => HBX.out w2 hb)
          obtain ⟨_, _, _, _, _, g5, g6, _⟩ := HBX.out w1 hb1
          clear hu hru hku c0 c1 c2 c3 c4 c5 c6 c7 b0 b1 b2 b3 b4 b5 b6 b7 hb1
          have HC1 := Lib.hid (HB0.out.opt HPW.out)
          go_wp2_with fail
          refine HC1.out.mono ?_
          rintro e w2 ⟨v1, rfl, hx1, HP1⟩
          rw [show v1.val = stepV v1.k v1.s (.slice v1.a v1.n v1.cap) (.map v1.m) from rfl]
          have HX1 := Lib.hid hx1
          clear hx1
          clear g5 g6
          go_wp2_with (first | (refine store7 rfl _ _ rfl w1.heap.size v1.k v1.s v1.a v1.n v1.cap v1.m rfl rfl HX1.out ?_; intro W1 hW; have HB1 := Lib.hid (BoxI.eq hW HP1); clear hW HP1; obtain ⟨e0, e1, e2, e3, e4, e5, e6⟩ := cell7 (s := v1.s) HB1.out.box; obtain ⟨_, _, _, _, _, g5, g6, _⟩ := HBX.out _ HB1.out.bel; have hsz1 := lt_of_some HB1.out.box; go_frame) | (at_builtin; refine wpList_append_own_at _ rfl _ _ 45 rfl (w.heap.size + 1) 49 i0 _ 7 72 Try.underlying45 hi0 hz0 hz1 hz2 rfl (by decide) _ _ _ rfl ((HI.out.row.below (HB1.out.bel.trans ((alloc_below (W1) (.cells (rowU v1) 49)).mono HB1.out.bel.size))).own) ⟨W1.heap.size, 0, none⟩ 1 1 (cells7 v1) rfl rfl ?uq1 ?uq2 ?uq3 ?uq4 ?uq5 ?_) | go_in)
          case uq1 => exact World.news_of_block (cs := rowU v1) (t := 49) (fr := (0, 0)) (heap_alloc_new _ _)
          case uq2 => exact cells7_one v1
          case uq3 => unfold maxLen; omega
          case uq4 => omega
          case uq5 => simp; omega
          · intro vz wz hown1 hgrow _ hat
            have HJ2 := Lib.hid (HI.out.snoc (HB1.out.bel.trans ((alloc_below (W1) (.cells (rowU v1) 49)).mono HB1.out.bel.size)) (((HB1.out.bt).imp (fun g hg => hg.1)).below (alloc_below _ _)) (HB1.out.rl.trans HCP.out.symm) HB1.out.nk hown1 hgrow (by simpa using hat))
            obtain ⟨a1, cp1, rfl⟩ := row_slice hown1
            clear hown1 hgrow hat
            go_wp2
            go_roundw
            case rel => exact ⟨q + 1, L ++ [v1], by omega, by go_num, HJ2⟩
            case measure => simp [RowKit.intOf]; omega
    · have hlt' : ¬ (q : Int) < (T : Int) := by omega
      obtain rfl : q = T := by omega
      go_wp2
      go_ret
      exact ⟨_, rfl, L, HI.out⟩
end Go.Proofs.Ytnfchlkdppblfaa
