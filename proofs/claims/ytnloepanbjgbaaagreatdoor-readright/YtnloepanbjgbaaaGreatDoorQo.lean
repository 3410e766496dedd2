/- The landed code's atom. -/
import Derived.Test.YtnloepanbjgbaaaGreatDoorQf
import Derived.Test.YtnloepanbjgbaaaGreatDoorQl
import Derived.Test.YtnloepanbjgbaaaGreatDoorQh
namespace Go.Proofs.YtnloepanbjgbaaaGreatDoor
open Go.RowKit
def leafR (c : Nat) : Rs (Nat → Int) → Rs (Tr × Nat)
  | .ok s k => .ok (lfT 2 s, c) k
  | .er e k => .er e k
def charR (fold : Bool) (c : Nat) : Rs Int → Rs (Tr × Nat)
  | .ok b k => .ok (lfT 2 (foldB fold (byK (ofK b b))), c) k
  | .er e k => .er e k
def atomG (G : Nat → Nat → Rs (Tr × Nat)) (S : ByteArray) (D : Df) (n : Nat) (fold : Bool) (i c : Nat) : Rs (Tr × Nat) :=
  if nx S i = 40 then G i c else if nx S i = 91 then leafR c (classP (nx S) S.size fold i) else if nx S i = 123 then definedP S D n i c else
    if nx S i = 46 then .ok (lfT 2 (notS (byK (ofK 10 10))), c) (i + 1) else charR fold c (oneP (nx S) false i)
theorem lives_lf2 {w : World} {B : Nat} {s : Nat → Int} (h : Wf s) : Lives w B (lfT 2 s) := ⟨h, Nat.le_refl _, by unfold maxLen; omega, fun h => by omega, fun i h => by omega⟩
theorem PC.pt {w w' : World} {p : Nat} {C : Cx} {deep cop : Nat} {r : Rs (Nat → Int)} {e : Ending} (h : PC w p C deep cop r e w') : PT w p C deep (leafR cop r) e w' := by
  cases r with
  | ok s k => exact ⟨h.1, lfT 2 s, h.2.1, same_self _, lives_lf2 h.2.2.1, up_lf _ _ _, h.2.2.2⟩
  | er c k => obtain ⟨j, hj⟩ := h.2.2.2; exact ⟨h.1, ⟨0, z0, 0, 0, none, 0, 0, h.2.1⟩, h.2.2.1, j, cop, hj⟩
/-- What a callee returned is stored into the result's box. -/
theorem PT.up {w w1 w2 : World} {p q : Nat} {C : Cx} {deep : Nat} {r : Rs (Tr × Nat)} {e : Ending} (hp : p < w.heap.size) (hq : w.heap.size ≤ q) (hG1 : w.grownBy w1 (some p)) (hQ1 : w1.heap[q]? = some (.cells (row8 0 z0 0 0 (.slice none 0 0)) 31 (0, 0))) (h : PT w1 p C deep r e w2) :
    ∃ (k : Int) (s : Nat → Int) (lo hi : Int) (a : Option Addr) (n cap : Nat) (v : Value), e = .returned (.tuple #[nodeV k s lo hi (.slice a n cap), v]) ∧ w2.heap[q]? = some (.cells (row8 0 z0 0 0 (.slice none 0 0)) 31 (0, 0)) ∧
      PT w p C deep r (.returned (.tuple #[nodeV k s lo hi (.slice a n cap), v])) (put8 w2 q k s lo hi (.slice a n cap)) ∧ (put8 w2 q k s lo hi (.slice a n cap)).heap[q]? = some (.cells (row8 k s lo hi (.slice a n cap)) 31 (0, 0)) := by
  have hql := (Array.getElem?_eq_some_iff.1 hQ1).1
  have hQ2 := box_on hQ1 (show p ≠ q by omega) h.1
  have hG2 := gtrans hG1 h.1
  cases r with
  | ok T i =>
    obtain ⟨x, he, hs, hL, hU, hR⟩ := h.2
    have hU2 : Up (q + 1) x := hU.mono (by omega)
    obtain ⟨f1, f2, f3⟩ := fin8r hR hG2 hp hq hQ2 x.k x.s x.lo x.hi (.slice x.a x.n x.cap)
    exact ⟨x.k, x.s, x.lo, x.hi, x.a, x.n, x.cap, .nilIface, he, hQ2, ⟨f3, x, rfl, hs, lives_put8u hU2 hL _ _ _ _ _, hU2.mono (by omega), f2⟩, f1⟩
  | er c i =>
    obtain ⟨⟨k, s, lo, hi, a, n, cap, he⟩, hi', j, c', hR⟩ := h.2
    obtain ⟨f1, f2, f3⟩ := fin8r hR hG2 hp hq hQ2 k s lo hi (.slice a n cap)
    exact ⟨k, s, lo, hi, a, n, cap, errV c i, he, hQ2, ⟨f3, ⟨k, s, lo, hi, a, n, cap, rfl⟩, hi', j, c', f2⟩, f1⟩
set_option maxRecDepth 100000 in
set_option maxHeartbeats 4000000 in
theorem atom_any (G : Nat → Nat → Rs (Tr × Nat)) (D : Df) (w : World) (p : Nat) (C : Cx) (i deep cop : Nat) (h : Rd w p C i deep cop) (hD : DfAt w p C D) (hi : i < C.S.size)
    (hGr : ∀ w1 : World, Rd w1 p C i deep cop → DfAt w1 p C D → nx C.S i = 40 → Calls Tryz.prog 108 #[rp p] w1 (PT w1 p C deep (G i cop))) :
    Calls Tryz.prog 97 #[rp p] w (PT w p C deep (atomG G C.S D C.n C.fold i cop)) := by
  have hpq := h.lt
  have hz := h.sz
  have hb0 := alloc_below w (.cells (row8 0 z0 0 0 (.slice none 0 0)) 31)
  have HR0 := Lib.hid (h.below hb0)
  have HN := Lib.hid (next_any _ p C i deep cop HR0.out)
  have HG0 := Lib.hid (grown_of_below hb0 (some p))
  have HQ0 := Lib.hid (heap_alloc_new w (.cells (row8 0 z0 0 0 (.slice none 0 0)) 31))
  have HD0 := Lib.hid (hD.on hpq HG0.out)
  have HGR := Lib.hid hGr
  obtain ⟨R, hR⟩ : ∃ R, R = atomG G C.S D C.n C.fold i cop := ⟨_, rfl⟩
  rw [← hR]
  unfold atomG at hR
  obtain ⟨x, hx⟩ : ∃ x, x = nx C.S i := ⟨_, rfl⟩
  rw [← hx] at hR HN
  have HX := Lib.hid hx
  have HE := Lib.hid hR
  clear hR h hb0 hD hGr hx
  obtain ⟨q, hqq⟩ : ∃ q, q = w.heap.size := ⟨_, rfl⟩
  have hqs : w.heap.size ≤ q := by omega
  rw [← hqq] at HQ0
  go_enter Tryz.func97, Tryz.ntmps97
  go_wp2_with fail
  refine HN.out.mono ?_
  rintro e w0 ⟨rfl, hw⟩
  rw [hw] at HR0 HG0 HQ0 HD0
  rw [← hqq]
  clear hw HN hqq
  by_cases g1 : x = 40
  · have HP := Lib.hid (show R = G i cop by rw [HE.out, if_pos g1])
    have HM := Lib.hid (HX.out.symm.trans g1)
    subst g1
    clear HE
    go_wp2_with fail
    refine (HGR.out w0 HR0.out HD0.out HM.out).mono ?_
    intro e w2 h2
    obtain ⟨k, s, lo, hi, a, n, cap, v, rfl, hQ2, hPT, hst⟩ := PT.up hpq hqs HG0.out HQ0.out h2
    obtain ⟨d0, d1, d2, d3, d4, d5, d6, d7⟩ := cell8 (s := z0) hQ2
    obtain ⟨f0, f1, f2, f3, f4, f5, f6, f7⟩ := frozen8 (s := z0) hQ2
    have HPT := Lib.hid hPT
    have HST := Lib.hid hst
    clear h2 hQ2 hPT hst
    go_wp2
    exact bodyPost_ret (v := .tuple #[nodeV k s lo hi (.slice a n cap), v]) (ret8t Tryz.results97 rfl rfl HST.out) rfl (by rw [HP.out]; exact HPT.out)
  · have e1 : (x == 40) = false := by simp [g1]
    by_cases g2 : x = 91
    · have HP := Lib.hid (show R = leafR cop (classP (nx C.S) C.S.size C.fold i) by rw [HE.out, if_neg g1, if_pos g2])
      subst g2
      clear HE
      go_wp2_with fail
      refine (class_any w0 p C i deep cop HR0.out hi).mono ?_
      intro e w2 h2
      obtain ⟨k, s, lo, hi, a, n, cap, v, rfl, hQ2, hPT, hst⟩ := PT.up hpq hqs HG0.out HQ0.out h2.pt
      obtain ⟨d0, d1, d2, d3, d4, d5, d6, d7⟩ := cell8 (s := z0) hQ2
      obtain ⟨f0, f1, f2, f3, f4, f5, f6, f7⟩ := frozen8 (s := z0) hQ2
      have HPT := Lib.hid hPT
      have HST := Lib.hid hst
      clear h2 hQ2 hPT hst
      go_wp2
      exact bodyPost_ret (v := .tuple #[nodeV k s lo hi (.slice a n cap), v]) (ret8t Tryz.results97 rfl rfl HST.out) rfl (by rw [HP.out]; exact HPT.out)
    · have e2 : (x == 91) = false := by simp [g2]
      by_cases g3 : x = 123
      · have HP := Lib.hid (show R = definedP C.S D C.n i cop by rw [HE.out, if_neg g1, if_neg g2, if_pos g3])
        subst g3
        clear HE
        go_wp2_with fail
        refine (defined_any D w0 p C i deep cop HR0.out HD0.out hi).mono ?_
        intro e w2 h2
        obtain ⟨k, s, lo, hi, a, n, cap, v, rfl, hQ2, hPT, hst⟩ := PT.up hpq hqs HG0.out HQ0.out h2
        obtain ⟨d0, d1, d2, d3, d4, d5, d6, d7⟩ := cell8 (s := z0) hQ2
        obtain ⟨f0, f1, f2, f3, f4, f5, f6, f7⟩ := frozen8 (s := z0) hQ2
        have HPT := Lib.hid hPT
        have HST := Lib.hid hst
        clear h2 hQ2 hPT hst
        go_wp2
        exact bodyPost_ret (v := .tuple #[nodeV k s lo hi (.slice a n cap), v]) (ret8t Tryz.results97 rfl rfl HST.out) rfl (by rw [HP.out]; exact HPT.out)
      · have e3 : (x == 123) = false := by simp [g3]
        by_cases g4 : x = 46
        · have HP := Lib.hid (show R = .ok (lfT 2 (notS (byK (ofK 10 10))), cop) (i + 1) by rw [HE.out, if_neg g1, if_neg g2, if_neg g3, if_pos g4])
          subst g4
          clear HE HGR
          obtain ⟨c0, c1, c2, c3, c4, c5⟩ := HR0.out.cells
          have hf := HR0.out.free 3
          have hst := HR0.out.step (j := i + 1) (by omega) (v := (i : Int) + 1) (by omega)
          have HR1 := Lib.hid hst.1
          have HG1 := Lib.hid (gtrans HG0.out hst.2)
          have HQ1 := Lib.hid (box_on HQ0.out (show p ≠ q by omega) hst.2)
          clear hst
          go_wp2_with fail
          refine (of_any 10 10 _).mono ?_
          rintro e w2 ⟨rfl, hb2⟩
          have HR2 := Lib.hid (HR1.out.below hb2)
          have HG2 := Lib.hid (gbelow HG1.out hb2)
          have HQ2 := Lib.hid ((hb2.block q (Array.getElem?_eq_some_iff.1 HQ1.out).1).trans HQ1.out)
          have HW := Lib.hid (wf_not (wf_byK (ofK 10 10)))
          clear hb2 c0 c1 c2 c3 c4 c5 hf HR1 HG1 HQ1 HR0 HG0 HQ0
          go_wp2_with fail
          refine (not_any _ _).mono ?_
          rintro e w3 ⟨rfl, hb3⟩
          generalize notS (byK (ofK 10 10)) = F at *
          have HQ3 := Lib.hid ((hb3.block q (Array.getElem?_eq_some_iff.1 HQ2.out).1).trans HQ2.out)
          have HF := Lib.hid (fin8r (HR2.out.below hb3) (gbelow HG2.out hb3) hpq hqs HQ3.out 2 F 0 0 (.slice none 0 0))
          obtain ⟨d0, d1, d2, d3, d4, d5, d6, d7⟩ := cell8 (s := z0) HQ3.out
          obtain ⟨f0, f1, f2, f3, f4, f5, f6, f7⟩ := frozen8 (s := z0) HQ3.out
          clear hb3
          go_wp2
          exact bodyPost_ret (v := .tuple #[nodeV 2 F 0 0 (.slice none 0 0), .nilIface]) (ret8t Tryz.results97 rfl rfl HF.out.1) rfl (by rw [HP.out]; exact ⟨HF.out.2.2, lfT 2 F, rfl, same_self _, lives_lf2 HW.out, up_lf _ _ _, HF.out.2.1⟩)
        · have HP := Lib.hid (show R = charR C.fold cop (oneP (nx C.S) false i) by rw [HE.out, if_neg g1, if_neg g2, if_neg g3, if_neg g4])
          have e4 : (x == 46) = false := by simp [g4]
          clear HE HGR
          go_wp2_with fail
          refine (single_any false _ rfl w0 p C i deep cop HR0.out).mono ?_
          intro e w1 h1
          cases hr1 : oneP (nx C.S) false i with
          | er c k =>
            rw [hr1] at h1 HP
            obtain ⟨hG1, ⟨b, hx0, hx1, rfl⟩, hk, j, hR1⟩ := h1
            have HR1 := Lib.hid hR1
            have HG1 := Lib.hid (gtrans HG0.out hG1)
            have HQ1 := Lib.hid (box_on HQ0.out (show p ≠ q by omega) hG1)
            clear hG1 hR1 hr1 HR0 HG0 HQ0 HD0
            go_wp2_with fail
            refine (of_any b b _).mono ?_
            rintro e w2 ⟨rfl, hb2⟩
            have HR2 := Lib.hid (HR1.out.below hb2)
            have HG2 := Lib.hid (gbelow HG1.out hb2)
            have HQ2 := Lib.hid ((hb2.block q (Array.getElem?_eq_some_iff.1 HQ1.out).1).trans HQ1.out)
            clear hb2 HR1 HG1 HQ1
            go_wp2_with fail
            refine (folded_any _ _ p C j deep cop HR2.out).mono ?_
            rintro e w3 ⟨rfl, hb3⟩
            generalize foldB C.fold (byK (ofK b b)) = F at *
            have HQ3 := Lib.hid ((hb3.block q (Array.getElem?_eq_some_iff.1 HQ2.out).1).trans HQ2.out)
            have HF := Lib.hid (fin8r (HR2.out.below hb3) (gbelow HG2.out hb3) hpq hqs HQ3.out 2 F 0 0 (.slice none 0 0))
            obtain ⟨d0, d1, d2, d3, d4, d5, d6, d7⟩ := cell8 (s := z0) HQ3.out
            obtain ⟨f0, f1, f2, f3, f4, f5, f6, f7⟩ := frozen8 (s := z0) HQ3.out
            clear hb3
            go_wp2
            exact bodyPost_ret (v := .tuple #[nodeV 2 F 0 0 (.slice none 0 0), errV c k]) (ret8t Tryz.results97 rfl rfl HF.out.1) rfl (by rw [HP.out]; exact ⟨HF.out.2.2, ⟨2, F, 0, 0, none, 0, 0, rfl⟩, hk, j, cop, HF.out.2.1⟩)
          | ok b j =>
            rw [hr1] at h1 HP
            obtain ⟨hG1, rfl, hx0, hx1, hR1⟩ := h1
            have HR1 := Lib.hid hR1
            have HG1 := Lib.hid (gtrans HG0.out hG1)
            have HQ1 := Lib.hid (box_on HQ0.out (show p ≠ q by omega) hG1)
            clear hG1 hR1 hr1 HR0 HG0 HQ0 HD0
            go_wp2_with fail
            refine (of_any b b _).mono ?_
            rintro e w2 ⟨rfl, hb2⟩
            have HR2 := Lib.hid (HR1.out.below hb2)
            have HG2 := Lib.hid (gbelow HG1.out hb2)
            have HQ2 := Lib.hid ((hb2.block q (Array.getElem?_eq_some_iff.1 HQ1.out).1).trans HQ1.out)
            have HW := Lib.hid (wf_foldB C.fold (wf_byK (ofK b b)))
            have HP2 := Lib.hid (show R = .ok (lfT 2 (foldB C.fold (byK (ofK b b))), cop) j from HP.out)
            clear hb2 HR1 HG1 HQ1 HP
            go_wp2_with fail
            refine (folded_any _ _ p C j deep cop HR2.out).mono ?_
            rintro e w3 ⟨rfl, hb3⟩
            generalize foldB C.fold (byK (ofK b b)) = F at *
            have HQ3 := Lib.hid ((hb3.block q (Array.getElem?_eq_some_iff.1 HQ2.out).1).trans HQ2.out)
            have HF := Lib.hid (fin8r (HR2.out.below hb3) (gbelow HG2.out hb3) hpq hqs HQ3.out 2 F 0 0 (.slice none 0 0))
            obtain ⟨d0, d1, d2, d3, d4, d5, d6, d7⟩ := cell8 (s := z0) HQ3.out
            obtain ⟨f0, f1, f2, f3, f4, f5, f6, f7⟩ := frozen8 (s := z0) HQ3.out
            clear hb3
            go_wp2
            exact bodyPost_ret (v := .tuple #[nodeV 2 F 0 0 (.slice none 0 0), .nilIface]) (ret8t Tryz.results97 rfl rfl HF.out.1) rfl (by rw [HP2.out]; exact ⟨HF.out.2.2, lfT 2 F, rfl, same_self _, lives_lf2 HW.out, up_lf _ _ _, HF.out.2.1⟩)
end Go.Proofs.YtnloepanbjgbaaaGreatDoor
/- The landed code's piece. -/
namespace Go.Proofs.YtnloepanbjgbaaaGreatDoor
open Go.RowKit
/-- A pattern, some times. -/
def repN (lo hi : Int) (t : Tr) : Tr := .node 5 z0 lo hi none 1 1 fun _ => t
def quantsG (N : Nat → Int) : Nat → Tr → Nat → Rs Tr
  | 0, _, i => .er 20 i
  | n + 1, t, i => if atQP N i = true then (match quantP N i with
    | .er e k => .er e k
    | .ok a j => quantsG N n (repN a.1 a.2 t) j) else .ok t i
def pieceG (A : Nat → Nat → Rs (Tr × Nat)) (S : ByteArray) (i c : Nat) : Rs (Tr × Nat) :=
  match A i c with
  | .er e k => .er e k
  | .ok T j => match quantsG (nx S) (S.size + 1) T.1 j with
    | .er e k => .er e k
    | .ok T' k => .ok (T', T.2) k
theorem numL_le (N : Nat → Int) : ∀ (n i : Nat) (a : Int), i ≤ (numL N n i a).2
  | 0, _, _ => Nat.le_refl _
  | n + 1, i, a => by
    rw [numL]
    split
    · exact Nat.le_trans (Nat.le_succ _) (numL_le N n (i + 1) _)
    · exact Nat.le_refl _
theorem numP_le {N : Nat → Int} {i j : Nat} {a : Int} (h : numP N i = .ok a j) : i ≤ j := by
  unfold numP at h
  split at h
  · cases h
  · cases h; exact numL_le _ _ _ _
theorem upperP_le {N : Nat → Int} {lo : Int} {i j : Nat} {a : Int} (h : upperP N lo i = .ok a j) : i ≤ j := by
  unfold upperP at h
  split at h
  · split at h
    · cases h; omega
    · have := numP_le h; omega
  · cases h; omega
theorem bracesP_lt {N : Nat → Int} {i j : Nat} {a : Int × Int} (h : bracesP N i = .ok a j) : i + 2 ≤ j := by
  unfold bracesP at h
  split at h
  · cases h
  · rename_i lo k hk
    have h1 := numP_le hk
    split at h
    · cases h
    · rename_i hi m hm
      have h2 := upperP_le hm
      split at h
      · split at h
        · cases h; omega
        · cases h
      · cases h
theorem quantP_lt {N : Nat → Int} {i j : Nat} {a : Int × Int} (h : quantP N i = .ok a j) : i < j := by
  unfold quantP at h
  split at h
  · have := bracesP_lt h; omega
  · split at h
    · cases h; omega
    · split at h
      · cases h; omega
      · cases h; omega
/-- None of a pattern's rows lies in the block q. -/
def Off (q : Nat) : Tr → Prop
  | .node _ _ _ _ a n _ kid => (0 < n → ∀ b : Addr, a = some b → b.block ≠ q) ∧ ∀ i, i < n → Off q (kid i)
  | .nul => True
theorem Up.off {q : Nat} : ∀ {t : Tr}, Up (q + 1) t → Off q t
  | .node _ _ _ _ _ _ _ kid, ⟨h1, h2⟩ => ⟨fun hn b hb => by have := h1 hn b hb; omega, fun i hi => Up.off (t := kid i) (h2 i hi)⟩
  | .nul, _ => trivial
theorem Lives.offq {w : World} {q B : Nat} (hB : B ≤ q) : ∀ {t : Tr}, Lives w B t → Off q t
  | .node _ _ _ _ _ _ _ kid, ⟨_, _, _, hc, hk⟩ => ⟨fun hn b hb => by obtain ⟨g, off, ha, hg, _⟩ := hc hn; rw [ha] at hb; cases hb; show g ≠ q; omega, fun i hi => Lives.offq hB (t := kid i) (hk i hi)⟩
  | .nul, _ => trivial
theorem Off.lives {w w' : World} {q B : Nat} (hk : ∀ g, g ≠ q → w'.heap[g]? = w.heap[g]?) : ∀ {t : Tr}, Off q t → Lives w B t → Lives w' B t
  | .node _ _ _ _ _ _ _ kid, ⟨u1, u2⟩, ⟨hs, h1, h2, hc, hkid⟩ => ⟨hs, h1, h2, fun hp => by
      obtain ⟨g, off, ha, hg, hc⟩ := hc hp
      refine ⟨g, off, ha, hg, fun i hi => ?_⟩
      have key : ∀ o : Nat, w'.cell? ⟨g, o, none⟩ = w.cell? ⟨g, o, none⟩ := fun o => World.cell?_of_block (hk g (u1 hp _ ha))
      obtain ⟨h0, h1, h2, h3, h4, h5, h6, h7⟩ := hc i hi
      exact ⟨(key _).trans h0, (key _).trans h1, (key _).trans h2, (key _).trans h3, (key _).trans h4, (key _).trans h5, (key _).trans h6, (key _).trans h7⟩,
      fun i hi => Off.lives hk (t := kid i) (u2 i hi) (hkid i hi)⟩
  | .nul, _, h => False.elim h
/-- The reader, and the two boxes of piece. -/
structure PcI (w : World) (p q x : Nat) (C : Cx) (deep i c : Nat) (wr : World) : Prop where
  rd : Rd wr p C i deep c
  grown : w.grownBy wr (some p)
  br : wr.heap[q]? = some (.cells (row8 0 z0 0 0 (.slice none 0 0)) 31 (0, 0))
/-- A pattern in its box. -/
structure BxT (q x : Nat) (t T : Tr) (wr : World) : Prop where
  bx : wr.heap[x]? = some (.cells (row8 t.k t.s t.lo t.hi (.slice t.a t.n t.cap)) 31 (0, 0))
  same : sameT t T = true
  lives : Lives wr wr.heap.size t
  up : Up (q + 1) t
  off : Off x t
/-- In the midst of quantifiers. -/
def PcR (w : World) (p q x : Nat) (C : Cx) (deep c : Nat) (R : Rs (Tr × Nat)) (gk : Nat) (v : Value) (wr : World) : Prop :=
  (v = .nilIface ∧ ∃ i t T, PcI w p q x C deep i c wr ∧ BxT q x t T wr ∧ C.S.size < i + gk ∧ R = (match quantsG (nx C.S) gk T i with
    | .er e k => .er e k
    | .ok T' k => .ok (T', c) k)) ∨
  (∃ e k j k0 s lo hi a n cap, v = errV e k ∧ R = .er e k ∧ k ≤ C.S.size ∧ PcI w p q x C deep j c wr ∧ wr.heap[x]? = some (.cells (row8 k0 s lo hi (.slice a n cap)) 31 (0, 0)))
/-- One quantifier more. -/
theorem BxT.rep {q x : Nat} {t T : Tr} {w1 : World} (h : BxT q x t T w1) (hq : q < x) (lo hi : Int) :
    BxT q x (repX lo hi w1.heap.size t) (repN lo hi T) ((put8 w1 x 5 z0 lo hi (.slice (some ⟨w1.heap.size, 0, none⟩) 1 1)).alloc (.cells (row8 t.k t.s t.lo t.hi (.slice t.a t.n t.cap)) 31)) := by
  have hx := (Array.getElem?_eq_some_iff.1 h.bx).1
  have hsz := put8_size w1 x 5 z0 lo hi (.slice (some ⟨w1.heap.size, 0, none⟩) 1 1)
  have hother : ∀ g, g ≠ x → (put8 w1 x 5 z0 lo hi (.slice (some ⟨w1.heap.size, 0, none⟩) 1 1)).heap[g]? = w1.heap[g]? := fun g hg => put8_other _ x g _ _ _ _ _ hg
  have hst : (put8 w1 x 5 z0 lo hi (.slice (some ⟨w1.heap.size, 0, none⟩) 1 1)).heap[x]? = some (.cells (row8 5 z0 lo hi (.slice (some ⟨w1.heap.size, 0, none⟩) 1 1)) 31 (0, 0)) := stored8 5 z0 lo hi (.slice (some ⟨w1.heap.size, 0, none⟩) 1 1) h.bx
  generalize put8 w1 x 5 z0 lo hi (.slice (some ⟨w1.heap.size, 0, none⟩) 1 1) = w2 at *
  have hlv : Lives w2 w2.heap.size t := (Off.lives hother h.off h.lives).mono (Nat.le_of_eq hsz.symm)
  have hb := alloc_below w2 (.cells (row8 t.k t.s t.lo t.hi (.slice t.a t.n t.cap)) 31)
  have hrow := heap_alloc_new w2 (.cells (row8 t.k t.s t.lo t.hi (.slice t.a t.n t.cap)) 31)
  rw [hsz] at hrow
  refine ⟨(hb.block x (by omega)).trans hst, same_mk rfl (eqS_refl _) rfl rfl rfl fun i _ => h.same, ?_, ⟨fun _ b hb => by cases hb; show q + 1 ≤ w1.heap.size; omega, fun i _ => h.up⟩, ⟨fun _ b hb => by cases hb; show w1.heap.size ≠ x; omega, fun i _ => h.off⟩⟩
  refine ⟨wf_z0, Nat.le_refl _, by unfold maxLen; omega, fun _ => ⟨w1.heap.size, 0, rfl, by simp; omega, fun i hi => ?_⟩, fun i hi => ?_⟩
  · obtain rfl : i = 0 := by omega
    obtain ⟨d0, d1, d2, d3, d4, d5, d6, d7⟩ := cell8 hrow
    exact ⟨d0, d1, d2, d3, d4, d5, d6, d7⟩
  · exact hlv.now hb
set_option maxRecDepth 100000 in
set_option maxHeartbeats 4000000 in
theorem piece_any (A : Nat → Nat → Rs (Tr × Nat)) (D : Df) (w : World) (p : Nat) (C : Cx) (i deep cop : Nat) (h : Rd w p C i deep cop) (hD : DfAt w p C D)
    (hA : ∀ w1 : World, Rd w1 p C i deep cop → DfAt w1 p C D → Calls Tryz.prog 97 #[rp p] w1 (PT w1 p C deep (A i cop))) :
    Calls Tryz.prog 82 #[rp p] w (PT w p C deep (pieceG A C.S i cop)) := by
  have hpq := h.lt
  have hz := h.sz
  have hb0 := alloc_below w (.cells (row8 0 z0 0 0 (.slice none 0 0)) 31)
  have HR0 := Lib.hid (h.below hb0)
  have HG0 := Lib.hid (grown_of_below hb0 (some p))
  have HQ0 := Lib.hid (heap_alloc_new w (.cells (row8 0 z0 0 0 (.slice none 0 0)) 31))
  have HA := Lib.hid (hA _ HR0.out (hD.on hpq HG0.out))
  obtain ⟨R, hR⟩ : ∃ R, R = pieceG A C.S i cop := ⟨_, rfl⟩
  rw [← hR]
  unfold pieceG at hR
  have HE := Lib.hid hR
  clear hR h hb0 hD hA
  obtain ⟨q, hqq⟩ : ∃ q, q = w.heap.size := ⟨_, rfl⟩
  have hqs : w.heap.size ≤ q := by omega
  have hsz1 : (w.alloc (.cells (row8 0 z0 0 0 (.slice none 0 0)) 31)).heap.size = q + 1 := by simp [hqq]
  have HSZ := Lib.hid hsz1
  rw [← hqq] at HQ0
  clear hsz1
  go_enter Tryz.func82, Tryz.ntmps82
  go_wp2_with fail
  refine HA.out.mono ?_
  intro e w1 h1
  rw [← hqq]
  clear HA hqq
  have hq1 : q + 1 ≤ w1.heap.size := by have := h1.1.size; rw [HSZ.out] at this; exact this
  have HG1 := Lib.hid (gtrans HG0.out h1.1)
  have HQ1 := Lib.hid (box_on HQ0.out (show p ≠ q by omega) h1.1)
  obtain ⟨x, hxx⟩ : ∃ x, x = w1.heap.size := ⟨_, rfl⟩
  have hqx : q < x := by omega
  have fin : ∀ (k0 : Int) (s : Nat → Int) (lo hi : Int) (a : Option Addr) (n cap j c : Nat), Rd w1 p C j deep c → PcI w p q x C deep j c (w1.alloc (.cells (row8 k0 s lo hi (.slice a n cap)) 31)) := fun k0 s lo hi a n cap j c hr =>
    have hb := alloc_below w1 (.cells (row8 k0 s lo hi (.slice a n cap)) 31)
    ⟨hr.below hb, gbelow HG1.out hb, (hb.block q (by omega)).trans HQ1.out⟩
  have FIN := Lib.hid fin
  clear fin
  obtain ⟨k0, s, lo, hi, a, n, cap, v, c, rfl, hrel0⟩ : ∃ (k0 : Int) (s : Nat → Int) (lo hi : Int) (a : Option Addr) (n cap : Nat) (v : Value) (c : Nat), e = .returned (.tuple #[nodeV k0 s lo hi (.slice a n cap), v]) ∧ PcR w p q x C deep c R (C.S.size + 1) v (w1.alloc (.cells (row8 k0 s lo hi (.slice a n cap)) 31)) := by
    cases hr1 : A i cop with
    | er e0 k =>
      rw [hr1] at h1
      obtain ⟨hG1, ⟨k0, s, lo, hi, a, n, cap, he⟩, hk, j, c', hR1⟩ := h1
      exact ⟨k0, s, lo, hi, a, n, cap, _, c', he, Or.inr ⟨e0, k, j, k0, s, lo, hi, a, n, cap, rfl, by rw [HE.out, hr1], hk, FIN.out k0 s lo hi a n cap j c' hR1, by rw [hxx]; exact heap_alloc_new _ _⟩⟩
    | ok T j =>
      rw [hr1] at h1
      obtain ⟨hG1, t, he, hs, hL, hU, hR1⟩ := h1
      refine ⟨t.k, t.s, t.lo, t.hi, t.a, t.n, t.cap, _, T.2, he, Or.inl ⟨rfl, j, t, T.1, FIN.out _ _ _ _ _ _ _ j T.2 hR1, ⟨by rw [hxx]; exact heap_alloc_new _ _, hs, hL.now (alloc_below _ _), hU.mono (by rw [HSZ.out]; exact Nat.le_refl _), Lives.offq (Nat.le_of_eq hxx.symm) hL⟩, by omega, by rw [HE.out, hr1]⟩⟩
  have HREL := Lib.hid hrel0
  have HXX := Lib.hid hxx
  clear hrel0 h1 HE FIN HG1 HQ1 HG0 HQ0 HR0 HSZ
  go_wp2
  rw [← hxx]
  clear hxx
  go_loopg [5] (C.S.size + 1) (fun gk v wr => PcR w p q x C deep c R gk v wr)
  case atStart => exact HREL.out
  case round =>
    rcases hrel with ⟨rfl, j, t, T, hI, hB, hgk, hRR⟩ | ⟨e, k, j, k1, s1, lo1, hi1, a1, n1, cap1, rfl, hRR, hk, hI, hbx⟩
    · have hjl := hI.rd.le
      cases gk with
      | zero => omega
      | succ gk =>
      have HQ := Lib.hid (atQ_any wr p C j deep c hI.rd)
      have HI := Lib.hid hI
      have HB := Lib.hid hB
      have HRR := Lib.hid hRR
      clear hI hB hRR HREL HXX
      cases hq : atQP (nx C.S) j
      · rw [hq] at HQ
        have HP := Lib.hid (show R = .ok (T, c) j by rw [HRR.out, quantsG, if_neg (by rw [hq]; simp)])
        have hU := HB.out.up
        obtain ⟨d0, d1, d2, d3, d4, d5, d6, d7⟩ := cell8 HB.out.bx
        obtain ⟨e0, e1, e2, e3, e4, e5, e6, e7⟩ := cell8 (s := z0) HI.out.br
        obtain ⟨f0, f1, f2, f3, f4, f5, f6, f7⟩ := frozen8 (s := z0) HI.out.br
        have HF := Lib.hid (fin8r HI.out.rd HI.out.grown hpq hqs HI.out.br t.k t.s t.lo t.hi (.slice t.a t.n t.cap))
        have HPT := Lib.hid (show PT w p C deep R (.returned (.tuple #[nodeV t.k t.s t.lo t.hi (.slice t.a t.n t.cap), .nilIface])) (put8 wr q t.k t.s t.lo t.hi (.slice t.a t.n t.cap)) by
          rw [HP.out]; exact ⟨HF.out.2.2, t, rfl, HB.out.same, lives_put8u hU HB.out.lives _ _ _ _ _, hU.mono (by omega), HF.out.2.1⟩)
        clear hq HRR hU HB HI HP
        go_wp2_with (go_at_call 98; refine HQ.out.mono ?_; rintro e w' ⟨rfl, rfl⟩)
        exact bodyPost_ret (v := .tuple #[nodeV t.k t.s t.lo t.hi (.slice t.a t.n t.cap), .nilIface]) (ret8t Tryz.results82 rfl rfl HF.out.1) rfl HPT.out
      · rw [hq] at HQ
        have HU := Lib.hid (quantifier_any wr p C j deep c HI.out.rd hq)
        have HP := Lib.hid HRR.out
        rw [quantsG, if_pos hq] at HP
        clear hq HRR
        go_wp2_with fail
        refine HQ.out.mono ?_
        rintro e w' ⟨rfl, rfl⟩
        go_wp2_with fail
        refine HU.out.mono ?_
        intro e w3 h3
        clear HQ HU
        have hG3 := h3.1
        have HL3 := Lib.hid (HB.out.lives.on HI.out.rd hG3)
        have HX3 := Lib.hid (box_on HB.out.bx (show p ≠ x by omega) hG3)
        have HB3 := Lib.hid (show BxT q x t T w3 from ⟨HX3.out, HB.out.same, HL3.out, HB.out.up, HB.out.off⟩)
        have HQ3 := Lib.hid (box_on HI.out.br (show p ≠ q by omega) hG3)
        have HG3 := Lib.hid (gtrans HI.out.grown hG3)
        have hx3 := (Array.getElem?_eq_some_iff.1 HX3.out).1
        obtain ⟨d0, d1, d2, d3, d4, d5, d6, d7⟩ := cell8 HX3.out
        obtain ⟨f0, f1, f2, f3, f4, f5, f6, f7⟩ := frozen8 HX3.out
        have key : ∀ (lo2 hi2 : Int) (j3 : Nat), Rd w3 p C j3 deep c → PcI w p q x C deep j3 c ((put8 w3 x 5 z0 lo2 hi2 (.slice (some ⟨w3.heap.size, 0, none⟩) 1 1)).alloc (.cells (row8 t.k t.s t.lo t.hi (.slice t.a t.n t.cap)) 31)) := fun lo2 hi2 j3 hr => by
          obtain ⟨_, u2, u3⟩ := fin8r hr HG3.out hpq (show w.heap.size ≤ x by omega) HX3.out 5 z0 lo2 hi2 (.slice (some ⟨w3.heap.size, 0, none⟩) 1 1)
          have hq2 := (put8_other w3 x q 5 z0 lo2 hi2 (.slice (some ⟨w3.heap.size, 0, none⟩) 1 1) (by omega)).trans HQ3.out
          generalize put8 w3 x 5 z0 lo2 hi2 (.slice (some ⟨w3.heap.size, 0, none⟩) 1 1) = w4 at *
          have hb := alloc_below w4 (.cells (row8 t.k t.s t.lo t.hi (.slice t.a t.n t.cap)) 31)
          exact ⟨u2.below hb, gbelow u3 hb, (hb.block q (Array.getElem?_eq_some_iff.1 hq2).1).trans hq2⟩
        have KEY := Lib.hid key
        clear key hG3
        cases hr3 : quantP (nx C.S) j with
        | er e0 k =>
          rw [hr3] at h3 HP
          obtain ⟨_, rfl, hk, j3, hR3⟩ := h3
          have HN := Lib.hid (show PcR w p q x C deep c R gk (errV e0 k) ((put8 w3 x 5 z0 0 0 (.slice (some ⟨w3.heap.size, 0, none⟩) 1 1)).alloc (.cells (row8 t.k t.s t.lo t.hi (.slice t.a t.n t.cap)) 31)) from
            Or.inr ⟨e0, k, j3, 5, z0, 0, 0, _, _, _, rfl, HP.out, hk, KEY.out 0 0 j3 hR3, (HB3.out.rep hqx 0 0).bx⟩)
          clear hR3 hr3 HP KEY HB3 HQ3 HG3 HL3 HX3 HB HI
          go_wp2
          go_roundg gk
          case rel => exact HN.out
          case measure => omega
        | ok ab j3 =>
          have hlt3 := quantP_lt hr3
          rw [hr3] at h3 HP
          obtain ⟨_, rfl, hR3⟩ := h3
          have HN := Lib.hid (show PcR w p q x C deep c R gk .nilIface ((put8 w3 x 5 z0 ab.1 ab.2 (.slice (some ⟨w3.heap.size, 0, none⟩) 1 1)).alloc (.cells (row8 t.k t.s t.lo t.hi (.slice t.a t.n t.cap)) 31)) from
            Or.inl ⟨rfl, j3, _, _, KEY.out ab.1 ab.2 j3 hR3, HB3.out.rep hqx ab.1 ab.2, by omega, HP.out⟩)
          clear hR3 hr3 HP KEY HB3 HQ3 HG3 HL3 HX3 HB HI
          generalize ab.1 = lo2 at *
          generalize ab.2 = hi2 at *
          go_wp2
          go_roundg gk
          case rel => exact HN.out
          case measure => omega
    · obtain ⟨d0, d1, d2, d3, d4, d5, d6, d7⟩ := cell8 hbx
      obtain ⟨e0, e1, e2, e3, e4, e5, e6, e7⟩ := cell8 (s := z0) hI.br
      obtain ⟨f0, f1, f2, f3, f4, f5, f6, f7⟩ := frozen8 (s := z0) hI.br
      have HF := Lib.hid (fin8r hI.rd hI.grown hpq hqs hI.br k1 s1 lo1 hi1 (.slice a1 n1 cap1))
      have HPT := Lib.hid (show PT w p C deep R (.returned (.tuple #[nodeV k1 s1 lo1 hi1 (.slice a1 n1 cap1), errV e k])) (put8 wr q k1 s1 lo1 hi1 (.slice a1 n1 cap1)) by
        rw [hRR]; exact ⟨HF.out.2.2, ⟨k1, s1, lo1, hi1, a1, n1, cap1, rfl⟩, hk, j, c, HF.out.2.1⟩)
      clear hI hbx hRR HREL HXX
      go_wp2
      exact bodyPost_ret (v := .tuple #[nodeV k1 s1 lo1 hi1 (.slice a1 n1 cap1), errV e k]) (ret8t Tryz.results82 rfl rfl HF.out.1) rfl HPT.out
end Go.Proofs.YtnloepanbjgbaaaGreatDoor
