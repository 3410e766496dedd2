/- Contracts of the landed code's couple.leave and Same, for any patterns. -/
import Derived.Test.YtadiphijfbpcnaaDoorX
namespace Go.Proofs.YtadiphijfbpcnaaDoor
open Go.RowKit
/-- Are two patterns the same, with all in them? -/
def sameT : Tr → Tr → Bool
  | .node k s lo hi a n cap kid, u => likeB (.node k s lo hi a n cap kid) u && allTo (fun i => sameT (kid i) (u.kid i)) n
  | .nul, u => likeB .nul u
theorem sameT_eq (t u : Tr) : sameT t u = (likeB t u && allTo (fun i => sameT (t.kid i) (u.kid i)) t.n) := by
  cases t with
  | node => rfl
  | nul => simp [sameT, allTo, Tr.n]
/-- Kids that are still to be compared. -/
structure Cp where
  g : Nat
  off : Nat
  cap : Nat
  kid : Nat → Tr
  n : Nat
  g' : Nat
  off' : Nat
  cap' : Nat
  kid' : Nat → Tr
abbrev Cp.sl (c : Cp) : Value := .slice (some ⟨c.g, c.off, none⟩) c.n c.cap
abbrev Cp.sl' (c : Cp) : Value := .slice (some ⟨c.g', c.off', none⟩) c.n c.cap'
def flatC (cs : List Cp) : List Value := cs.flatMap fun c => [c.sl, c.sl']
theorem flatC_append (bs cs : List Cp) : flatC (bs ++ cs) = flatC bs ++ flatC cs := by simp [flatC]
theorem flatC_length (bs : List Cp) : (flatC bs).length = bs.length * 2 := by
  induction bs with
  | nil => rfl
  | cons b r ih => simp [flatC] at ih ⊢; omega
def tailC (c : Cp) : List Cp := if c.n = 1 then [] else [⟨c.g, c.off + 8, c.cap - 1, fun i => c.kid (i + 1), c.n - 1, c.g', c.off' + 8, c.cap' - 1, fun i => c.kid' (i + 1)⟩]
def CpL (w : World) (B : Nat) (c : Cp) : Prop :=
  0 < c.n ∧ c.n ≤ c.cap ∧ c.n ≤ c.cap' ∧ c.g < B ∧ c.g' < B ∧ (∀ i, i < c.n → At8 w c.g (c.off + i * 8) (c.kid i)) ∧ (∀ i, i < c.n → At8 w c.g' (c.off' + i * 8) (c.kid' i)) ∧ (∀ i, i < c.n → Lives w B (c.kid i)) ∧ ∀ i, i < c.n → Lives w B (c.kid' i)
theorem CpL.below {w w' : World} {B : Nat} {c : Cp} (h : CpL w B c) (hb : Below B w w') : CpL w' B c := by
  obtain ⟨h1, h2, h3, h4, h5, h6, h7, h8, h9⟩ := h
  exact ⟨h1, h2, h3, h4, h5, fun i hi => (h6 i hi).below h4 hb, fun i hi => (h7 i hi).below h5 hb, fun i hi => (h8 i hi).below hb, fun i hi => (h9 i hi).below hb⟩
theorem CpL.tail {w : World} {B : Nat} {c : Cp} (h : CpL w B c) : ∀ d ∈ tailC c, CpL w B d := by
  obtain ⟨h1, h2, h3, h4, h5, h6, h7, h8, h9⟩ := h
  intro d hd
  unfold tailC at hd
  split at hd
  · cases hd
  · rename_i q
    rw [List.mem_singleton] at hd
    subst hd
    refine ⟨by show 0 < c.n - 1; omega, by show c.n - 1 ≤ c.cap - 1; omega, by show c.n - 1 ≤ c.cap' - 1; omega, h4, h5, fun i hi => ?_, fun i hi => ?_, fun i hi => h8 (i + 1) (by have : i < c.n - 1 := hi; omega), fun i hi => h9 (i + 1) (by have : i < c.n - 1 := hi; omega)⟩
    · have := h6 (i + 1) (by have : i < c.n - 1 := hi; omega)
      rw [show c.off + (i + 1) * 8 = c.off + 8 + i * 8 by omega] at this
      exact this
    · have := h7 (i + 1) (by have : i < c.n - 1 := hi; omega)
      rw [show c.off' + (i + 1) * 8 = c.off' + 8 + i * 8 by omega] at this
      exact this
def sumC (f : Tr → Nat) (c : Cp) : Nat := sumTo (fun i => f (c.kid i)) c.n
def pendC (cs : List Cp) : Nat := (cs.map (sumC cnt)).sum
def restC (cs : List Cp) : Nat := (cs.map (sumC dsc)).sum
def sameC (c : Cp) : Bool := allTo (fun i => sameT (c.kid i) (c.kid' i)) c.n
def allC (cs : List Cp) : Bool := cs.all sameC
theorem sumC_tail (f : Tr → Nat) {c : Cp} (h : 0 < c.n) : sumC f c = f (c.kid 0) + ((tailC c).map (sumC f)).sum := by
  unfold tailC
  split
  · rename_i q
    unfold sumC
    rw [q]
    simp [sumTo]
  · simp only [List.map_cons, List.map_nil, List.sum_cons, List.sum_nil, Nat.add_zero]
    unfold sumC
    show sumTo _ c.n = _ + sumTo _ (c.n - 1)
    rw [show c.n = (c.n - 1) + 1 by omega, sumTo_front]
    simp
theorem allTo_front (p : Nat → Bool) : ∀ n, allTo p (n + 1) = (p 0 && allTo (fun i => p (i + 1)) n)
  | 0 => by simp [allTo]
  | n + 1 => by
    rw [allTo, allTo_front p n]
    simp only [allTo, Bool.and_assoc]
theorem sameC_tail {c : Cp} (h : 0 < c.n) : sameC c = (sameT (c.kid 0) (c.kid' 0) && allC (tailC c)) := by
  unfold tailC
  split
  · rename_i q
    unfold sameC allC
    rw [q]
    simp [allTo]
  · simp only [allC, List.all_cons, List.all_nil, Bool.and_true]
    unfold sameC
    show allTo _ c.n = (_ && allTo _ (c.n - 1))
    rw [show c.n = (c.n - 1) + 1 by omega, allTo_front]
    simp
theorem pendC_append (bs cs : List Cp) : pendC (bs ++ cs) = pendC bs + pendC cs := by simp [pendC]
theorem restC_append (bs cs : List Cp) : restC (bs ++ cs) = restC bs + restC cs := by simp [restC]
theorem allC_append (bs cs : List Cp) : allC (bs ++ cs) = (allC bs && allC cs) := by simp [allC]
theorem pendC_one (b : Cp) : pendC [b] = sumC cnt b := by simp [pendC]
theorem restC_one (b : Cp) : restC [b] = sumC dsc b := by simp [restC]
theorem allC_one (b : Cp) : allC [b] = sameC b := by simp [allC]
theorem pendC_pop (bs : List Cp) {b : Cp} (h : 0 < b.n) : pendC (bs ++ [b]) = pendC (bs ++ tailC b) + cnt (b.kid 0) := by
  rw [pendC_append, pendC_append, pendC_one, sumC_tail cnt h]; unfold pendC; omega
theorem restC_pop (bs : List Cp) {b : Cp} (h : 0 < b.n) : restC (bs ++ [b]) = restC (bs ++ tailC b) + dsc (b.kid 0) := by
  rw [restC_append, restC_append, restC_one, sumC_tail dsc h]; unfold restC; omega
theorem allC_pop (bs : List Cp) {b : Cp} (h : 0 < b.n) : allC (bs ++ [b]) = (allC (bs ++ tailC b) && sameT (b.kid 0) (b.kid' 0)) := by
  rw [allC_append, allC_append, allC_one, sameC_tail h, Bool.and_comm (sameT _ _), Bool.and_assoc]
theorem pendC_len (bs : List Cp) (h : ∀ b ∈ bs, 0 < b.n) : bs.length ≤ pendC bs := by
  induction bs with
  | nil => simp
  | cons b r ih =>
    have h1 := ih fun c hc => h c (List.mem_cons_of_mem _ hc)
    have h2 : 1 ≤ sumC cnt b := by rw [sumC_tail cnt (h b List.mem_cons_self)]; have := cnt_pos (b.kid 0); omega
    simp only [pendC, List.map_cons, List.sum_cons, List.length_cons] at h1 ⊢
    omega
theorem info51 : (Tryd.prog.info? 51).map (fun i => (i.zero, i.size, i.bytes)) = some (some (.agg #[.slice none 0 0, .slice none 0 0]), 2, 48) := by kernel_rfl
set_option maxRecDepth 100000 in
set_option maxHeartbeats 1000000 in
theorem cleave_one (a a' : Option Addr) (cap cap' : Nat) (v : Value) (w : World) :
    Calls Tryd.prog 28 #[.agg #[.slice a 1 cap, .slice a' 1 cap'], v] w fun e w' => e = .returned v ∧ ∃ o, w' = w.alloc o := by
  go_enter Tryd.func28, Tryd.ntmps28
  go_wp2
  go_ret
  exact ⟨rfl, _, rfl⟩
set_option maxRecDepth 100000 in
set_option maxHeartbeats 1000000 in
theorem cleave_more (g off g' off' n cap cap' : Nat) (base L : Nat) (xs : List Value) (v : Value) (w : World) (hn : 2 ≤ n) (hcap : n ≤ cap) (hcap' : n ≤ cap') (hL : L ≤ 5000) (hbase : base ≤ w.heap.size)
    (hown : w.ownsRow base 51 2 v L xs) :
    Calls Tryd.prog 28 #[.agg #[.slice (some ⟨g, off, none⟩) n cap, .slice (some ⟨g', off', none⟩) n cap'], v] w fun e w' => ∃ v', e = .returned v' ∧ w'.ownsRow base 51 2 v' (L + 1) (xs ++ [.slice (some ⟨g, off + 8, none⟩) (n - 1) (cap - 1), .slice (some ⟨g', off' + 8, none⟩) (n - 1) (cap' - 1)]) ∧ w.grownBy w' v.ownBlock := by
  obtain ⟨i0, hi, hz0, hz1, hz2⟩ := info_parts info51
  have hn1 : ((n : Int) == 1) = false := by simp; omega
  have hc1 : ¬ cap = 1 := by omega
  have hc1' : ¬ cap' = 1 := by omega
  have i1 : (1 : Int) ≤ (n : Int) := by omega
  have i2 : (1 : Int) ≤ (cap : Int) := by omega
  have i3 : (n : Int) ≤ (cap : Int) := by omega
  have i2' : (1 : Int) ≤ (cap' : Int) := by omega
  have i3' : (n : Int) ≤ (cap' : Int) := by omega
  have i4 : 1 ≤ n := by omega
  have i5 : 1 ≤ cap := by omega
  have i5' : 1 ≤ cap' := by omega
  go_enter Tryd.func28, Tryd.ntmps28
  go_wp2_with fail
  have HK := Lib.hid (heap_alloc_new w (.cells #[.slice (some ⟨g, off, none⟩) n cap, .slice (some ⟨g', off', none⟩) n cap'] 51))
  have hO := hown.alloc (.cells #[.slice (some ⟨g, off, none⟩) n cap, .slice (some ⟨g', off', none⟩) n cap'] 51)
  have HG := Lib.hid (World.grownBy_alloc w (.cells #[.slice (some ⟨g, off, none⟩) n cap, .slice (some ⟨g', off', none⟩) n cap'] 51) v.ownBlock)
  have hne : some w.heap.size ≠ v.ownBlock := fun e => by have := (hown.lt _ e.symm).2; omega
  have hbq : base ≤ (w.alloc (.cells #[.slice (some ⟨g, off, none⟩) n cap, .slice (some ⟨g', off', none⟩) n cap'] 51)).heap.size := by simp; omega
  generalize hwq : w.alloc (.cells #[.slice (some ⟨g, off, none⟩) n cap, .slice (some ⟨g', off', none⟩) n cap'] 51) = wq at *
  clear hwq
  obtain ⟨c0, c1⟩ := keep2 HK.out (grownBy_refl wq v.ownBlock) hne
  generalize w.heap.size = p at *
  go_region_held3 (fun w' => w'.cell? ⟨p, 0, none⟩ = some (.slice (some ⟨g, off, none⟩) n cap) ∧ w'.cell? ⟨p, 1, none⟩ = some (.slice (some ⟨g', off', none⟩) n cap'))
    (first | exact keep2 HK.out (grownBy_refl _ _) hne | exact keep2 HK.out (grownBy_drew _ _) hne | exact keep2 HK.out (grownBy_trans (grownBy_drew _ _) (World.grownBy_alloc _ _ _)) hne | exact keep2 HK.out (grownBy_trans (grownBy_trans (grownBy_drew _ _) (World.grownBy_alloc _ _ _)) hgrow) hne)
    (first
      | (refine step_append_own (by rfl) (.tmp 10) (.tmp 18) 52 (by rfl) base 51 i0 _ 2 48 Tryd.underlying52 hi hz0 hz1 hz2 rfl (by omega) v L xs (by rfl) (World.ownsRow.alloc (w := wq.drew) hO _) ⟨wq.heap.size, 0, none⟩ 1 1 [.slice (some ⟨g, off + 8, none⟩) (n - 1) (cap - 1), .slice (some ⟨g', off' + 8, none⟩) (n - 1) (cap' - 1)] (by rfl) (by rfl) (World.news_of_block (cs := #[.slice (some ⟨g, off + 8, none⟩) (n - 1) (cap - 1), .slice (some ⟨g', off' + 8, none⟩) (n - 1) (cap' - 1)]) (t := 51) (fr := (0, 0)) (heap_alloc_new wq.drew _)) (by simp [Value.oneCell']) (by unfold maxLen; omega) (by omega) (by simp; omega) ?_; intro v1 w1 hown1 hgrow hnil))
  go_wp2
  go_ret
  exact ⟨_, rfl, hown1, grownBy_trans HG.out (grownBy_trans (grownBy_trans (grownBy_drew _ _) (World.grownBy_alloc _ _ _)) hgrow)⟩
theorem cleave_any (c : Cp) (base L : Nat) (xs : List Value) (v : Value) (w : World) (hn : 0 < c.n) (hcap : c.n ≤ c.cap) (hcap' : c.n ≤ c.cap') (hL : L ≤ 5000) (hbase : base ≤ w.heap.size) (hown : w.ownsRow base 51 2 v L xs) :
    Calls Tryd.prog 28 #[.agg #[c.sl, c.sl'], v] w fun e w' => ∃ v', e = .returned v' ∧ w'.ownsRow base 51 2 v' (L + (tailC c).length) (xs ++ flatC (tailC c)) ∧ w.grownBy w' v.ownBlock := by
  obtain ⟨g, off, cap, kid, n, g', off', cap', kid'⟩ := c
  by_cases h1 : n = 1
  · subst h1
    refine (cleave_one _ _ cap cap' v w).mono ?_
    rintro e w' ⟨rfl, o, rfl⟩
    refine ⟨v, rfl, ?_, World.grownBy_alloc _ _ _⟩
    have := hown.alloc o
    simpa [tailC, flatC] using this
  · refine (cleave_more g off g' off' n cap cap' base L xs v w (by have : 0 < n := hn; omega) hcap hcap' hL hbase hown).mono ?_
    rintro e w' ⟨v', rfl, hown', hg⟩
    refine ⟨v', rfl, ?_, hg⟩
    simpa [tailC, flatC, h1] using hown'
/-- What holds of what is still to be compared. -/
def SmI (B : Nat) (R : Bool) (gk E : Nat) (v : Value) (wr : World) : Prop :=
  ∃ cs : List Cp, wr.ownsRow B 51 2 v cs.length (flatC cs) ∧ (∀ c ∈ cs, CpL wr B c) ∧ gk = pendC cs ∧ pendC cs ≤ 2000 ∧ E + restC cs ≤ 2000 ∧ allC cs = R
theorem topC_cells {w : World} {B g c : Nat} {bs : List Cp} {b : Cp} (h : w.ownsRow B 51 2 (.slice (some ⟨g, 0, none⟩) (bs.length + 1) c) (bs.length + 1) (flatC (bs ++ [b]))) :
    w.cell? ⟨g, bs.length * 2, none⟩ = some b.sl ∧ w.cell? ⟨g, bs.length * 2 + 1, none⟩ = some b.sl' := by
  obtain ⟨g', c', hv, _, _, _, _, hc⟩ := row_cells h (by omega)
  injection hv with h1 _ h2
  injection h1 with h1
  injection h1 with h1
  subst h1
  have hl := flatC_length bs
  constructor
  · apply hc
    rw [flatC_append, List.getElem?_append_right (by omega), hl]
    simp [flatC]
  · apply hc
    rw [flatC_append, List.getElem?_append_right (by omega), hl]
    simp [flatC]
theorem rowC_cut {w : World} {B g c : Nat} {bs : List Cp} {b : Cp} (h : w.ownsRow B 51 2 (.slice (some ⟨g, 0, none⟩) (bs.length + 1) c) (bs.length + 1) (flatC (bs ++ [b]))) : w.ownsRow B 51 2 (.slice (some ⟨g, 0, none⟩) bs.length c) bs.length (flatC bs) := by
  obtain ⟨_, ⟨hv, _⟩ | ⟨g', cap, cur, hv, hg, hh, h1, h2, h3, h4⟩⟩ := h
  · cases hv
  · injection hv with e1 _ e2
    injection e1 with e1
    injection e1 with e1
    subst e1 e2
    refine ⟨flatC_length bs, Or.inr ⟨g, c, cur, rfl, hg, hh, by omega, h2, h3, ?_⟩⟩
    have : (cur.toList.take ((bs.length + 1) * 2)).take (bs.length * 2) = (flatC (bs ++ [b])).take (bs.length * 2) := by rw [h4]
    rw [List.take_take, Nat.min_eq_left (by omega)] at this
    rw [this, flatC_append, ← flatC_length bs, List.take_left]
/-- Two that are alike and have no kids are taken off. -/
theorem smI_leaf {B E : Nat} {R : Bool} {bs : List Cp} {b : Cp} {v : Value} {wr w1 : World} (hn : 0 < b.n) (hbr : ∀ c ∈ bs ++ [b], CpL wr B c) (hpe : pendC (bs ++ [b]) ≤ 2000) (hre : E + restC (bs ++ [b]) ≤ 2000) (hto : allC (bs ++ [b]) = R)
    (hlk : likeB (b.kid 0) (b.kid' 0) = true) (hz : (b.kid 0).n = 0) (hown : w1.ownsRow B 51 2 v (bs.length + (tailC b).length) (flatC bs ++ flatC (tailC b))) (hb : Below B wr w1) :
    SmI B R (pendC (bs ++ tailC b)) E v w1 ∧ pendC (bs ++ tailC b) < pendC (bs ++ [b]) := by
  have h1 := pendC_pop bs hn
  have h2 := restC_pop bs hn
  have h3 := allC_pop bs hn
  have h4 := cnt_pos (b.kid 0)
  refine ⟨⟨bs ++ tailC b, by rw [flatC_append, List.length_append]; exact hown, fun c hc => ?_, rfl, by omega, by omega, ?_⟩, by omega⟩
  · rcases List.mem_append.1 hc with q | q
    · exact (hbr c (by simp [q])).below hb
    · exact ((hbr b (by simp)).below hb).tail c q
  · rw [sameT_eq, hlk, hz] at h3
    rw [← hto, h3]
    simp [allTo]
/-- Two that are alike are taken off, and their kids come in their place. -/
theorem smI_kids {B E : Nat} {R : Bool} {bs : List Cp} {b c : Cp} {v : Value} {wr w1 : World} (hn : 0 < b.n) (hbr : ∀ c ∈ bs ++ [b], CpL wr B c) (hpe : pendC (bs ++ [b]) ≤ 2000) (hre : E + restC (bs ++ [b]) ≤ 2000) (hto : allC (bs ++ [b]) = R)
    (hlk : likeB (b.kid 0) (b.kid' 0) = true) (hcn : c.n = (b.kid 0).n) (hck : c.kid = (b.kid 0).kid) (hck' : c.kid' = (b.kid' 0).kid) (hc : CpL w1 B c)
    (hown : w1.ownsRow B 51 2 v (bs.length + (tailC b).length + 1) (flatC bs ++ flatC (tailC b) ++ flatC [c])) (hb : Below B wr w1) :
    SmI B R (pendC (bs ++ tailC b ++ [c])) (E + (b.kid 0).n) v w1 ∧ pendC (bs ++ tailC b ++ [c]) < pendC (bs ++ [b]) := by
  have h1 := pendC_pop bs hn
  have h2 := restC_pop bs hn
  have h3 := allC_pop bs hn
  have h4 := cnt_dsc (b.kid 0)
  have h5 : sumC cnt c = dsc (b.kid 0) := by unfold sumC dsc; rw [hcn, hck]
  have h6 : dsc (b.kid 0) = (b.kid 0).n + sumC dsc c := by rw [dsc_split]; unfold sumC; rw [hcn, hck]
  have h7 : pendC (bs ++ tailC b ++ [c]) = pendC (bs ++ tailC b) + sumC cnt c := by rw [pendC_append, pendC_one]
  have h8 : restC (bs ++ tailC b ++ [c]) = restC (bs ++ tailC b) + sumC dsc c := by rw [restC_append, restC_one]
  refine ⟨⟨bs ++ tailC b ++ [c], by rw [flatC_append, flatC_append, List.length_append, List.length_append]; exact hown, fun d hd => ?_, rfl, by omega, by omega, ?_⟩, by omega⟩
  · rcases List.mem_append.1 hd with q | q
    · rcases List.mem_append.1 q with q | q
      · exact (hbr d (by simp [q])).below hb
      · exact ((hbr b (by simp)).below hb).tail d q
    · rw [List.mem_singleton] at q; rw [q]; exact hc
  · rw [← hto, h3, allC_append, allC_one, sameT_eq, hlk, Bool.true_and]
    unfold sameC
    rw [hcn, hck, hck']
theorem smI_not {bs : List Cp} {b : Cp} {R : Bool} (hn : 0 < b.n) (hto : allC (bs ++ [b]) = R) (hlk : likeB (b.kid 0) (b.kid' 0) = false) : R = false := by
  rw [← hto, allC_pop bs hn, sameT_eq, hlk]; simp
theorem smI_empty {B gk E : Nat} {R : Bool} {a : Option Addr} {c : Nat} {wr : World} (h : SmI B R gk E (.slice a 0 c) wr) : R = true := by
  obtain ⟨bs, hown, _, _, _, _, ht⟩ := h
  have : bs = [] := by
    obtain ⟨_, ⟨_, h0⟩ | ⟨g, cap, cur, hv, _⟩⟩ := hown
    · exact List.eq_nil_of_length_eq_zero h0
    · injection hv with _ h1 _; exact List.eq_nil_of_length_eq_zero h1.symm
  subst this
  rw [← ht]; rfl
end Go.Proofs.YtadiphijfbpcnaaDoor
