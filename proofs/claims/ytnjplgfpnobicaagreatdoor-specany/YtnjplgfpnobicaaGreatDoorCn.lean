/- Contracts of the landed code's condLine, text, patternText, matchText. -/
import Derived.Test.YtnjplgfpnobicaaGreatDoorCl
import Derived.Test.YtnjplgfpnobicaaGreatDoorBk
import Derived.Test.YtnjplgfpnobicaaGreatDoorSk
import Derived.Maps.AppendAt
namespace Go.Proofs.YtnjplgfpnobicaaGreatDoor
open Go.RowKit
/-- A name's bytes. -/
def nmL (c : Cn) : List UInt8 := c.nm.data.toList
theorem nm_eta (s : ByteArray) : ∃ l : List UInt8, s = ⟨l.toArray⟩ ∧ l = s.data.toList ∧ l.length = s.size := ⟨s.data.toList, by cases s; simp, rfl, by cases s; simp [ByteArray.size]⟩
def condT (c : Cn) : List UInt8 := [37, if c.ex = true then 120 else 115, 32] ++ nmL c
set_option maxRecDepth 100000 in
theorem condLine_any (c : Cn) (w : World) (hn : c.nm.size ≤ 12) : Calls Tryz.prog 56 #[condV c] w fun e w' => e = .returned (strV (condT c)) ∧ Below w.heap.size w w' := by
  obtain ⟨nm, ex⟩ := c
  obtain ⟨l, rfl, hl, hs⟩ := nm_eta nm
  have hl12 : l.length ≤ 12 := by rw [hs]; exact hn
  have HL := Lib.hid hl
  clear hn hl hs
  cases ex
  · have ha := fun w => str_add [37, 115, 32] l (by simp only [List.length_cons, List.length_nil]; omega) w
    have HX := Lib.hid (show condT ⟨⟨l.toArray⟩, false⟩ = [37, 115, 32] ++ l by unfold condT nmL; simp)
    rw [HX.out]
    generalize [37, 115, 32] ++ l = U at *
    clear HX HL
    go_enter Tryz.func56, Tryz.ntmps56
    go_wp2
    go_ret
    exact ⟨rfl, alloc_below _ _⟩
  · have ha := fun w => str_add [37, 120, 32] l (by simp only [List.length_cons, List.length_nil]; omega) w
    have HX := Lib.hid (show condT ⟨⟨l.toArray⟩, true⟩ = [37, 120, 32] ++ l by unfold condT nmL; simp)
    rw [HX.out]
    generalize [37, 120, 32] ++ l = U at *
    clear HX HL
    go_enter Tryz.func56, Tryz.ntmps56
    go_wp2
    go_ret
    exact ⟨rfl, alloc_below _ _⟩
/-- What a rule does, printed. -/
def actT (act : Int) (l : List UInt8) : List UInt8 := if act = 1 then [101, 109, 105, 116] else if act = 2 then [115, 107, 105, 112] else [98, 101, 103, 105, 110, 32] ++ l
set_option maxRecDepth 100000 in
theorem action_text (act : Int) (l : List UInt8) (w : World) (hl : l.length ≤ 12) : Calls Tryz.prog 88 #[.agg #[.int .i64 act, .string ⟨l.toArray⟩]] w fun e w' => e = .returned (strV (actT act l)) ∧ Below w.heap.size w w' := by
  obtain ⟨X, hX⟩ : ∃ X, X = actT act l := ⟨_, rfl⟩
  rw [← hX]
  unfold actT at hX
  by_cases h1 : act = 1
  · subst h1
    rw [if_pos rfl] at hX
    subst hX
    go_enter Tryz.func88, Tryz.ntmps88
    go_wp2
    go_ret
    exact ⟨rfl, alloc_below _ _⟩
  · have h1' : (act == 1) = false := by simp [h1]
    rw [if_neg h1] at hX
    by_cases h2 : act = 2
    · subst h2
      rw [if_pos rfl] at hX
      subst hX
      go_enter Tryz.func88, Tryz.ntmps88
      go_wp2
      go_ret
      exact ⟨rfl, alloc_below _ _⟩
    · have h2' : (act == 2) = false := by simp [h2]
      rw [if_neg h2] at hX
      have ha := fun w => str_add [98, 101, 103, 105, 110, 32] l (by simp only [List.length_cons, List.length_nil]; omega) w
      rw [← hX] at ha
      clear hX
      go_enter Tryz.func88, Tryz.ntmps88
      go_wp2
      go_ret
      exact ⟨rfl, alloc_below _ _⟩
set_option maxRecDepth 100000 in
set_option maxHeartbeats 1000000 in
theorem patternText_any (t : Tr) (w : World) (hL : Lives w w.heap.size t) (hr : rightB t = true) : Calls Tryz.prog 114 #[t.val] w fun e w' => e = .returned (strV (txt t)) ∧ Below w.heap.size w w' := by
  have HP := Lib.hid (fun w1 (hb : Below w.heap.size w w1) => print_any t w1 (hL.now hb))
  have HV := Lib.hid (show printV t = .tuple #[.string ⟨(txt t).toArray⟩, .int .i64 0] by unfold printV; rw [if_pos hr])
  rw [HV.out] at HP
  clear hL hr HV
  obtain ⟨T, hT⟩ : ∃ T, T = txt t := ⟨_, rfl⟩
  rw [← hT] at HP ⊢
  clear hT
  show Calls Tryz.prog 114 #[nodeV t.k t.s t.lo t.hi (.slice t.a t.n t.cap)] w _
  go_enter Tryz.func114, Tryz.ntmps114
  go_wp2_with fail
  refine (HP.out _ (alloc_below _ _)).mono ?_
  rintro e w1 ⟨rfl, hb1⟩
  have HB1 := Lib.hid (box_below hb1)
  clear hb1
  go_wp2
  go_ret
  exact ⟨rfl, HB1.out⟩
/-- What a rule matches, printed. -/
def matchT (r : Rl) : List UInt8 := if r.eof = true then [60, 60, 69, 79, 70, 62, 62] else if noneB r.tr = true then (if r.bol = true then [94] ++ txt r.rx else txt r.rx) else (if r.bol = true then [94] ++ txt r.rx else txt r.rx) ++ ([47] ++ txt r.tr)
theorem txt_right {t : Tr} (h : rightB t = true) : (txt t).length ≤ 3000000 ∧ cnt t ≤ 1000 := by
  have h1 := txt_len t
  unfold rightB at h
  simp only [Bool.and_eq_true, decide_eq_true_eq] at h
  have := h.2.1
  omega
set_option maxRecDepth 100000 in
set_option maxHeartbeats 4000000 in
theorem matchText_any (r : Rl) (w : World) (hx : Lives w w.heap.size r.rx) (ht : Lives w w.heap.size r.tr) (ct : cnt r.tr ≤ 2000) (hp : patB r = true) : Calls Tryz.prog 87 #[ruleV r] w fun e w' => e = .returned (strV (matchT r)) ∧ Below w.heap.size w w' := by
  obtain ⟨ca, cn, cc, cs, al, bo, rx, tr, ef, ac, to⟩ := r
  dsimp only at hx ht ct
  unfold patB at hp
  dsimp only at hp
  have HNT : Hid (∀ o w1, Bx w o w1 → Calls Tryz.prog 77 #[nodeV tr.k tr.s tr.lo tr.hi (.slice tr.a tr.n tr.cap)] w1 fun e w' => e = .returned (.bool (noneB tr)) ∧ Bx w o w') := Lib.hid fun o w1 hb => (isNone_any tr w1 (ht.now hb.out) ct).mono fun e w' h => ⟨h.1, hb.to h.2⟩
  obtain ⟨X, hX⟩ : ∃ X, X = matchT ⟨ca, cn, cc, cs, al, bo, rx, tr, ef, ac, to⟩ := ⟨_, rfl⟩
  rw [← hX]
  unfold matchT at hX
  dsimp only at hX
  cases ef
  · simp only [Bool.false_eq_true, if_false, Bool.and_eq_true, Bool.or_eq_true] at hp hX
    have HPX : Hid (∀ o w1, Bx w o w1 → Calls Tryz.prog 114 #[nodeV rx.k rx.s rx.lo rx.hi (.slice rx.a rx.n rx.cap)] w1 fun e w' => e = .returned (strV (txt rx)) ∧ Bx w o w') := Lib.hid fun o w1 hb => (patternText_any rx w1 (hx.now hb.out) hp.1).mono fun e w' h => ⟨h.1, hb.to h.2⟩
    have hlx := (txt_right hp.1).1
    cases hn : noneB tr
    · have hrt : rightB tr = true := hp.2.resolve_left (by rw [hn]; simp)
      have HPT : Hid (∀ o w1, Bx w o w1 → Calls Tryz.prog 114 #[nodeV tr.k tr.s tr.lo tr.hi (.slice tr.a tr.n tr.cap)] w1 fun e w' => e = .returned (strV (txt tr)) ∧ Bx w o w') := Lib.hid fun o w1 hb => (patternText_any tr w1 (ht.now hb.out) hrt).mono fun e w' h => ⟨h.1, hb.to h.2⟩
      have hlt := (txt_right hrt).1
      rw [hn] at HNT hX
      simp only [Bool.false_eq_true, if_false] at hX
      obtain ⟨T, hT⟩ : ∃ T, T = txt rx := ⟨_, rfl⟩
      obtain ⟨U, hU⟩ : ∃ U, U = txt tr := ⟨_, rfl⟩
      rw [← hT] at HPX hX hlx
      rw [← hU] at HPT hX hlt
      clear hT hU hn hp hrt hx ht
      have ha2 := fun w => str_add [47] U (by simp only [List.length_cons, List.length_nil]; omega) w
      obtain ⟨V, hV⟩ : ∃ V, V = [47] ++ U := ⟨_, rfl⟩
      have hlv : V.length ≤ 3000001 := by rw [hV]; simp; omega
      rw [← hV] at ha2 hX
      clear hV
      cases bo
      · simp only [Bool.false_eq_true, if_false] at hX
        have ha3 := fun w => str_add T V (by omega) w
        rw [← hX] at ha3
        clear hX
        go_enter Tryz.func87, Tryz.ntmps87
        go_wp2_with (first
          | (go_at_call 114; refine (HPT.out _ _ hb2).mono ?_; rintro e w3 ⟨rfl, hb3⟩)
          | (go_at_call 77; refine (HNT.out _ _ hb1).mono ?_; rintro e w2 ⟨rfl, hb2⟩; clear x0 x1 x2 x3 x4 x5 x6 x7 x8 x9 x10 x11 x12 x13 x14 x15 x16 x17 x18 x19 x20 x21; obtain ⟨x0, x1, x2, x3, x4, x5, x6, x7, x8, x9, x10, x11, x12, x13, x14, x15, x16, x17, x18, x19, x20, x21⟩ := cell22 (r := ⟨ca, cn, cc, cs, al, false, rx, tr, false, ac, to⟩) (box_kept hb2))
          | (go_at_call 114; refine (HPX.out _ _ (Bx.refl _ _)).mono ?_; rintro e w1 ⟨rfl, hb1⟩; obtain ⟨x0, x1, x2, x3, x4, x5, x6, x7, x8, x9, x10, x11, x12, x13, x14, x15, x16, x17, x18, x19, x20, x21⟩ := cell22 (r := ⟨ca, cn, cc, cs, al, false, rx, tr, false, ac, to⟩) (box_kept hb1)))
        go_ret
        exact ⟨rfl, hb3.out⟩
      · simp only [if_true] at hX
        have ha1 := fun w => str_add [94] T (by simp only [List.length_cons, List.length_nil]; omega) w
        obtain ⟨T1, hT1⟩ : ∃ V, V = [94] ++ T := ⟨_, rfl⟩
        have hl1 : T1.length ≤ 3000001 := by rw [hT1]; simp; omega
        rw [← hT1] at ha1 hX
        clear hT1
        have ha3 := fun w => str_add T1 V (by omega) w
        rw [← hX] at ha3
        clear hX
        go_enter Tryz.func87, Tryz.ntmps87
        go_wp2_with (first
          | (go_at_call 114; refine (HPT.out _ _ hb2).mono ?_; rintro e w3 ⟨rfl, hb3⟩)
          | (go_at_call 77; refine (HNT.out _ _ hb1).mono ?_; rintro e w2 ⟨rfl, hb2⟩; clear x0 x1 x2 x3 x4 x5 x6 x7 x8 x9 x10 x11 x12 x13 x14 x15 x16 x17 x18 x19 x20 x21; obtain ⟨x0, x1, x2, x3, x4, x5, x6, x7, x8, x9, x10, x11, x12, x13, x14, x15, x16, x17, x18, x19, x20, x21⟩ := cell22 (r := ⟨ca, cn, cc, cs, al, true, rx, tr, false, ac, to⟩) (box_kept hb2))
          | (go_at_call 114; refine (HPX.out _ _ (Bx.refl _ _)).mono ?_; rintro e w1 ⟨rfl, hb1⟩; obtain ⟨x0, x1, x2, x3, x4, x5, x6, x7, x8, x9, x10, x11, x12, x13, x14, x15, x16, x17, x18, x19, x20, x21⟩ := cell22 (r := ⟨ca, cn, cc, cs, al, true, rx, tr, false, ac, to⟩) (box_kept hb1)))
        go_ret
        exact ⟨rfl, hb3.out⟩
    · rw [hn] at HNT hX
      simp only [if_true] at hX
      obtain ⟨T, hT⟩ : ∃ T, T = txt rx := ⟨_, rfl⟩
      rw [← hT] at HPX hX hlx
      clear hT hn hp hx ht
      cases bo
      · simp only [Bool.false_eq_true, if_false] at hX
        subst hX
        go_enter Tryz.func87, Tryz.ntmps87
        go_wp2_with (first
          | (go_at_call 77; refine (HNT.out _ _ hb1).mono ?_; rintro e w2 ⟨rfl, hb2⟩)
          | (go_at_call 114; refine (HPX.out _ _ (Bx.refl _ _)).mono ?_; rintro e w1 ⟨rfl, hb1⟩; obtain ⟨x0, x1, x2, x3, x4, x5, x6, x7, x8, x9, x10, x11, x12, x13, x14, x15, x16, x17, x18, x19, x20, x21⟩ := cell22 (r := ⟨ca, cn, cc, cs, al, false, rx, tr, false, ac, to⟩) (box_kept hb1)))
        go_ret
        exact ⟨rfl, hb2.out⟩
      · simp only [if_true] at hX
        have ha1 := fun w => str_add [94] T (by simp only [List.length_cons, List.length_nil]; omega) w
        rw [← hX] at ha1
        clear hX
        go_enter Tryz.func87, Tryz.ntmps87
        go_wp2_with (first
          | (go_at_call 77; refine (HNT.out _ _ hb1).mono ?_; rintro e w2 ⟨rfl, hb2⟩)
          | (go_at_call 114; refine (HPX.out _ _ (Bx.refl _ _)).mono ?_; rintro e w1 ⟨rfl, hb1⟩; obtain ⟨x0, x1, x2, x3, x4, x5, x6, x7, x8, x9, x10, x11, x12, x13, x14, x15, x16, x17, x18, x19, x20, x21⟩ := cell22 (r := ⟨ca, cn, cc, cs, al, true, rx, tr, false, ac, to⟩) (box_kept hb1)))
        go_ret
        exact ⟨rfl, hb2.out⟩
  · simp only [if_true] at hX
    subst hX
    clear hp HNT hx ht
    go_enter Tryz.func87, Tryz.ntmps87
    go_wp2
    go_ret
    exact ⟨rfl, alloc_below _ _⟩
end Go.Proofs.YtnjplgfpnobicaaGreatDoor
/- Contract of the landed code's startsText. -/
namespace Go.Proofs.YtnjplgfpnobicaaGreatDoor
open Go.RowKit Go
theorem ris_le {f : Nat → Int} {n : Int} : ∀ {j : Nat}, risB f n j = true → ∀ i, i < j → (i : Int) ≤ f i ∧ f i < n := by
  intro j h i
  have hi := allTo_iff.1 h
  simp only [Bool.and_eq_true, decide_eq_true_eq] at hi
  induction i with
  | zero => intro hj; have := hi 0 hj; simp only [prvI] at this; exact ⟨by simpa using this.1, this.2⟩
  | succ i ih =>
    intro hj
    have h1 := hi (i + 1) hj
    have h2 := ih (by omega)
    simp only [prvI] at h1
    exact ⟨by have := h1.1; have := h2.1; omega, h1.2⟩
theorem join_cons (x y : List UInt8) (l : List (List UInt8)) : Lib.join (x :: y :: l) [44] = x ++ ([44] ++ Lib.join (y :: l) [44]) := by simp [Lib.join, List.intercalate, List.intersperse]
theorem join_len : ∀ (l : List (List UInt8)), (∀ x ∈ l, x.length ≤ 12) → (Lib.join l [44]).length ≤ 13 * l.length
  | [], _ => by simp [Lib.join]
  | [x], h => by have := h x (by simp); simp [Lib.join]; omega
  | x :: y :: l, h => by
    have h1 := h x (by simp)
    have h2 := join_len (y :: l) (fun z hz => h z (by simp only [List.mem_cons] at hz ⊢; exact Or.inr hz))
    rw [join_cons]
    simp only [List.length_append, List.length_cons, List.length_nil] at h2 ⊢
    omega
/-- The names of a rule's conditions. -/
def namesT (r : Rl) (c : Nat → Cn) : Nat → List ByteArray := fun j => (List.range j).map fun i => (c (r.cs i).toNat).nm
theorem namesT_succ (r : Rl) (c : Nat → Cn) (j : Nat) : namesT r c (j + 1) = namesT r c j ++ [(c (r.cs j).toNat).nm] := by simp [namesT, List.range_succ]
theorem namesT_len (r : Rl) (c : Nat → Cn) (j : Nat) : (namesT r c j).length = j := by simp [namesT]
/-- Where a rule holds, printed. -/
def startsT (r : Rl) (c : Nat → Cn) : List UInt8 := if r.all = true then [60, 42, 62] else if r.cn = 0 then [] else ([60] ++ Lib.join ((namesT r c r.cn).map (·.data.toList)) [44]) ++ [62]
set_option maxRecDepth 100000 in
theorem info9 : (Tryz.prog.info? 9).map (fun i => (i.zero, i.size, i.bytes)) = some (some (.string ⟨#[]⟩), 1, 16) := by kernel_rfl
set_option maxRecDepth 100000 in
set_option maxHeartbeats 4000000 in
theorem startsText_any (r : Rl) (l : Cs) (w : World) (h : IntsIn w w.heap.size r.ca r.cn r.cc r.cs) (hl : CsIn w w.heap.size l) (hs : startsB r l.n = true) (hn : l.n ≤ 8) (hnm : ∀ i, i < l.n → (l.c i).nm.size ≤ 12) :
    Calls Tryz.prog 86 #[ruleV r, l.val] w fun e w' => e = .returned (strV (startsT r l.c)) ∧ Below w.heap.size w w' := by
  obtain ⟨i0, hi, hz0, hz1, hz2⟩ := info_parts info9
  obtain ⟨X, hX⟩ : ∃ X, X = startsT r l.c := ⟨_, rfl⟩
  rw [← hX]
  unfold startsT at hX
  obtain ⟨a, n, cap, c⟩ := l
  have hm := hl.1
  have hm2 := hl.2.1
  have HA := Lib.hid hl.2.2.1
  have hq1 := h.1
  have hq2 := h.2.1
  have HI := Lib.hid h.2.2.1
  unfold startsB at hs
  dsimp only at hs hn hnm hX hm hm2 HA
  unfold maxLen at hm2 hq2
  clear hl h
  show Calls Tryz.prog 86 #[ruleV r, .slice a n cap] w _
  cases hal : r.all
  · rw [hal] at hs hX
    simp only [Bool.false_eq_true, if_false] at hs hX
    have hris := ris_le hs
    by_cases h0 : r.cn = 0
    · rw [if_pos h0] at hX
      subst hX
      obtain ⟨ca, cn, cc, cs, al, bo, rx, tr, ef, ac, to⟩ := r
      dsimp only at h0 hal
      subst h0 hal
      clear hris hs HI HA hnm hn hm hm2 hq1 hq2 hi hz0 hz1 hz2
      go_enter Tryz.func86, Tryz.ntmps86
      go_wp2
      go_ret
      exact ⟨rfl, alloc_below _ _⟩
    · rw [if_neg h0] at hX
      have hcn : r.cn ≤ 8 := by have := hris (r.cn - 1) (by omega); omega
      have HRI := Lib.hid hris
      have HN12 : Hid (∀ x ∈ (namesT r c r.cn).map (·.data.toList), x.length ≤ 12) := Lib.hid (by
        intro x hx
        simp only [List.mem_map, namesT, List.mem_range] at hx
        obtain ⟨y, ⟨i, hi', rfl⟩, rfl⟩ := hx
        have := hris i hi'
        have h2 := hnm (r.cs i).toNat (by omega)
        rw [Array.length_toList]
        exact h2)
      have HJL := Lib.hid (join_len _ HN12.out)
      rw [List.length_map, namesT_len] at HJL
      obtain ⟨J, hJ⟩ : ∃ J, J = Lib.join ((namesT r c r.cn).map (·.data.toList)) [44] := ⟨_, rfl⟩
      rw [← hJ] at hX HJL
      have hJl : J.length ≤ 104 := by have := HJL.out; omega
      have HJ := Lib.hid hJ
      have ha1 := fun w => str_add [60] J (by simp only [List.length_cons, List.length_nil]; omega) w
      obtain ⟨J1, hJ1⟩ : ∃ V, V = [60] ++ J := ⟨_, rfl⟩
      have hl1 : J1.length ≤ 105 := by rw [hJ1]; simp; omega
      rw [← hJ1] at ha1 hX
      have ha2 := fun w => str_add J1 [62] (by simp only [List.length_cons, List.length_nil]; omega) w
      rw [← hX] at ha2
      clear hX hJ hJ1 hs HJL HN12 hnm
      obtain ⟨g, off, hca, hg, hc⟩ := HI.out (by omega)
      have HC := Lib.hid hc
      clear hc
      obtain ⟨ca, cn, cc, cs, al, bo, rx, tr, ef, ac, to⟩ := r
      dsimp only at h0 hal hca hcn HJ HRI HC hq1 hq2 hris
      subst hal hca
      have h0' : ((cn : Int) == 0) = false := by simp; omega
      clear hris HI
      go_enter Tryz.func86, Tryz.ntmps86
      go_wp2
      go_loopw [5, 17] (fun v i wr => ∃ j : Nat, j ≤ cn ∧ i = .int .i64 j ∧ Hid (wr.ownsRow (w.heap.size + 1) 9 1 v j ((namesT ⟨some ⟨g, off, none⟩, cn, cc, cs, false, bo, rx, tr, ef, ac, to⟩ c j).map Value.string)) ∧ Bx w (.cells (row22 ⟨some ⟨g, off, none⟩, cn, cc, cs, false, bo, rx, tr, ef, ac, to⟩) 42) wr) (fun _ i _ => cn - (intOf i).toNat)
      case atStart => exact ⟨0, by omega, rfl, Lib.hid (World.ownsRow_nil _ _ _ _), Bx.refl _ _⟩
      case round =>
        obtain ⟨j, hj, rfl, HO, hbr⟩ := hrel
        by_cases hlt : j < cn
        · have c0 := (hbr.out.cell (p := ⟨g, _, none⟩) hg).trans (HC.out j hlt)
          obtain ⟨k, hk⟩ : ∃ k : Nat, cs j = (k : Int) := ⟨(cs j).toNat, by have := (HRI.out j hlt).1; omega⟩
          have hkn : k < n := by have := (HRI.out j hlt).2; omega
          rw [hk] at c0
          obtain ⟨g2, off2, rfl, hg2, hc2⟩ := HA.out (by omega)
          obtain ⟨d0, d1⟩ := (hc2 k hkn).below hg2 hbr.out
          have HS := Lib.hid (namesT_succ ⟨some ⟨g, off, none⟩, cn, cc, cs, false, bo, rx, tr, ef, ac, to⟩ c j)
          rw [show (cs j).toNat = k by omega] at HS
          obtain ⟨nm, hnm⟩ : ∃ x, x = (c k).nm := ⟨_, rfl⟩
          rw [← hnm] at d0 HS
          have HBR := Lib.hid hbr
          have hsr : w.heap.size + 1 ≤ wr.heap.size := by have := Below.size hbr; simpa using this
          obtain ⟨av, cv, rfl⟩ := row_slice HO.out
          clear hc2 hnm hbr
          go_wp2_with (first | (at_builtin; refine wpList_append_own_at _ rfl _ _ 127 rfl (w.heap.size + 1) 9 i0 _ 1 16 Tryz.underlying127 hi hz0 hz1 hz2 rfl (by decide) _ _ _ rfl (HO.out.alloc _) ⟨wr.heap.size, 0, none⟩ 1 1 [.string nm] rfl rfl ?d1 ?d2 ?d3 ?d4 ?d5 ?_))
          case d1 => exact cell_one_new _ _ _
          case d2 => intro u hu; rw [List.mem_singleton.1 hu]; rfl
          case d3 => unfold maxLen; omega
          case d4 => omega
          case d5 => simp; omega
          intro v1 w1 hown1 hgrow _ _
          have hb1 := grown_below (HO.out.alloc _) (by simp; omega) hgrow
          obtain ⟨a1, cp1, rfl⟩ := row_slice hown1
          have HO1 := Lib.hid (show w1.ownsRow (w.heap.size + 1) 9 1 (.slice a1 (j + 1) cp1) (j + 1) ((namesT ⟨some ⟨g, off, none⟩, cn, cc, cs, false, bo, rx, tr, ef, ac, to⟩ c (j + 1)).map Value.string) by rw [HS.out, List.map_append]; exact hown1)
          clear hown1 hgrow
          go_wp2
          go_roundw
          case rel => exact ⟨j + 1, by omega, by go_num, HO1, Below.trans (Bx.to HBR.out (alloc_below wr _)) (hb1.mono (by simp))⟩
          case measure => simp [intOf]; omega
        · obtain rfl : cn = j := by omega
          obtain ⟨gb, cb, rfl, hgb, hgl, hcb, hcm, hcc⟩ := row_cells HO.out (by omega)
          have HJN : Hid (Calls Tryz.prog 113 #[.slice (some ⟨gb, 0, none⟩) cn cb, .string ⟨#[44]⟩] wr fun e w' => e = .returned (strV J) ∧ Below wr.heap.size wr w') := Lib.hid (by
            have := Tryz.strings_Join gb 0 cb (namesT ⟨some ⟨g, off, none⟩, cn, cc, cs, false, bo, rx, tr, ef, ac, to⟩ c cn) ⟨#[44]⟩ wr (fun q x hx => by rw [Nat.zero_add]; exact hcc q (.string x) (by rw [List.getElem?_map, hx]; rfl)) hgl (by rw [namesT_len]; omega) (by rw [namesT_len]; omega) (by have := HJ.out; rw [show (⟨#[44]⟩ : ByteArray).data.toList = [44] from rfl, ← this]; omega)
            rw [namesT_len] at this
            rw [show (⟨#[44]⟩ : ByteArray).data.toList = [44] from rfl, ← HJ.out] at this
            exact this)
          have HBR := Lib.hid hbr
          clear hbr hcc HO
          go_wp2_with (first | (go_at_call 113; refine HJN.out.mono ?_; rintro e w2 ⟨rfl, hb2⟩))
          go_ret
          exact ⟨rfl, (Bx.to HBR.out hb2).out⟩
  · rw [hal, if_pos rfl] at hX
    subst hX
    obtain ⟨ca, cn, cc, cs, al, bo, rx, tr, ef, ac, to⟩ := r
    dsimp only at hal
    subst hal
    clear hs HI HA
    go_enter Tryz.func86, Tryz.ntmps86
    go_wp2
    go_ret
    exact ⟨rfl, alloc_below _ _⟩
end Go.Proofs.YtnjplgfpnobicaaGreatDoor
