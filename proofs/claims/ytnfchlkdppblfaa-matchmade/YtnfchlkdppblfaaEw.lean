/- Contract of the landed code's Ends: the places up to which a pattern matches, rising. -/
import Derived.Test.YtnfchlkdppblfaaEu
namespace Go.Proofs.Ytnfchlkdppblfaa
open Go.RowKit Go.Maps Go
theorem ps_empty {w : World} {b : Nat} (h : w.heap[b]? = some (.map #[] 0)) : PS w b no0 := by
  obtain ⟨es, clock, hb, F, hs, hD⟩ := World.ownsMap_made (H := Unit) w Try.prog 3 unitElem
  have e := heap_alloc_new w (.map #[] 0)
  rw [e] at hb
  cases hb
  exact ⟨.map [], ⟨#[], 0, h, F, hs, hD⟩, hs_empty⟩
theorem built_sv {c : Nat → Int} {L : Nat} {w : World} : ∀ {t : St}, Shp t → (∀ b, mem t b → w.heap[b]? = some (.map #[] 0)) → Sv c L w t no0
  | .node k s a n cap m kid, hs, he => by
    have hk : ∀ i, i < n → Sv c L w (kid i) no0 := fun i hi => built_sv (hs.2.2 i hi) fun b hb => he b (Or.inr ⟨i, hi, hb⟩)
    have hm : k ≠ 2 → ∃ b, m = some b ∧ PS w b no0 := fun h => by
      obtain ⟨b, hb⟩ := hs.2.1 h
      exact ⟨b, hb, ps_empty (he b (Or.inl hb))⟩
    refine ⟨fun _ q hq => by rw [im_no]; exact hk q hq, fun h => ⟨by rw [im_no]; exact hm (by omega), hk⟩, fun h => ?_⟩
    have hn : 0 < n := by have := hs.1; omega
    have e : un no0 (im (plus (rel c L (kid 0))) no0) = no0 := by rw [im_no, un_no]
    rw [e]
    exact ⟨hm (by omega), hk 0 hn⟩
  | .nul, hs, _ => hs.elim
theorem Built.stp {S : ByteArray} {B : Nat} {P : Nat → Prop} {w : World} {t : St} (h : Built B P w t) : Stp (nx S) S.size w t no0 :=
  ⟨h.lv, h.shp, h.sep, fun b hb => ⟨_, _, h.em b hb⟩, built_sv h.shp h.em⟩
/-- What Ends answers. -/
noncomputable def endsL (S : ByteArray) (t : Tr) (at' : Int) : List Nat :=
  if rightB t = true ∧ S.size ≤ 10000 ∧ 0 ≤ at' ∧ at' ≤ (S.size : Int) then lst S.size (mt (nx S) S.size t at'.toNat) else []
theorem endsL_no {S : ByteArray} {t : Tr} {at' : Int} (h : ¬ (rightB t = true ∧ S.size ≤ 10000 ∧ 0 ≤ at' ∧ at' ≤ (S.size : Int))) : endsL S t at' = [] := by unfold endsL; rw [if_neg h]
abbrev natV (l : List Nat) : List Value := l.map fun i : Nat => Value.int .i64 (i : Int)
theorem own_base {w : World} {b b' e size n : Nat} {v : Value} {xs : List Value} (h : w.ownsRow b' e size v n xs) (hb : b ≤ b') : w.ownsRow b e size v n xs := by
  refine ⟨h.1, h.2.imp id ?_⟩
  rintro ⟨g, cap, cur, h1, h2, h3⟩
  exact ⟨g, cap, cur, h1, by omega, h3⟩
def EndsP (S : ByteArray) (t : Tr) (at' : Int) (w : World) (e : Ending) (w' : World) : Prop :=
  ∃ v, e = .returned v ∧ w'.ownsRow w.heap.size 3 1 v (endsL S t at').length (natV (endsL S t at')) ∧ Below w.heap.size w w'
theorem ends_none {S : ByteArray} {t : Tr} {at' : Int} {w w' : World} (h : ¬ (rightB t = true ∧ S.size ≤ 10000 ∧ 0 ≤ at' ∧ at' ≤ (S.size : Int))) (hb : Below w.heap.size w w') : EndsP S t at' w (.returned (.slice none 0 0)) w' := by
  refine ⟨_, rfl, ?_, hb⟩
  rw [endsL_no h]
  exact World.ownsRow_nil _ _ _ _
theorem mt_le {S : ByteArray} {t : Tr} {u : St} (h : rel (nx S) S.size u = mt (nx S) S.size t) : ∀ i j, mt (nx S) S.size t i j → i ≤ S.size → j ≤ S.size := by
  rw [← h]; exact rel_le _ _ u
set_option maxRecDepth 100000 in
set_option maxHeartbeats 800000 in
theorem ends_bad (S : ByteArray) (t : Tr) (at' : Int) (w : World) (hL : Lives w w.heap.size t) (h : ¬ (rightB t = true ∧ S.size ≤ 10000 ∧ 0 ≤ at' ∧ at' ≤ (S.size : Int))) :
    Calls Try.prog 10 #[t.val, .string S, .int .i64 at'] w (EndsP S t at' w) := by
  have HR : Hid (∀ o, Calls Try.prog 18 #[t.val] (w.alloc o) fun e w' => e = .returned (.bool (rightB t)) ∧ Below (w.alloc o).heap.size (w.alloc o) w') := Lib.hid fun o => right_any t (w.alloc o) (hL.now (alloc_below _ _))
  have HF := Lib.hid (fun w' => ends_none (S := S) (at' := at') (w := w) (w' := w') h)
  rw [show t.val = nodeV t.k t.s t.lo t.hi (.slice t.a t.n t.cap) from rfl] at HR ⊢
  clear hL
  cases hr : rightB t
  · rw [hr] at HR
    clear h hr
    go_enter Try.func10, Try.ntmps10
    go_wp2_with fail
    refine (HR.out _).mono ?_
    rintro e w1 ⟨rfl, hb1⟩
    have HG := Lib.hid (HF.out w1 (box_below hb1))
    clear hb1
    go_wp2
    go_ret
    exact HG.out
  · rw [hr] at HR
    have h' : ¬ (S.size ≤ 10000 ∧ 0 ≤ at' ∧ at' ≤ (S.size : Int)) := fun q => h ⟨hr, q⟩
    clear h hr
    by_cases h1 : S.size ≤ 10000
    · by_cases h2 : 0 ≤ at'
      · have h3 : (S.size : Int) < at' := by omega
        have h1' : ¬ (10000 : Int) < (S.size : Int) := by omega
        have h2' : ¬ at' < 0 := by omega
        clear h' h1 h2
        go_enter Try.func10, Try.ntmps10
        go_wp2_with fail
        refine (HR.out _).mono ?_
        rintro e w1 ⟨rfl, hb1⟩
        have HG := Lib.hid (HF.out w1 (box_below hb1))
        clear hb1
        go_wp2
        go_ret
        exact HG.out
      · have h1' : ¬ (10000 : Int) < (S.size : Int) := by omega
        have h2' : at' < 0 := by omega
        clear h' h1 h2
        go_enter Try.func10, Try.ntmps10
        go_wp2_with fail
        refine (HR.out _).mono ?_
        rintro e w1 ⟨rfl, hb1⟩
        have HG := Lib.hid (HF.out w1 (box_below hb1))
        clear hb1
        go_wp2
        go_ret
        exact HG.out
    · have h1' : (10000 : Int) < (S.size : Int) := by omega
      clear h' h1
      go_enter Try.func10, Try.ntmps10
      go_wp2_with fail
      refine (HR.out _).mono ?_
      rintro e w1 ⟨rfl, hb1⟩
      have HG := Lib.hid (HF.out w1 (box_below hb1))
      clear hb1
      go_wp2
      go_ret
      exact HG.out
theorem im_at {r : Nat → Nat → Prop} (p : Nat) : df (im r (un no0 fun j => j = p)) (im r no0) = r p := by
  rw [im_no, df_no, no_un]
  exact ext1 fun j => ⟨fun ⟨i, e, h⟩ => by subst e; exact h, fun h => ⟨p, rfl, h⟩⟩
/-- Behind the steps: the keys of the answer. -/
theorem ends_fin {S : ByteArray} {t : Tr} {at' : Int} {w W : World} {u : St} {rb : Nat} (hg : rightB t = true ∧ S.size ≤ 10000 ∧ 0 ≤ at' ∧ at' ≤ (S.size : Int)) (hru : rel (nx S) S.size u = mt (nx S) S.size t) (hW : Below w.heap.size w W) (hps : PS W rb (mt (nx S) S.size t at'.toNat)) :
    Calls Try.prog 20 #[.func (.func 38) #[] #[.pointer (some ⟨W.heap.size, 0, none⟩)]] (W.alloc (.cells #[.map (some rb)] 47)) (EndsP S t at' w) := by
  have hbd : ∀ j, mt (nx S) S.size t at'.toNat j → j ≤ S.size := fun j h => mt_le hru _ j h (by omega)
  obtain ⟨D, hown, hs⟩ := hps
  have hz := size_le hown hs hbd
  refine (sorted_any rb _ D W hown (by unfold maxLen; omega) (by omega)).mono ?_
  rintro e w' ⟨v, ss, rfl, hperm, hrow, _, hb⟩
  have hp := keys_perm hown hs hbd
  rw [lst_sort hperm hp, (hperm.trans hp.symm).length_eq, List.length_map, List.map_map] at hrow
  refine ⟨v, rfl, ?_, hW.trans ((alloc_below W _).mono hW.size |>.trans (hb.mono (by simp; have := hW.size; omega)))⟩
  unfold endsL
  rw [if_pos hg]
  exact own_base hrow (by simp; have := hW.size; omega)
set_option maxRecDepth 100000 in
set_option maxHeartbeats 800000 in
theorem ends_good (S : ByteArray) (t : Tr) (p : Nat) (w : World) (hL : Lives w w.heap.size t) (h : rightB t = true ∧ S.size ≤ 10000 ∧ 0 ≤ (p : Int) ∧ (p : Int) ≤ (S.size : Int)) :
    Calls Try.prog 10 #[t.val, .string S, .int .i64 (p : Int)] w (EndsP S t (p : Int) w) := by
  have HR : Hid (∀ o, Calls Try.prog 18 #[t.val] (w.alloc o) fun e w' => e = .returned (.bool true) ∧ Below (w.alloc o).heap.size (w.alloc o) w') := Lib.hid fun o => by
    have := right_any t (w.alloc o) (hL.now (alloc_below _ _))
    rw [h.1] at this
    exact this
  have hrt := h.1
  unfold rightB at hrt
  simp only [Bool.and_eq_true, decide_eq_true_eq] at hrt
  have HW : Hid (∀ w1, Below w.heap.size w w1 → Calls Try.prog 19 #[t.val] w1 (WrP S t (fun _ => True) w1)) := Lib.hid fun w1 hb => written_all S t w1 (fun _ => True) ((hL.below hb).mono hb.size) (fit_of_ok hrt.1) (by omega) (fun _ _ => trivial)
  have HE : Hid (∀ (u : St) B P W x mb, Built B P W u → W.heap[x]? = some (.cells (rowU u) 49 (0, 0)) → PS W mb (fun j => j = p) → ¬ mem u mb → rel (nx S) S.size u = mt (nx S) S.size t → Calls Try.prog 22 #[.pointer (some ⟨x, 0, none⟩), .string S, .map (some mb)] W fun e w' => ∃ rb, e = .returned (.map (some rb)) ∧ PS w' rb (mt (nx S) S.size t p) ∧ Offs (mem u) W w') := Lib.hid fun u B P W x mb hu hx hm hn hr => by
    refine (ends_all S h.2.1 u W x 0 mb no0 (fun j => j = p) (at7_row hx) hu.stp hm hn (fun _ _ q => q) (fun _ q => q.elim) (fun i e => by rw [e]; omega)).mono ?_
    rintro e w' ⟨rb, rfl, hps, _, _, hoff, _⟩
    rw [im_at, hr] at hps
    exact ⟨rb, rfl, hps, hoff⟩
  have HFIN : Hid (∀ (u : St) rb W, rel (nx S) S.size u = mt (nx S) S.size t → Below w.heap.size w W → PS W rb (mt (nx S) S.size t p) → Calls Try.prog 20 #[.func (.func 38) #[] #[.pointer (some ⟨W.heap.size, 0, none⟩)]] (W.alloc (.cells #[.map (some rb)] 47)) (EndsP S t (p : Int) w)) := Lib.hid fun u rb W hr hb hps => ends_fin (u := u) h hr hb (by simpa using hps)
  have h1' : ¬ (10000 : Int) < (S.size : Int) := by omega
  have h2' : ¬ (p : Int) < 0 := by omega
  have h3' : ¬ (S.size : Int) < (p : Int) := by omega
  have hwp : (Lit.int .i64 (p : Int)).wf = true := WalkArith.wf_i64 (by omega)
  have hmm := @run_makeMap Try.prog
  rw [show t.val = nodeV t.k t.s t.lo t.hi (.slice t.a t.n t.cap) from rfl] at HR HW ⊢
  clear hL h hrt
  go_enter Try.func10, Try.ntmps10
  go_wp2_with fail
  refine (HR.out _).mono ?_
  rintro e w1 ⟨rfl, hb1⟩
  have hs1 := hb1.size
  simp at hs1
  have HB1 := Lib.hid (box_below hb1)
  have HC := Lib.hid (HW.out w1 (box_below hb1))
  obtain ⟨b0, b1, b2, b3, b4, b5, b6, b7⟩ := cell8 (s := t.s) (box_kept hb1)
  clear hb1
  go_wp2_with fail
  refine HC.out.mono ?_
  rintro e w2 ⟨u, rfl, hu, hru, _, hb2⟩
  rw [show u.val = stepV u.k u.s (.slice u.a u.n u.cap) (.map u.m) from rfl]
  have hs2 := hb2.size
  have HU := Lib.hid hu
  have HRU := Lib.hid hru
  have HB2 := Lib.hid (HB1.out.trans (hb2.mono (by omega)))
  have hlow : ∀ b, mem u b → b < w2.heap.size := fun b hb => lt_of_some (hu.em b hb)
  have HLOW := Lib.hid hlow
  have HLO := Lib.hid hu.lo
  clear hu hru hb2 hlow b0 b1 b2 b3 b4 b5 b6 b7
  have hown0 := World.ownsMap_made (H := Unit) (w2.alloc (.cells (rowU u) 49)) Try.prog 3 unitElem
  have e2 : (w2.alloc (.cells (rowU u) 49)).heap.size = w2.heap.size + 1 := by simp
  rw [e2] at hown0
  go_wp2_with (first
    | (refine insert_own _ rfl _ _ _ rfl (w2.heap.size + 1) _ _ rfl hown0 (by unfold maxLen; omega) (p : Int) rfl rfl hwp ?_; intro w3 hown3 hg3; go_frame))
  have hs3 := hg3.size
  simp at hs3
  have hB23 : Below w2.heap.size w2 w3 := (alloc2_below w2 _ _).trans ⟨hg3.os, hg3.tape, hg3.output, hg3.size, fun k hk => hg3.block k (by simp; omega) (fun e => by have := Option.some.inj e; omega)⟩
  have hx3 : w3.heap[w2.heap.size]? = some (.cells (rowU u) 49 (0, 0)) := (hg3.block _ (by simp; omega) (fun e => by have := Option.some.inj e; omega)).trans (heap_alloc2_old _ _ _)
  have hps3 : PS w3 (w2.heap.size + 1) (fun j => j = p) := by
    have := PS.of hown3 (hs_put isMap_empty hs_empty p _ (law3.key (keyOf_int_mk Try.underlying3 hwp)))
    rw [no_un] at this
    exact this
  have HA := Lib.hid (HE.out u _ _ w3 w2.heap.size (w2.heap.size + 1) (HU.out.below hB23) hx3 hps3 (fun hb => by have := HLOW.out _ hb; omega) HRU.out)
  have HB3 := Lib.hid hB23
  clear hown0 hown3 hg3 hB23 hx3 hps3
  refine HA.out.mono ?_
  rintro e w4 ⟨rb, rfl, hps, hoff⟩
  have hW4 : Below w.heap.size w w4 := (HB2.out.trans (HB3.out.mono (by omega))).trans ((hoff.below (B := w1.heap.size) (by omega) HLO.out).mono (by omega))
  have HK := Lib.hid (keys_any rb w4)
  have HZ := Lib.hid (HFIN.out u rb w4 HRU.out hW4 hps)
  clear hps hoff hW4
  go_wp2_with fail
  refine HK.out.mono ?_
  rintro e w5 ⟨rfl, rfl⟩
  go_wp2_with fail
  refine HZ.out.mono ?_
  rintro e w6 ⟨v, rfl, hrow, hb⟩
  have HY := Lib.hid hrow
  have HBB := Lib.hid hb
  clear hrow hb
  go_wp2
  go_ret
  exact ⟨v, rfl, HY.out, HBB.out⟩
theorem ends_any (S : ByteArray) (t : Tr) (at' : Int) (w : World) (hL : Lives w w.heap.size t) : Calls Try.prog 10 #[t.val, .string S, .int .i64 at'] w (EndsP S t at' w) := by
  by_cases h : rightB t = true ∧ S.size ≤ 10000 ∧ 0 ≤ at' ∧ at' ≤ (S.size : Int)
  · obtain ⟨p, rfl⟩ : ∃ p : Nat, at' = (p : Int) := ⟨at'.toNat, by omega⟩
    exact ends_good S t p w hL h
  · exact ends_bad S t at' w hL h
/-- What Match answers. -/
def matB (S : ByteArray) (t : Tr) : Prop := rightB t = true ∧ S.size ≤ 10000 ∧ mt (nx S) S.size t 0 S.size
theorem lst_last {L : Nat} {R : Nat → Prop} : (0 < (lst L R).length ∧ (lst L R).getD ((lst L R).length - 1) 0 = L) ↔ R L := by
  classical
  constructor
  · rintro ⟨h, e⟩
    have hm : L ∈ lst L R := by
      have := List.getElem_mem (l := lst L R) (n := (lst L R).length - 1) (by omega)
      rw [List.getD_eq_getElem?_getD, List.getElem?_eq_getElem (by omega)] at e
      simp only [Option.getD_some] at e
      rw [e] at this
      exact this
    unfold lst at hm
    simp only [List.mem_filter, decide_eq_true_eq] at hm
    exact hm.2
  · intro h
    have e : lst L R = ((List.range L).filter fun i => decide (R i)) ++ [L] := by
      unfold lst
      rw [List.range_succ, List.filter_append]
      simp [h]
    have hl : 0 < (lst L R).length := by rw [e]; simp
    refine ⟨hl, ?_⟩
    rw [e]
    simp
end Go.Proofs.Ytnfchlkdppblfaa
/- Contract of the landed code's Match. -/
namespace Go.Proofs.Ytnfchlkdppblfaa
open Go.RowKit Go.Maps Go
theorem ends_zero (S : ByteArray) (t : Tr) : (0 < (endsL S t 0).length ∧ (endsL S t 0).getD ((endsL S t 0).length - 1) 0 = S.size) ↔ matB S t := by
  by_cases h : rightB t = true ∧ S.size ≤ 10000 ∧ (0 : Int) ≤ 0 ∧ (0 : Int) ≤ (S.size : Int)
  · have e : endsL S t 0 = lst S.size (mt (nx S) S.size t 0) := by unfold endsL; rw [if_pos h]; rfl
    rw [e, lst_last]
    exact ⟨fun q => ⟨h.1, h.2.1, q⟩, fun q => q.2.2⟩
  · rw [endsL_no h]
    constructor
    · rintro ⟨q, _⟩; simp at q
    · intro q; exact absurd ⟨q.1, q.2.1, by omega, by omega⟩ h
theorem natV_cell {w : World} {B g n c : Nat} {l : List Nat} (h : w.ownsRow B 3 1 (.slice (some ⟨g, 0, none⟩) n c) l.length (natV l)) {i : Nat} (hi : i < l.length) : w.cell? ⟨g, i, none⟩ = some (.int .i64 (l.getD i 0 : Nat)) := by
  have := h.cells (g := g) rfl i (.int .i64 (l.getD i 0 : Nat)) (by simp [natV, hi])
  rw [Addr.add_lit] at this
  simpa using this
set_option maxRecDepth 100000 in
set_option maxHeartbeats 1000000 in
theorem match_any (S : ByteArray) (t : Tr) (w : World) (hL : Lives w w.heap.size t) : Calls Try.prog 11 #[t.val, .string S] w fun e w' => ∃ b : Bool, e = .returned (.bool b) ∧ (b = true ↔ matB S t) ∧ Below w.heap.size w w' := by
  have HE : Hid (∀ o, Calls Try.prog 10 #[t.val, .string S, .int .i64 0] (w.alloc o) (EndsP S t 0 (w.alloc o))) := Lib.hid fun o => ends_any S t 0 (w.alloc o) (hL.now (alloc_below _ _))
  have HM := Lib.hid (ends_zero S t)
  rw [show t.val = nodeV t.k t.s t.lo t.hi (.slice t.a t.n t.cap) from rfl] at HE ⊢
  clear hL
  go_enter Try.func11, Try.ntmps11
  go_wp2_with fail
  refine (HE.out _).mono ?_
  rintro e w1 ⟨v, rfl, hrow, hb⟩
  have HB := Lib.hid (box_below hb)
  clear hb
  obtain ⟨l, hl⟩ : ∃ l, l = endsL S t 0 := ⟨_, rfl⟩
  rw [← hl] at hrow HM
  clear hl
  rcases hrow.2 with ⟨rfl, h0⟩ | ⟨g, cap, cur, rfl, hbg, hgg, hnc, hcm, _⟩
  · have hlz : ¬ 0 < l.length := by omega
    have HF : Hid (matB S t → False) := Lib.hid fun h => by obtain ⟨q, _⟩ := HM.out.2 h; exact hlz q
    clear hrow h0 hlz HM
    go_wp2
    go_ret
    exact ⟨false, rfl, ⟨fun h => by (cases h), fun h => (HF.out h).elim⟩, HB.out⟩
  · rcases Nat.eq_zero_or_pos l.length with h0 | h0
    · have HF : Hid (matB S t → False) := Lib.hid fun h => by obtain ⟨q, _⟩ := HM.out.2 h; omega
      rw [h0]
      clear hrow HM hnc hbg hgg
      go_wp2
      go_ret
      exact ⟨false, rfl, ⟨fun h => by (cases h), fun h => (HF.out h).elim⟩, HB.out⟩
    · have hc := natV_cell hrow (i := l.length - 1) (by omega)
      obtain ⟨x, hx⟩ : ∃ x : Nat, x = l.getD (l.length - 1) 0 := ⟨_, rfl⟩
      rw [← hx] at hc
      have HX : Hid (x = S.size ↔ matB S t) := Lib.hid (by rw [← HM.out, hx]; exact ⟨fun e => ⟨h0, e⟩, fun ⟨_, e⟩ => e⟩)
      have hlm : l.length ≤ 9223372036854775807 := by unfold maxLen at hcm; omega
      obtain ⟨n, hn⟩ : ∃ n, n = l.length := ⟨_, rfl⟩
      rw [← hn] at hc h0 hlm hnc ⊢
      have hpos : (0 : Int) < (n : Int) := by omega
      have hsub : ((n : Int) - 1).toNat = n - 1 := by omega
      have hge : (0 : Int) ≤ (n : Int) - 1 := by omega
      have hlt : (n : Int) - 1 < (n : Int) := by omega
      have hlt' : n - 1 < n := by omega
      clear hrow HM hbg hgg hx hn
      by_cases he : x = S.size
      · have he' : ((x : Int) == (S.size : Int)) = true := by simp; omega
        have HE2 := Lib.hid (HX.out.1 he)
        clear he
        go_wp2
        go_ret
        exact ⟨true, rfl, ⟨fun _ => HE2.out, fun _ => rfl⟩, HB.out⟩
      · have he' : ((x : Int) == (S.size : Int)) = false := by simp; omega
        have HE2 : Hid (¬ matB S t) := Lib.hid (fun q => he (HX.out.2 q))
        clear he
        go_wp2
        go_ret
        exact ⟨false, rfl, ⟨fun h => by (cases h), fun h => (HE2.out h).elim⟩, HB.out⟩
end Go.Proofs.Ytnfchlkdppblfaa
