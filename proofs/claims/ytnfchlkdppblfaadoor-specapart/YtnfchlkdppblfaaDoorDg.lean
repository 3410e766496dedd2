/- The specification of the law's own first look (awake), reckoned. -/
import Derived.Test.YtnfchlkdppblfaaDoorCq
import Derived.Test.YtnfchlkdppblfaaDoorCl
import Derived.Test.YtnfchlkdppblfaaDoorCj
import Derived.Test.YtnfchlkdppblfaaDoorLc
namespace Go.Proofs.YtnfchlkdppblfaaDoor
open Go.RowKit Go
set_option maxRecDepth 100000 in
theorem set_09 : setT (sE 48 57) = [91, 48, 45, 57, 93] := by
  have h1 : runsS (sE 48 57) = [48, 57] := by rw [(runE (by omega)).1]; decide +kernel
  have h2 : runsN (sE 48 57) = 1 := by rw [(runE (by omega)).2]; decide +kernel
  unfold setT oneB
  rw [h1, h2]
  decide +kernel
/-- Its pattern. -/
def rep1 (f : Nat → Int) (q : Nat) : Tr := .node 5 z0 1 (-1) (some ⟨q, 0, none⟩) 1 1 fun _ => leafT f
theorem ne_09 : eqS (sE 48 57) z0 = false := ne_E (by omega) (by omega) (by omega)
set_option maxRecDepth 100000 in
theorem rep1_ok (q : Nat) : okT (rep1 (sE 48 57) q) 20 = true := by
  have h1 := ok_leafT ne_09 (show 0 < 20 - 1 by omega)
  have h2 : fitsB (rep1 (sE 48 57) q) = true := by simp [fitsB, rep1, Tr.k, Tr.s, Tr.lo, Tr.hi, Tr.n, plainB, eq_z0, countsB]
  unfold rep1 at h2 ⊢
  simp only [okT, h2, decide_eq_true (show 0 < 20 by omega), Bool.true_and, allTo, h1]
set_option maxRecDepth 100000 in
theorem rep1_cnt (f : Nat → Int) (q : Nat) : cnt (rep1 f q) = 2 := by simp [rep1, cnt, sumTo, leafT]
set_option maxRecDepth 100000 in
theorem rep1_right (q : Nat) : rightB (rep1 (sE 48 57) q) = true := by
  unfold rightB
  rw [rep1_ok q]
  have e : repM 1 (-1) = 1 := by decide
  simp [rep1, cnt, sz, sumTo, leafT, ownT, timT, Tr.k, Tr.lo, Tr.hi, e]
set_option maxRecDepth 100000 in
theorem rep1_txt (q : Nat) : txt (rep1 (sE 48 57) q) = [91, 48, 45, 57, 93, 123, 49, 44, 125] := by
  have e2 : txt (leafT (sE 48 57)) = [91, 48, 45, 57, 93] := by unfold leafT; rw [txt]; simp [set_09]
  unfold rep1
  rw [txt_many (by decide) (by decide)]
  simp only [catTo, pieceT, e2]
  simp [encT, enclB, leafT, Tr.k, countsT]
  decide +kernel
/-- Its rule, its condition; the whole. -/
def ruA (f : Nat → Int) (q : Nat) : Rl := ⟨none, 0, 0, fun _ => 0, true, false, rep1 f q, zT, false, 1, 0⟩
def cnA : Cn := ⟨⟨#[73, 78, 73, 84, 73, 65, 76]⟩, false⟩
def spA (f : Nat → Int) (q c k : Nat) : Sp := ⟨⟨some ⟨c, 0, none⟩, 1, 1, fun _ => cnA⟩, true, ⟨some ⟨k, 0, none⟩, 1, 1, fun _ => ruA f q⟩⟩
def spZ : Sp := ⟨⟨none, 0, 0, fun _ => cnA⟩, false, ⟨none, 0, 0, fun _ => ruA z0 0⟩⟩
theorem spA_sm (f : Nat → Int) (q c k : Nat) : Sm (spA f q c k).rs := fun i _ => by
  show cnt (rep1 f q) ≤ 2000 ∧ cnt zT ≤ 2000
  rw [rep1_cnt]
  exact ⟨by omega, by decide +kernel⟩
theorem spZ_sm : Sm spZ.rs := fun i hi => absurd hi (by simp [spZ])
theorem zT_none : noneB zT = true := same_self zT
theorem condsA : (decide ((1 : Nat) ≤ 1) && (decide ((1 : Nat) ≤ 8) && (initC cnA && namesB (fun _ => cnA) 1))) = true := by decide +kernel
set_option maxRecDepth 100000 in
theorem spA_right (q c k : Nat) : specB (spA (sE 48 57) q c k) = true := by
  have h1 : condsB (spA (sE 48 57) q c k).cs = true := by
    exact condsA
  have h2 : ruleB (ruA (sE 48 57) q) 1 = true := by
    unfold ruleB startsB actB patB ruA
    simp [rep1_right, zT_none]
  unfold specB
  rw [h1]
  simp [spA, rulesB, allTo, h2]
set_option maxRecDepth 100000 in
theorem spA_text (q c k : Nat) : textT (spA (sE 48 57) q c k) = [37, 37, 10, 60, 42, 62, 91, 48, 45, 57, 93, 123, 49, 44, 125, 32, 101, 109, 105, 116, 10] := by
  have h1 : ruleT (ruA (sE 48 57) q) (fun _ => cnA) = [60, 42, 62, 91, 48, 45, 57, 93, 123, 49, 44, 125, 32, 101, 109, 105, 116] := by
    unfold ruleT startsT matchT actT ruA
    simp [zT_none, rep1_txt]
  unfold textT linesT condLs dftLs ruleLs spA
  simp [flatLn, h1, List.range_succ]
theorem spA_print (q c k : Nat) : spprintV (spA (sE 48 57) q c k) = .tuple #[.string ⟨#[37, 37, 10, 60, 42, 62, 91, 48, 45, 57, 93, 123, 49, 44, 125, 32, 101, 109, 105, 116, 10]⟩, .int .i64 0] := by
  unfold spprintV; rw [if_pos (spA_right q c k), spA_text]
theorem spZ_print : spprintV spZ = .tuple #[.string ⟨#[]⟩, .int .i64 1] := by
  unfold spprintV; rw [if_neg]; simp [specB, condsB, spZ]
theorem sameR_self (r : Rl) : sameR r r = true := by
  unfold sameR plainR sameN
  rw [same_self, same_self, show allTo (fun i => decide (r.cs i = r.cs i)) r.cn = true from allTo_iff.2 fun i _ => decide_eq_true rfl]
  simp
theorem sameS_self (s : Sp) : sameS s s = true := by
  have h1 : sameRs s.rs s.rs = true := by
    unfold sameRs
    rw [decide_eq_true rfl, Bool.true_and]
    exact allTo_iff.2 fun i _ => sameR_self _
  have h2 : sameCs s.cs s.cs = true := by
    unfold sameCs
    rw [decide_eq_true rfl, Bool.true_and]
    exact allTo_iff.2 fun i _ => by simp [eqC]
  unfold sameS
  rw [h1, h2]
  simp
/-- All that awake asks. -/
theorem spA_all (f : Nat → Int) (hf : f = sE 48 57) (q c k : Nat) : Wf f ∧ (eqS f z0 = false) ∧ spprintV (spA f q c k) = .tuple #[.string ⟨#[37, 37, 10, 60, 42, 62, 91, 48, 45, 57, 93, 123, 49, 44, 125, 32, 101, 109, 105, 116, 10]⟩, .int .i64 0] ∧ specB (spA f q c k) = true ∧ activeB (spA f q c k) 0 0 = true ∧ activeB (spA f q c k) 1 0 = false ∧ sameS (spA f q c k) (spA f q c k) = true ∧ sameS (spA f q c k) spZ = false := by
  subst hf
  refine ⟨wf_acc _, ne_09, spA_print q c k, spA_right q c k, ?_, ?_, sameS_self _, ?_⟩
  · simp [activeB, spA, ixB, holdB, ruA]
  · simp [activeB, spA, ixB]
  · simp [sameS, spA, spZ]
end Go.Proofs.YtnfchlkdppblfaaDoor
/- The law's own first look of layer 6 (awake): the walk. -/
namespace Go.Proofs.YtnfchlkdppblfaaDoor
open Go.RowKit Go
/-- The world that awake has made. -/
def wdA (f : Nat → Int) (w1 : World) : World := ((((w1.alloc (.cells (row8 2 f 0 0 (.slice none 0 0)) 28)).alloc (.cells (row22 (ruA f w1.heap.size)) 46)).alloc (.cells (row2 cnA) 48)).alloc (.cells (row22 (ruA f w1.heap.size)) 46)).alloc (.cells (row3 (spA f w1.heap.size (w1.heap.size + 1 + 1) (w1.heap.size + 1 + 1 + 1))) 38)
theorem wdA_below (f : Nat → Int) (w1 : World) : Below w1.heap.size w1 (wdA f w1) := by
  unfold wdA
  exact (((((Below.refl _ _).alloc (by simp) _).alloc (by simp) _).alloc (by simp; omega) _).alloc (by simp; omega) _).alloc (by simp; omega) _
theorem alloc_at {w : World} {o : Obj} {n : Nat} (hn : n = w.heap.size) : (w.alloc o).heap[n]? = some o := hn ▸ heap_alloc_new w o
theorem alloc_old {w : World} {o o' : Obj} {n : Nat} (h : w.heap[n]? = some o') : (w.alloc o).heap[n]? = some o' := (Below.heap_alloc _ _ _ (lt_of_some h)).trans h
set_option maxRecDepth 100000 in
theorem wdA_in (f : Nat → Int) (hf : Wf f) (w1 : World) : SpIn (wdA f w1) (spA f w1.heap.size (w1.heap.size + 1 + 1) (w1.heap.size + 1 + 1 + 1)) ∧ (wdA f w1).heap[w1.heap.size + 1 + 1 + 1 + 1]? = some (.cells (row3 (spA f w1.heap.size (w1.heap.size + 1 + 1) (w1.heap.size + 1 + 1 + 1))) 38 (0, 0)) := by
  have hsz : (wdA f w1).heap.size = w1.heap.size + 5 := by unfold wdA; simp
  have b0 : (wdA f w1).heap[w1.heap.size]? = some (.cells (row8 2 f 0 0 (.slice none 0 0)) 28 (0, 0)) := by
    unfold wdA; exact alloc_old (alloc_old (alloc_old (alloc_old (alloc_at rfl))))
  have b2 : (wdA f w1).heap[w1.heap.size + 1 + 1]? = some (.cells (row2 cnA) 48 (0, 0)) := by
    unfold wdA; exact alloc_old (alloc_old (alloc_at (by simp)))
  have b3 : (wdA f w1).heap[w1.heap.size + 1 + 1 + 1]? = some (.cells (row22 (ruA f w1.heap.size)) 46 (0, 0)) := by
    unfold wdA; exact alloc_old (alloc_at (by simp))
  have b4 : (wdA f w1).heap[w1.heap.size + 1 + 1 + 1 + 1]? = some (.cells (row3 (spA f w1.heap.size (w1.heap.size + 1 + 1) (w1.heap.size + 1 + 1 + 1))) 38 (0, 0)) := by
    unfold wdA; exact alloc_at (by simp)
  refine ⟨⟨⟨Nat.le_refl _, by show 1 ≤ maxLen; unfold maxLen; decide, fun _ => ⟨_, 0, rfl, by omega, fun i hi => ?_⟩, fun i hi => by show cnA.nm.size ≤ maxLen; unfold maxLen; decide⟩, ⟨Nat.le_refl _, by show 1 ≤ maxLen; unfold maxLen; decide, fun _ => ⟨_, 0, rfl, by omega, fun i hi => ?_⟩, fun i hi => ⟨?_, ?_, ?_⟩⟩⟩, b4⟩
  · obtain rfl : i = 0 := by have : i < 1 := hi; omega
    exact cell2 b2
  · obtain rfl : i = 0 := by have : i < 1 := hi; omega
    exact cell22 b3
  · exact ⟨Nat.le_refl _, Nat.zero_le _, fun h => absurd h (by show ¬ 0 < 0; omega), fun i h => absurd h (by show ¬ i < 0; omega)⟩
  · refine ⟨wf_z0, Nat.le_refl _, by show 1 ≤ maxLen; unfold maxLen; decide, fun _ => ⟨_, 0, rfl, by omega, fun i hi => ?_⟩, fun i hi => lives_leaf _ _ hf⟩
    obtain rfl : i = 0 := by have : i < 1 := hi; omega
    exact cell8 b0
  · exact zT_lives _ _
theorem spZ_in (w : World) : SpIn w spZ := ⟨⟨Nat.le_refl _, by unfold maxLen; decide, fun h => absurd h (by show ¬ 0 < 0; omega), fun i h => absurd h (by show ¬ i < 0; omega)⟩, ⟨Nat.le_refl _, by unfold maxLen; decide, fun h => absurd h (by show ¬ 0 < 0; omega), fun i h => absurd h (by show ¬ i < 0; omega)⟩⟩
set_option maxRecDepth 100000 in
set_option maxHeartbeats 8000000 in
theorem spawake_any (w : World) : Calls Tryd.prog 9 #[] w fun e w' => e = .returned (.bool true) ∧ Below w.heap.size w w' := by
  obtain ⟨f, hf⟩ : ∃ f, f = sE 48 57 := ⟨_, rfl⟩
  have HA := Lib.hid (fun q c k => spA_all f hf q c k)
  have HOF := Lib.hid (fun w => (refof_any 48 57 w).mono (fun e w' h => (show e = .returned (SV f) ∧ Below w.heap.size w w' from ⟨by rw [h.1, hf], h.2⟩)))
  clear hf
  have HS : Hid (∀ w1 w2, Below (wdA f w1).heap.size (wdA f w1) w2 → SpIn w2 (spA f w1.heap.size (w1.heap.size + 1 + 1) (w1.heap.size + 1 + 1 + 1)) ∧ w2.heap[w1.heap.size + 1 + 1 + 1 + 1]? = some (.cells (row3 (spA f w1.heap.size (w1.heap.size + 1 + 1) (w1.heap.size + 1 + 1 + 1))) 38 (0, 0))) := Lib.hid fun w1 w2 hb => by
    have h := wdA_in f (HA.out 0 0 0).1 w1
    exact ⟨h.1.now hb, (hb.block _ (lt_of_some h.2)).trans h.2⟩
  have P1 : Hid (∀ w1 w2, Below (wdA f w1).heap.size (wdA f w1) w2 → Calls Tryd.prog 11 #[.agg #[.slice (some ⟨w1.heap.size + 1 + 1, 0, none⟩) 1 1, .bool true, .slice (some ⟨w1.heap.size + 1 + 1 + 1, 0, none⟩) 1 1]] w2 fun e w' => e = .returned (.tuple #[.string ⟨#[37, 37, 10, 60, 42, 62, 91, 48, 45, 57, 93, 123, 49, 44, 125, 32, 101, 109, 105, 116, 10]⟩, .int .i64 0]) ∧ Below (wdA f w1).heap.size (wdA f w1) w') := Lib.hid fun w1 w2 hb => (spprint_any _ w2 (HS.out w1 w2 hb).1 (spA_sm _ _ _ _)).mono fun e w' q => ⟨by rw [q.1, (HA.out _ _ _).2.2.1], hb.trans (q.2.mono hb.size)⟩
  have P2 : Hid (∀ w1 w2, Below (wdA f w1).heap.size (wdA f w1) w2 → Calls Tryd.prog 11 #[.agg #[.slice none 0 0, .bool false, .slice none 0 0]] w2 fun e w' => e = .returned (.tuple #[.string ⟨#[]⟩, .int .i64 1]) ∧ Below (wdA f w1).heap.size (wdA f w1) w') := Lib.hid fun w1 w2 hb => (spprint_any spZ w2 (spZ_in w2) spZ_sm).mono fun e w' q => ⟨by rw [q.1, spZ_print], hb.trans (q.2.mono hb.size)⟩
  have P3 : Hid (∀ w1 w2, Below (wdA f w1).heap.size (wdA f w1) w2 → Calls Tryd.prog 26 #[.agg #[.slice (some ⟨w1.heap.size + 1 + 1, 0, none⟩) 1 1, .bool true, .slice (some ⟨w1.heap.size + 1 + 1 + 1, 0, none⟩) 1 1]] w2 fun e w' => e = .returned (.bool true) ∧ Below (wdA f w1).heap.size (wdA f w1) w') := Lib.hid fun w1 w2 hb => (spright_any _ w2 (HS.out w1 w2 hb).1 (spA_sm _ _ _ _)).mono fun e w' q => ⟨by rw [q.1, (HA.out _ _ _).2.2.2.1], hb.trans (q.2.mono hb.size)⟩
  have P4 : Hid (∀ w1 w2, Below (wdA f w1).heap.size (wdA f w1) w2 → Calls Tryd.prog 12 #[.agg #[.slice (some ⟨w1.heap.size + 1 + 1, 0, none⟩) 1 1, .bool true, .slice (some ⟨w1.heap.size + 1 + 1 + 1, 0, none⟩) 1 1], .int .i64 0, .int .i64 0] w2 fun e w' => e = .returned (.bool true) ∧ Below (wdA f w1).heap.size (wdA f w1) w') := Lib.hid fun w1 w2 hb => (active_any _ 0 0 w2 (HS.out w1 w2 hb).1).mono fun e w' q => ⟨by rw [q.1, (HA.out _ _ _).2.2.2.2.1], hb.trans (q.2.mono hb.size)⟩
  have P5 : Hid (∀ w1 w2, Below (wdA f w1).heap.size (wdA f w1) w2 → Calls Tryd.prog 12 #[.agg #[.slice (some ⟨w1.heap.size + 1 + 1, 0, none⟩) 1 1, .bool true, .slice (some ⟨w1.heap.size + 1 + 1 + 1, 0, none⟩) 1 1], .int .i64 1, .int .i64 0] w2 fun e w' => e = .returned (.bool false) ∧ Below (wdA f w1).heap.size (wdA f w1) w') := Lib.hid fun w1 w2 hb => (active_any _ 1 0 w2 (HS.out w1 w2 hb).1).mono fun e w' q => ⟨by rw [q.1, (HA.out _ _ _).2.2.2.2.2.1], hb.trans (q.2.mono hb.size)⟩
  have P6 : Hid (∀ w1 w2, Below (wdA f w1).heap.size (wdA f w1) w2 → Calls Tryd.prog 13 #[.agg #[.slice (some ⟨w1.heap.size + 1 + 1, 0, none⟩) 1 1, .bool true, .slice (some ⟨w1.heap.size + 1 + 1 + 1, 0, none⟩) 1 1], .agg #[.slice (some ⟨w1.heap.size + 1 + 1, 0, none⟩) 1 1, .bool true, .slice (some ⟨w1.heap.size + 1 + 1 + 1, 0, none⟩) 1 1]] w2 fun e w' => e = .returned (.bool true) ∧ Below (wdA f w1).heap.size (wdA f w1) w') := Lib.hid fun w1 w2 hb => (spsame_any _ _ w2 (HS.out w1 w2 hb).1 (HS.out w1 w2 hb).1 (spA_sm _ _ _ _)).mono fun e w' q => ⟨by rw [q.1, (HA.out _ _ _).2.2.2.2.2.2.1], hb.trans (q.2.mono hb.size)⟩
  have P7 : Hid (∀ w1 w2, Below (wdA f w1).heap.size (wdA f w1) w2 → Calls Tryd.prog 13 #[.agg #[.slice (some ⟨w1.heap.size + 1 + 1, 0, none⟩) 1 1, .bool true, .slice (some ⟨w1.heap.size + 1 + 1 + 1, 0, none⟩) 1 1], .agg #[.slice none 0 0, .bool false, .slice none 0 0]] w2 fun e w' => e = .returned (.bool false) ∧ Below (wdA f w1).heap.size (wdA f w1) w') := Lib.hid fun w1 w2 hb => (spsame_any _ spZ w2 (HS.out w1 w2 hb).1 (spZ_in w2) (spA_sm _ _ _ _)).mono fun e w' q => ⟨by rw [q.1, (HA.out _ _ _).2.2.2.2.2.2.2], hb.trans (q.2.mono hb.size)⟩
  clear HA
  have HL : Hid (∀ (w1 : World) o o', ((((w1.alloc o).alloc (.cells (row22 (ruA f w1.heap.size)) 46)).alloc o')).heap[w1.heap.size + 1]? = some (.cells (row22 (ruA f w1.heap.size)) 46 (0, 0))) := Lib.hid fun w1 o o' => alloc_old (alloc_at (by simp))
  go_enter Tryd.func9, Tryd.ntmps9
  go_wp2_with (first
    | (go_at_call 16; refine (HOF.out _).mono ?_; rintro e w1 ⟨rfl, hb1⟩)
    | (refine wpList_store42n _ _ rfl rfl rfl _ rfl (by simp) rfl (ruA f w1.heap.size) rfl ?_)
    | (refine wpList_load42 _ rfl rfl _ _ rfl (ruA f w1.heap.size) (ld22 (HL.out _ _ _)) ?_)
    | (go_at_call 11; refine (P1.out w1 _ (Below.refl _ _)).mono ?_; clear P1 HL HOF; rintro e w2 ⟨rfl, hb2⟩; obtain ⟨c0, c1, c2⟩ := cell3 (s := spA f w1.heap.size (w1.heap.size + 1 + 1) (w1.heap.size + 1 + 1 + 1)) (HS.out w1 w2 hb2).2; unfold spA at c0 c1 c2; dsimp only at c0 c1 c2)
    | (go_at_call 11; refine (P2.out w1 _ hb2).mono ?_; clear P2; rintro e w3 ⟨rfl, hb3⟩; clear c0 c1 c2; obtain ⟨c0, c1, c2⟩ := cell3 (s := spA f w1.heap.size (w1.heap.size + 1 + 1) (w1.heap.size + 1 + 1 + 1)) (HS.out w1 w3 hb3).2; unfold spA at c0 c1 c2; dsimp only at c0 c1 c2)
    | (go_at_call 26; refine (P3.out w1 _ hb3).mono ?_; clear P3; rintro e w4 ⟨rfl, hb4⟩; clear c0 c1 c2; obtain ⟨c0, c1, c2⟩ := cell3 (s := spA f w1.heap.size (w1.heap.size + 1 + 1) (w1.heap.size + 1 + 1 + 1)) (HS.out w1 w4 hb4).2; unfold spA at c0 c1 c2; dsimp only at c0 c1 c2)
    | (go_at_call 12; refine (P4.out w1 _ hb4).mono ?_; clear P4; rintro e w5 ⟨rfl, hb5⟩; clear c0 c1 c2; obtain ⟨c0, c1, c2⟩ := cell3 (s := spA f w1.heap.size (w1.heap.size + 1 + 1) (w1.heap.size + 1 + 1 + 1)) (HS.out w1 w5 hb5).2; unfold spA at c0 c1 c2; dsimp only at c0 c1 c2)
    | (go_at_call 12; refine (P5.out w1 _ hb5).mono ?_; clear P5; rintro e w6 ⟨rfl, hb6⟩; clear c0 c1 c2; obtain ⟨c0, c1, c2⟩ := cell3 (s := spA f w1.heap.size (w1.heap.size + 1 + 1) (w1.heap.size + 1 + 1 + 1)) (HS.out w1 w6 hb6).2; unfold spA at c0 c1 c2; dsimp only at c0 c1 c2)
    | (go_at_call 13; refine (P6.out w1 _ hb6).mono ?_; clear P6; rintro e w7 ⟨rfl, hb7⟩; clear c0 c1 c2; obtain ⟨c0, c1, c2⟩ := cell3 (s := spA f w1.heap.size (w1.heap.size + 1 + 1) (w1.heap.size + 1 + 1 + 1)) (HS.out w1 w7 hb7).2; unfold spA at c0 c1 c2; dsimp only at c0 c1 c2)
    | (go_at_call 13; refine (P7.out w1 _ hb7).mono ?_; clear P7; rintro e w8 ⟨rfl, hb8⟩))
  go_ret
  exact ⟨rfl, hb1.trans (((wdA_below f w1).trans (hb8.mono (wdA_below f w1).size)).mono hb1.size)⟩
end Go.Proofs.YtnfchlkdppblfaaDoor
