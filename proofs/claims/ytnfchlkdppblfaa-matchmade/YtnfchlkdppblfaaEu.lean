/- Contract of written for all patterns; the keys of a set of places, sorted. -/
import Derived.Test.YtnfchlkdppblfaaEt
import Derived.Test.YtnfchlkdppblfaaSh
namespace Go.Proofs.Ytnfchlkdppblfaa
open Go.RowKit Go.Maps Go Go.Sort Go.Shelf
theorem written_all (S : ByteArray) : ∀ t : Tr, WrOk S t
  | .node k s lo hi a n cap kid => fun w P hL hf hc hP => by
    have IH := fun i => written_all S (kid i)
    have hfit := fitT_fits hf
    have hcs := fits_cases hfit
    simp only [Tr.k, Tr.n, Tr.lo, Tr.hi] at hcs
    show Calls Try.prog 19 #[nodeV k s lo hi (.slice a n cap)] w (WrP S (.node k s lo hi a n cap kid) P w)
    rcases hcs with ⟨rfl, rfl⟩ | ⟨rfl, rfl⟩ | ⟨h34, h2⟩ | ⟨rfl, rfl, _⟩
    · refine written_zero S 1 s lo hi a 0 cap kid w P hL hf hc (by omega) ?_
      rw [sz_eq]
      have e1 : ownT (.node 1 s lo hi a 0 cap kid) = 0 := if_neg (show ¬ (1 : Int) = 2 by omega)
      have e2 : timT (.node 1 s lo hi a 0 cap kid) = 0 := (if_neg (show ¬ ((1 : Int) = 3 ∨ (1 : Int) = 4) by omega)).trans (if_neg (show ¬ (1 : Int) = 5 by omega))
      rw [e1, e2]; simp
    · exact written_bytes S s lo hi a 0 cap kid w P hL.1 rfl
    · by_cases hz : sz (.node k s lo hi a n cap kid) = 0
      · exact written_zero S k s lo hi a n cap kid w P hL hf hc (by omega) hz
      · exact written_many S k h34 s lo hi a n cap kid (fun i _ => IH i) w P hP hL hf hc hz h2
    · by_cases hz : sz (.node 5 s lo hi a 1 cap kid) = 0
      · exact written_zero S 5 s lo hi a 1 cap kid w P hL hf hc (by omega) hz
      · exact written_rep S s lo hi a cap kid (IH 0) w P hP hL hf hc hz
  | .nul => fun _ _ hL _ _ _ => hL.elim
set_option maxRecDepth 100000 in
theorem insert_own (w : World) {ops : Array Oper} {rest : List Oper} {o : Oper} {a : Act} {Q : Exit → Act → World → Prop}
    (hg : o.guard = none) (m x v : Operand) (hop : o.op = Op.insert 47 m x v) (b n : Nat) (D : DataW Unit)
    (hm : a.eval m = .map (some b)) (hown : w.ownsMap Try.prog 3 unitElem b n D) (hn : n < maxLen) (y : Int) (hx : a.eval x = .int .i64 y) (hv : a.eval v = .agg #[]) (hw : (Lit.int .i64 y).wf = true)
    (hK : ∀ w', w'.ownsMap Try.prog 3 unitElem b (n + 1) (D.put (.int .i64 y) (.agg [])) → w.grownBy w' (some b) → wpList Try.prog ops Q rest (a.put o.dst undef) w') :
    wpList Try.prog ops Q (o :: rest) a w := by
  refine wpList_plain hg fun K' hK' => ?_
  obtain ⟨w', hrun, r1, r2⟩ := hown.update law3 Try.underlying47 hn (keyOf_int_mk Try.underlying3 hw) unitElem_mk
  unfold Oper.wp
  simp [execOp, hop, hm, hx, hv, hrun, Result.andThen]
  exact hK' _ _ (hK w' r1 r2)
set_option maxRecDepth 100000 in
theorem sortsA (m : Nat) : AnyZI.SortsIn Try.prog Try.sortedA_ren Fence.wide m :=
  ⟨fun blk off cap ss W hH hblk hsz => callsIn_wide.2 (AnyM.slices_Sort_int Try.sortA blk off cap ss W hH hblk hsz),
   fun p cap W => callsIn_wide.2 (AnyM.slices_Sort_int_none Try.sortA p cap W)⟩
set_option maxRecDepth 100000 in
theorem keys_any (b : Nat) (w : World) : Calls Try.prog 21 #[.map (some b)] w fun e w' => e = .returned (.func (.func 38) #[] #[.pointer (some ⟨w.heap.size, 0, none⟩)]) ∧ w' = w.alloc (.cells #[.map (some b)] 47) :=
  (callsIn_wide (n := 5)).1 (AnyZI.keys_in Try.keysA Fence.wide 5 trivial rfl (some b) w)
set_option maxHeartbeats 1000000 in
theorem sorted_any (b nn : Nat) (D : DataW Unit) (w : World) (hown : w.ownsMap Try.prog 3 unitElem b nn D) (hmax : Maps.size D ≤ maxLen) (hbytes : Maps.size D * 8 ≤ 140737488355328) :
    Calls Try.prog 20 #[.func (.func 38) #[] #[.pointer (some ⟨w.heap.size, 0, none⟩)]] (w.alloc (.cells #[.map (some b)] 47)) fun e w' => ∃ (v : Value) (ss : List Int), e = .returned v ∧ ss.Perm (intKeys D) ∧
      w'.ownsRow (w.alloc (.cells #[.map (some b)] 47)).heap.size 3 1 v ss.length ((ss.mergeSort (fun x y => decide (x ≤ y))).map encZ) ∧ (v = .slice none 0 0 ↔ ss = []) ∧ Below (w.alloc (.cells #[.map (some b)] 47)).heap.size (w.alloc (.cells #[.map (some b)] 47)) w' := by
  have hbl := hown.lt
  have hseq : SeqGives Fence.wide 2 Try.prog 38 #[.pointer (some ⟨w.heap.size, 0, none⟩)] encZ (fun ss => ss.Perm (intKeys D)) (Maps.size D) (w.alloc (.cells #[.map (some b)] 47)) :=
    AnyZI.keys_gives (ρ := Try.keysA_ren) { Try.keysA with } Fence.wide _ trivial rfl (by omega) w.heap.size b nn D _ (by simp) (by simp) (by
      obtain ⟨es, clock, hb, Ft, hs, hD⟩ := hown
      exact ⟨es, clock, (Below.heap_alloc _ _ b hbl).trans hb, Ft, hs, hD⟩)
  exact (callsIn_wide (n := 5)).1 (AnyZI.sorted_in Try.sortedA Fence.wide 5 trivial trivial trivial trivial rfl (by omega) (sortsA _) (enters_of Try.func37 (by kernel_rfl) rfl) 38 #[.pointer (some ⟨w.heap.size, 0, none⟩)] trivial (enters_of Try.func38 (by kernel_rfl) rfl) _ _ hmax hbytes _ hseq)
theorem lst_sort {L : Nat} {S : Nat → Prop} {ss : List Int} {D : DataW Unit} (h : ss.Perm (intKeys D)) (hp : ((lst L S).map (fun i : Nat => (i : Int))).Perm (intKeys D)) : ss.mergeSort (fun x y => decide (x ≤ y)) = (lst L S).map (fun i : Nat => (i : Int)) := by
  rw [show (fun x y : Int => decide (x ≤ y)) = leI from rfl, mergeSort_of_perm_i (h.trans hp.symm)]
  exact List.mergeSort_of_pairwise (List.pairwise_map.2 ((lst_sorted L S).imp fun {a b} hab => by simp only [leI, decide_eq_true_eq]; omega))
end Go.Proofs.Ytnfchlkdppblfaa
