/- Sets of places, kept as the keys of maps: what is in them, how many they are; contracts of maps.Copy and the step's fresh. -/
import Derived.Test.YtnfchlkdppblfaaEb
import Derived.Maps.Own
import Derived.Maps.OwnOps
import Derived.Maps.OwnSet
import Derived.Maps.RangeWalk
import Derived.Maps.Ext
import Derived.Lib.SlKeysI
namespace Go.Proofs.Ytnfchlkdppblfaa
open Go.RowKit Go.Maps Go
theorem law3 : Keyed Try.prog 3 := int_keyed Try.underlying3
theorem zero57 (w : World) : (zeroValue 55).run Try.prog w = .ok (.agg #[]) w := by kernel_rfl
/-- What a datum holds: these places. -/
def Hs (D : DataW Unit) (S : Nat → Prop) : Prop := ∀ x : Int, Maps.has D (.int .i64 x) = true ↔ ∃ i : Nat, x = i ∧ S i
/-- Block b is a map, with these places as its keys. -/
def PS (w : World) (b : Nat) (S : Nat → Prop) : Prop := ∃ D : DataW Unit, w.ownsMap Try.prog 3 unitElem b (Maps.size D) D ∧ Hs D S
theorem own_tight {w : World} {b n : Nat} {D : DataW Unit} (h : w.ownsMap Try.prog 3 unitElem b n D) : w.ownsMap Try.prog 3 unitElem b (Maps.size D) D := by
  obtain ⟨es, clock, h1, h2, h3, h4⟩ := h
  refine ⟨es, clock, h1, h2, ?_, h4⟩
  rw [h4]
  simp [Maps.size, length_sorted]
theorem PS.of {w : World} {b n : Nat} {D : DataW Unit} {S : Nat → Prop} (h : w.ownsMap Try.prog 3 unitElem b n D) (hs : Hs D S) : PS w b S := ⟨D, own_tight h, hs⟩
theorem PS.lt {w : World} {b : Nat} {S : Nat → Prop} (h : PS w b S) : b < w.heap.size := by obtain ⟨D, h, _⟩ := h; exact h.lt
theorem PS.on {w w' : World} {b : Nat} {S : Nat → Prop} (h : PS w b S) (hb : w'.heap[b]? = w.heap[b]?) : PS w' b S := by
  obtain ⟨D, ⟨es, clock, h1, h2⟩, hs⟩ := h
  exact ⟨D, ⟨es, clock, hb.trans h1, h2⟩, hs⟩
theorem PS.kept {w w' : World} {b : Nat} {S : Nat → Prop} {row : Option Nat} (h : PS w b S) (hg : w.grownBy w' row) (hne : some b ≠ row) : PS w' b S := by
  obtain ⟨D, h, hs⟩ := h
  exact ⟨D, h.kept hg hne, hs⟩
theorem PS.ismap {w : World} {b : Nat} {S : Nat → Prop} (h : PS w b S) : ∃ es c, w.heap[b]? = some (.map es c) := by
  obtain ⟨D, ⟨es, clock, h1, _⟩, _⟩ := h
  exact ⟨es, clock, h1⟩
theorem hs_empty : Hs (.map []) no0 := fun x => by
  constructor
  · intro h; simp [Maps.has] at h
  · rintro ⟨_, _, h⟩; exact h.elim
theorem PS.made (w : World) : PS (w.alloc (.map #[] 0)) w.heap.size no0 := ⟨.map [], World.ownsMap_made _ _ _ _, hs_empty⟩
/-- The places of a set, in order. -/
noncomputable def lst (L : Nat) (S : Nat → Prop) : List Nat := by
  classical
  exact (List.range (L + 1)).filter fun i => decide (S i)
theorem mem_lst {L : Nat} {S : Nat → Prop} (hS : ∀ i, S i → i ≤ L) (i : Nat) : i ∈ lst L S ↔ S i := by
  classical
  unfold lst
  simp only [List.mem_filter, List.mem_range, decide_eq_true_eq]
  exact ⟨fun h => h.2, fun h => ⟨by have := hS i h; omega, h⟩⟩
theorem lst_le (L : Nat) (S : Nat → Prop) : (lst L S).length ≤ L + 1 := by
  classical
  unfold lst
  exact Nat.le_trans (List.length_filter_le _ _) (by simp)
theorem lst_nodup (L : Nat) (S : Nat → Prop) : (lst L S).Nodup := by
  classical
  unfold lst
  exact List.Nodup.sublist List.filter_sublist List.nodup_range
theorem lst_sorted (L : Nat) (S : Nat → Prop) : (lst L S).Pairwise (· < ·) := by
  classical
  unfold lst
  exact List.Pairwise.sublist List.filter_sublist List.pairwise_lt_range
/-- A map's keys are the places of its set. -/
theorem keys_perm {w : World} {b n : Nat} {D : DataW Unit} {S : Nat → Prop} {L : Nat} (h : w.ownsMap Try.prog 3 unitElem b n D) (hs : Hs D S) (hS : ∀ i, S i → i ≤ L) : ((lst L S).map (fun i : Nat => (i : Int))).Perm (intKeys D) := by
  have hc : CollectedI D (fun _ => false) ((lst L S).map fun i : Nat => (i : Int)) := by
    refine ⟨?_, fun x => ?_⟩
    · exact List.pairwise_map.2 ((lst_nodup L S).imp fun {a b} hne e => hne (by omega))
    · rw [hs x]
      simp only [List.mem_map, mem_lst hS, and_true]
      constructor
      · rintro ⟨i, h1, h2⟩; exact ⟨i, h2.symm, h1⟩
      · rintro ⟨i, h1, h2⟩; exact ⟨i, h2, h1.symm⟩
  exact hc.perm h law3 Try.underlying3 fun _ => rfl
theorem size_keys (D : DataW Unit) (h : IsMap D) : (intKeys D).length = Maps.size D := by
  obtain ⟨es, rfl⟩ := h
  simp [intKeys, Maps.size]
theorem size_lst {w : World} {b n : Nat} {D : DataW Unit} {S : Nat → Prop} {L : Nat} (h : w.ownsMap Try.prog 3 unitElem b n D) (hs : Hs D S) (hS : ∀ i, S i → i ≤ L) : Maps.size D = (lst L S).length := by
  rw [← size_keys D h.isMap, ← (keys_perm h hs hS).length_eq, List.length_map]
theorem size_le {w : World} {b n : Nat} {D : DataW Unit} {S : Nat → Prop} {L : Nat} (h : w.ownsMap Try.prog 3 unitElem b n D) (hs : Hs D S) (hS : ∀ i, S i → i ≤ L) : Maps.size D ≤ L + 1 := by
  rw [size_lst h hs hS]; exact lst_le L S
theorem hs_put {D : DataW Unit} {S : Nat → Prop} (hD : IsMap D) (hs : Hs D S) (i : Nat) (d : DataW Unit) (hk : WideAt.IsKeyLit (.int .i64 (i : Int))) : Hs (D.put (.int .i64 (i : Int)) d) (un S fun j => j = i) := fun x => by
  by_cases e : x = i
  · subst e
    rw [has_put_same hD hk]
    exact ⟨fun _ => ⟨i, rfl, Or.inr rfl⟩, fun _ => rfl⟩
  · rw [has_put_other (by simpa using e), hs x]
    constructor
    · rintro ⟨j, h1, h2⟩; exact ⟨j, h1, Or.inl h2⟩
    · rintro ⟨j, h1, h2 | h2⟩
      · exact ⟨j, h1, h2⟩
      · exact absurd (h1.trans (by rw [h2])) e
theorem hs_del {D : DataW Unit} {S : Nat → Prop} (hs : Hs D S) (i : Nat) : Hs (D.del (.int .i64 (i : Int))) (df S fun j => j = i) := fun x => by
  by_cases e : x = i
  · subst e
    rw [has_del_same]
    constructor
    · intro h; cases h
    · rintro ⟨j, h1, _, h2⟩; exact absurd (by omega) h2
  · rw [has_del_other (by simpa using e), hs x]
    constructor
    · rintro ⟨j, h1, h2⟩; exact ⟨j, h1, h2, fun h => e (by rw [h1, h])⟩
    · rintro ⟨j, h1, h2, _⟩; exact ⟨j, h1, h2⟩
theorem wf_place {i L : Nat} (h : i ≤ L) (hL : L ≤ 20000) : (Lit.int .i64 (i : Int)).wf = true := WalkArith.wf_i64 (by omega)
/-- What of a set is still to come, and what has come. -/
def lf (left : Lit → Bool) (i : Nat) : Prop := left (.int .i64 (i : Int)) = true
theorem left_in {w : World} {b r n cnt : Nat} {D : DataW Unit} {left : Lit → Bool} {S : Nat → Prop} (h : w.ranges Try.prog 3 unitElem b r n D left cnt) (hs : Hs D S) {x : Int} (hl : left (.int .i64 x) = true) : ∃ i : Nat, x = i ∧ S i := by
  refine (hs x).1 ?_
  obtain ⟨es, clock, since, seen, c0, hb, F, hn, hD, hr, h1, h2, h3, h4, h5, h6⟩ := h
  obtain ⟨e, he, hk⟩ := h4 _ hl
  rw [hD, has_eq, List.any_eq_true]
  exact ⟨WideElems.rg Try.prog 3 unitElem e, mem_sorted.2 (List.mem_map.2 ⟨e, he, rfl⟩), by rw [hk]; simp [Lit.sameKey]⟩
theorem strike_iff (left : Lit → Bool) (x : Int) (y : Int) : (left (.int .i64 y) && !(Lit.int .i64 y).sameKey (.int .i64 x)) = true ↔ left (.int .i64 y) = true ∧ y ≠ x := by
  simp [Lit.sameKey]
theorem hs_congr {D : DataW Unit} {S T : Nat → Prop} (h : Hs D S) (hh : ∀ i, S i ↔ T i) : Hs D T := by
  rw [← ext1 hh]; exact h
section
variable {w : World} {ops : Array Oper} {rest : List Oper} {o : Oper} {a : Act} {Q : Exit → Act → World → Prop}
/-- The next entry of a set of places. -/
theorem next_places (hg : o.guard = none) (it : Operand) (hop : o.op = Op.next it false) (b r n : Nat) (D : DataW Unit) (left : Lit → Bool) (cnt : Nat) (hit : a.eval it = .pointer (some ⟨r, 0, none⟩)) (h : w.ranges Try.prog 3 unitElem b r n D left cnt)
    (hDone : cnt = 0 → (∀ kl, left kl = false) → wpList Try.prog ops Q rest (a.put o.dst (.tuple #[.bool false])) w)
    (hMore : ∀ (x : Int) (w' : World) (cnt' : Nat), (Lit.int .i64 x).wf = true → left (.int .i64 x) = true → w'.ranges Try.prog 3 unitElem b r n D (fun z => left z && !z.sameKey (.int .i64 x)) cnt' → cnt' < cnt →
      w.grownBy w' (some r) → w'.heap.size = w.heap.size → (Instr.entry (.pointer (some ⟨r, 0, none⟩))).run Try.prog w' = .ok (.tuple #[.int .i64 x, .agg #[]]) w' → wpList Try.prog ops Q rest (a.put o.dst (.tuple #[.bool true, .int .i64 x, .agg #[]])) w') :
    wpList Try.prog ops Q (o :: rest) a w :=
  wpList_next_ranges w hg it hop 3 law3 unitElem (Value.int .i64) (fun _ : Unit => Value.agg #[]) (fun key kl hkey => by obtain ⟨x, rfl, _⟩ := Maps.keyOf_int_inv Try.underlying3 hkey; exact ⟨x, rfl⟩) (fun v y hv => by obtain ⟨rfl, _⟩ := unitElem_inv hv; exact ⟨(), rfl⟩)
    b r n D left cnt hit h hDone (fun x c kl y w' cnt' hkey hlk hv hat hrg hlt hgr hsz hen => by
      obtain ⟨x', ex, rfl, hwx⟩ := Maps.keyOf_int_inv Try.underlying3 hkey
      cases ex
      exact hMore x w' cnt' hwx hlk hrg hlt hgr hsz hen)
end
theorem copy_start {D : DataW Unit} {Ds : DataW Unit} {S Ss : Nat → Prop} (h : Hs D S) (hs : Hs Ds Ss) : Hs D (un S (df Ss (lf (Maps.has Ds)))) := hs_congr h fun i => by
  constructor
  · exact Or.inl
  · rintro (q | ⟨q, q'⟩)
    · exact q
    · exact absurd ((hs i).2 ⟨i, rfl, q⟩) q'
theorem copy_end {D : DataW Unit} {S Ss : Nat → Prop} {left : Lit → Bool} (h : Hs D (un S (df Ss (lf left)))) (hl : ∀ kl, left kl = false) : Hs D (un S Ss) := hs_congr h fun i => by
  constructor
  · rintro (q | q)
    · exact Or.inl q
    · exact Or.inr q.1
  · rintro (q | q)
    · exact Or.inl q
    · exact Or.inr ⟨q, fun h => by unfold lf at h; rw [hl] at h; cases h⟩
theorem copy_step {D : DataW Unit} {S Ss : Nat → Prop} {left : Lit → Bool} {i : Nat} (hi : Ss i) (h : Hs D (un (un S (df Ss (lf left))) fun j => j = i)) : Hs D (un S (df Ss (lf fun z => left z && !z.sameKey (.int .i64 (i : Int))))) := hs_congr h fun j => by
  have e : lf (fun z => left z && !z.sameKey (.int .i64 (i : Int))) j ↔ lf left j ∧ j ≠ i := by
    unfold lf
    rw [strike_iff]
    exact and_congr_right fun _ => not_congr (by omega)
  unfold un df
  rw [e]
  by_cases q : j = i
  · subst q
    exact ⟨fun _ => Or.inr ⟨hi, fun h => h.2 rfl⟩, fun _ => Or.inr rfl⟩
  · constructor
    · rintro ((h | h) | h)
      · exact Or.inl h
      · exact Or.inr ⟨h.1, fun h' => h.2 h'.1⟩
      · exact absurd h q
    · rintro (h | h)
      · exact Or.inl (Or.inl h)
      · exact Or.inl (Or.inr ⟨h.1, fun h' => h.2 ⟨h', q⟩⟩)
set_option maxRecDepth 100000 in
set_option maxHeartbeats 4000000 in
theorem copy_any (bd bs L : Nat) (Sd Ss : Nat → Prop) (w : World) (hd : PS w bd Sd) (hs : PS w bs Ss) (hne : bd ≠ bs) (hL : L ≤ 20000) (h1 : ∀ i, Sd i → i ≤ L) (h2 : ∀ i, Ss i → i ≤ L) :
    Calls Try.prog 58 #[.map (some bd), .map (some bs)] w fun e w' => e = .returned (.tuple #[]) ∧ PS w' bd (un Sd Ss) ∧ w.grownBy w' (some bd) := by
  obtain ⟨Dd, hd, hsd⟩ := hd
  obtain ⟨Ds, hs, hss⟩ := hs
  have hbd := hd.lt
  have hbs := hs.lt
  have z1 := size_le hd hsd h1
  have z2 := size_le hs hss h2
  go_enter Try.func58, Try.ntmps58
  go_wp2_with (first
    | (at_range; refine wpList_range_own _ rfl _ 47 rfl 3 55 law3 Try.underlying47 _ bs _ _ rfl hs ?_; intro w0 hrg0 hg0 hs0)
    | go_in)
  go_frame
  go_loopw [8] (fun _ wr => ∃ (left : Lit → Bool) (cnt : Nat) (Dout : DataW Unit), wr.ranges Try.prog 3 unitElem bs w.heap.size (Maps.size Ds) Ds left cnt ∧ cnt ≤ Maps.size Ds ∧
      wr.ownsMap Try.prog 3 unitElem bd (Maps.size Dd + (Maps.size Ds - cnt)) Dout ∧ Hs Dout (un Sd (df Ss (lf left))) ∧ w.grownBy wr (some bd))
    (fun _ wr => wr.rangeLeft bs w.heap.size)
  case atStart =>
    exact ⟨_, _, Dd, hrg0, Nat.le_refl _, (hd.kept hg0 (by simp)).mono (by omega), copy_start hsd hss, hg0.but _⟩
  case round =>
    obtain ⟨left, cnt, Dout, hrg, hcs, hout, hM, hgw⟩ := hrel
    go_wp2_with (first
      | (at_next; refine next_places rfl _ rfl bs w.heap.size _ _ _ _ rfl hrg ?_ ?_)
      | go_in)
    · intro hc0 hl0
      go_wp2
      go_end0
      exact ⟨rfl, PS.of hout (copy_end hM hl0), hgw⟩
    · intro x w1 cnt1 hwx hlx hrg1 hlt hg1 hs1 hen
      obtain ⟨i, rfl, hi⟩ := left_in hrg hss hlx
      have hout1 := hout.kept hg1 (fun e => by have := Option.some.inj e; omega)
      have hout2 := hout1.alloc (.cells #[] 55)
      have hmax : Maps.size Dd + (Maps.size Ds - cnt) < maxLen := by unfold maxLen; omega
      go_wp2_with (first
        | (at_mapUpdate; refine wpList_mapUpdate_own _ rfl _ _ _ 47 rfl 3 55 law3 Try.underlying47 _ bd _ _ rfl hout2 hmax _ _ _ rfl rfl (keyOf_int_mk Try.underlying3 hwx) _ [] unitElem_mk ?_; intro w2 hout3 hg2; go_frame)
        | go_in)
      have hrg2 := (hrg1.alloc (.cells #[] 55)).kept hg2 (fun e => hne (Option.some.inj e).symm) (fun e => by have := Option.some.inj e; omega)
      go_roundw
      case rel =>
        exact ⟨_, cnt1, _, hrg2, by omega, hout3.mono (by omega), copy_step hi (hs_put hout.isMap hM i _ (law3.key (keyOf_int_mk Try.underlying3 hwx))),
          ((hgw.andThen hg1 (fun j hj => .inl (by cases hj; exact Nat.le_refl _))).andThen (World.grownBy_alloc _ _ none) (fun j hj => by cases hj)).andThen hg2 (fun j hj => .inr hj)⟩
      case measure => rw [hrg2.left_eq, hrg.left_eq]; exact hlt
end Go.Proofs.Ytnfchlkdppblfaa
