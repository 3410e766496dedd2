/- Steps as they are built: contracts of optional, repeated and joined. -/
import Derived.Test.YtnfchlkdppblfaaEk
namespace Go.Proofs.Ytnfchlkdppblfaa
open Go.RowKit Go.Maps Go
/-- The rows of a step's kids lie in such blocks. -/
def rows (P : Nat → Prop) : St → Prop
  | .node _ _ a n _ _ kid => (0 < n → ∃ g off, a = some ⟨g, off, none⟩ ∧ P g) ∧ ∀ i, i < n → rows P (kid i)
  | .nul => True
theorem rows.kid {P : Nat → Prop} {t : St} (h : rows P t) {i : Nat} (hi : i < t.n) : rows P (t.kid i) := by
  cases t with
  | node => exact h.2 i hi
  | nul => simp [St.n] at hi
theorem rows.imp {P Q : Nat → Prop} (hPQ : ∀ g, P g → Q g) : ∀ {t : St}, rows P t → rows Q t
  | .node _ _ _ _ _ _ kid, h => ⟨fun hn => by obtain ⟨g, off, h1, h2⟩ := h.1 hn; exact ⟨g, off, h1, hPQ g h2⟩, fun i hi => rows.imp hPQ (t := kid i) (h.2 i hi)⟩
  | .nul, _ => trivial
theorem rows_of {w : World} {B : Nat} : ∀ {t : St}, SLv w B t → rows (· < B) t
  | .node _ _ _ _ _ _ kid, ⟨_, _, _, hc, hk⟩ => ⟨fun hn => by obtain ⟨g, off, h1, h2, _⟩ := hc hn; exact ⟨g, off, h1, h2⟩, fun i hi => rows_of (t := kid i) (hk i hi)⟩
  | .nul, h => h.elim
/-- A step that has just been built: its maps are new, and empty. -/
structure Built (B : Nat) (P : Nat → Prop) (w : World) (t : St) : Prop where
  rw : rows P t
  lv : SLv w w.heap.size t
  shp : Shp t
  sep : Sep t
  lo : ∀ b, mem t b → B ≤ b
  em : ∀ b, mem t b → w.heap[b]? = some (.map #[] 0)
theorem lt_of_some {w : World} {b : Nat} {o : Obj} (h : w.heap[b]? = some o) : b < w.heap.size := by
  rcases Nat.lt_or_ge b w.heap.size with q | q
  · exact q
  · rw [Array.getElem?_eq_none q] at h; cases h
theorem Built.below {B : Nat} {P : Nat → Prop} {w w' : World} {t : St} (h : Built B P w t) (hb : Below w.heap.size w w') : Built B P w' t :=
  ⟨h.rw, (h.lv.below hb).mono hb.size, h.shp, h.sep, h.lo, fun b hm => (hb.block b (lt_of_some (h.em b hm))).trans (h.em b hm)⟩
theorem Built.low {B B' : Nat} {P : Nat → Prop} {w : World} {t : St} (h : Built B P w t) (hB : B' ≤ B) : Built B' P w t := ⟨h.rw, h.lv, h.shp, h.sep, fun b hm => Nat.le_trans hB (h.lo b hm), h.em⟩
theorem Built.imp {B : Nat} {P Q : Nat → Prop} {w : World} {t : St} (h : Built B P w t) (hPQ : ∀ g, P g → Q g) : Built B Q w t := ⟨h.rw.imp hPQ, h.lv, h.shp, h.sep, h.lo, h.em⟩
theorem SLv.put {w w' : World} {q : Nat} {P : Nat → Prop} (hg : w.grownBy w' (some q)) (hP : ∀ g, P g → g ≠ q) {B : Nat} (hB : B ≤ w.heap.size) : ∀ {t : St}, rows P t → SLv w B t → SLv w' B t
  | .node _ _ _ _ _ _ kid, hr, ⟨hs, h1, h2, hc, hk⟩ => ⟨hs, h1, h2, fun hp => by
      obtain ⟨g, off, ha, hgB, hc⟩ := hc hp
      obtain ⟨g', off', ha', hPg⟩ := hr.1 hp
      rw [ha] at ha'
      injection ha' with ha'
      injection ha' with q1 q2 q3
      subst q1
      have key : ∀ o : Nat, w'.cell? ⟨g, o, none⟩ = w.cell? ⟨g, o, none⟩ := fun o => World.cell?_of_block (hg.block g (by omega) (fun e => hP g hPg (Option.some.inj e)))
      refine ⟨g, off, ha, hgB, fun i hi => ?_⟩
      obtain ⟨k0, k1, k2, k3, k4, k5, k6⟩ := hc i hi
      exact ⟨(key _).trans k0, (key _).trans k1, (key _).trans k2, (key _).trans k3, (key _).trans k4, (key _).trans k5, (key _).trans k6⟩, fun i hi => SLv.put hg hP hB (t := kid i) (hr.2 i hi) (hk i hi)⟩
  | .nul, _, h => False.elim h
theorem Built.put {B : Nat} {P : Nat → Prop} {w w' : World} {t : St} {q : Nat} {c : Array Value} {e : Nat} {f : Nat × Nat} (h : Built B P w t) (hg : w.grownBy w' (some q)) (hP : ∀ g, P g → g ≠ q) (hq : w.heap[q]? = some (.cells c e f)) : Built B P w' t :=
  ⟨h.rw, (SLv.put hg hP (Nat.le_refl _) h.rw h.lv).mono hg.size, h.shp, h.sep, h.lo, fun b hm => (hg.block b (lt_of_some (h.em b hm)) (fun e => by cases e; rw [h.em _ hm] at hq; cases hq)).trans (h.em b hm)⟩
theorem Built.kid {B : Nat} {P : Nat → Prop} {w : World} {t : St} (h : Built B P w t) {i : Nat} (hi : i < t.n) : Built B P w (t.kid i) :=
  ⟨h.rw.kid hi, h.lv.kid hi, h.shp.kid hi, h.sep.kid hi, fun b hm => h.lo b ((mem_iff t b).2 (Or.inr ⟨i, hi, hm⟩)), fun b hm => h.em b ((mem_iff t b).2 (Or.inr ⟨i, hi, hm⟩))⟩
/-- A leaf without kids: Empty. -/
def empS (b : Nat) : St := .node 1 z0 none 0 0 (some b) fun _ => .nul
theorem emp_built {B b : Nat} {P : Nat → Prop} {w : World} (hb : B ≤ b) (hm : w.heap[b]? = some (.map #[] 0)) : Built B P w (empS b) := by
  refine ⟨⟨fun h => by omega, fun i h => by omega⟩, ⟨wf_z0, Nat.le_refl _, Nat.zero_le _, fun h => by omega, fun i h => by omega⟩, ⟨Or.inl rfl, fun _ => ⟨b, rfl⟩, fun i h => by omega⟩, ⟨fun _ _ i h => by omega, fun i j h1 h2 => by omega, fun i h => by omega⟩, ?_, ?_⟩
  · rintro x (h | ⟨i, h, _⟩)
    · cases h; exact hb
    · omega
  · rintro x (h | ⟨i, h, _⟩)
    · cases h; exact hm
    · omega
theorem node_built {B : Nat} {P : Nat → Prop} {w : World} {k : Int} {n cap g off b : Nat} {kid : Nat → St} (hsh : k = 3 ∨ (k = 4 ∧ 2 ≤ n ∧ ((kid 1).k = 1 → n = 2)) ∨ (k = 5 ∧ n = 1)) (hbB : B ≤ b) (hm : w.heap[b]? = some (.map #[] 0)) (hn : n ≤ cap) (hc : cap ≤ maxLen) (hg : 0 < n → g < w.heap.size ∧ P g) (hrow : ∀ i, i < n → At7 w g (off + i * 7) (kid i)) (hkids : ∀ i, i < n → Built B P w (kid i))
    (hsep : ∀ i j, i < j → j < n → ∀ b, mem (kid i) b → ¬ mem (kid j) b) (hown : ∀ i, i < n → ¬ mem (kid i) b) : Built B P w (.node k z0 (some ⟨g, off, none⟩) n cap (some b) kid) := by
  refine ⟨⟨fun h => ⟨g, off, rfl, (hg h).2⟩, fun i hi => (hkids i hi).rw⟩, ⟨wf_z0, hn, hc, fun h => ⟨g, off, rfl, (hg h).1, hrow⟩, fun i hi => (hkids i hi).lv⟩, ⟨by omega, fun _ => ⟨b, rfl⟩, fun i hi => (hkids i hi).shp⟩, ⟨fun x hx i hi => by cases hx; exact hown i hi, hsep, fun i hi => (hkids i hi).sep⟩, ?_, ?_⟩
  · rintro x (h | ⟨i, hi, h⟩)
    · cases h; exact hbB
    · exact (hkids i hi).lo x h
  · rintro x (h | ⟨i, hi, h⟩)
    · cases h; exact hm
    · exact (hkids i hi).em x h
def cells7 (t : St) : List Value := [.int .i64 t.k, .int .u64 (t.s 0), .int .u64 (t.s 1), .int .u64 (t.s 2), .int .u64 (t.s 3), .slice t.a t.n t.cap, .map t.m]
theorem at7_row {w : World} {g : Nat} {t : St} {e : Nat} (h : w.heap[g]? = some (.cells (row7 t.k t.s (.slice t.a t.n t.cap) (.map t.m)) e (0, 0))) : At7 w g 0 t := by
  obtain ⟨h0, h1, h2, h3, h4, h5, h6⟩ := cell7 (s := t.s) h
  exact ⟨h0, h1, h2, h3, h4, h5, h6⟩
abbrev row14 (t u : St) : Array Value := #[.int .i64 t.k, .int .u64 (t.s 0), .int .u64 (t.s 1), .int .u64 (t.s 2), .int .u64 (t.s 3), .slice t.a t.n t.cap, .map t.m, .int .i64 u.k, .int .u64 (u.s 0), .int .u64 (u.s 1), .int .u64 (u.s 2), .int .u64 (u.s 3), .slice u.a u.n u.cap, .map u.m]
def pairS (t u : St) (i : Nat) : St := if i = 0 then t else u
theorem at7_two {w : World} {g : Nat} {t u : St} {e : Nat} (h : w.heap[g]? = some (.cells (row14 t u) e (0, 0))) : ∀ i, i < 2 → At7 w g (0 + i * 7) (pairS t u i) := by
  intro i hi
  rcases (show i = 0 ∨ i = 1 by omega) with rfl | rfl
  · exact ⟨cell_of_row w g 0 _ _ _ h, cell_of_row w g 1 _ _ _ h, cell_of_row w g 2 _ _ _ h, cell_of_row w g 3 _ _ _ h, cell_of_row w g 4 _ _ _ h, cell_of_row w g 5 _ _ _ h, cell_of_row w g 6 _ _ _ h⟩
  · exact ⟨cell_of_row w g 7 _ _ _ h, cell_of_row w g 8 _ _ _ h, cell_of_row w g 9 _ _ _ h, cell_of_row w g 10 _ _ _ h, cell_of_row w g 11 _ _ _ h, cell_of_row w g 12 _ _ _ h, cell_of_row w g 13 _ _ _ h⟩
/-- What a call that builds a step gives: one that matches this. -/
def Gives (S : ByteArray) (B : Nat) (P : Nat → Prop) (r : Nat → Nat → Prop) (w : World) (e : Ending) (w' : World) : Prop :=
  ∃ u : St, e = .returned u.val ∧ Built B P w' u ∧ rel (nx S) S.size u = r ∧ u.k ≠ 1 ∧ Below w.heap.size w w'
theorem opt_fin {S : ByteArray} {B : Nat} {P : Nat → Prop} {w w4 : World} {t : St} {gs b1 b3 : Nat} (ht : Built B P w t) (hgs : P gs) (hB : B ≤ w.heap.size) (h4 : Below w.heap.size w w4) (h1 : w.heap.size ≤ b1) (h3 : w.heap.size ≤ b3) (h13 : b1 ≠ b3) (hm1 : w4.heap[b1]? = some (.map #[] 0)) (hm3 : w4.heap[b3]? = some (.map #[] 0)) (hr : w4.heap[gs]? = some (.cells (row14 t (empS b1)) 49 (0, 0))) :
    Gives S B P (opt (rel (nx S) S.size t)) w (.returned (stepV 4 z0 (.slice (some ⟨gs, 0, none⟩) 2 2) (.map (some b3)))) w4 := by
  have hml : ∀ b, mem t b → b < w.heap.size := fun b hb => lt_of_some (ht.em b hb)
  have hb : Built B P w4 (.node 4 z0 (some ⟨gs, 0, none⟩) 2 2 (some b3) (pairS t (empS b1))) := by
    refine node_built (Or.inr (Or.inl ⟨rfl, Nat.le_refl _, fun _ => rfl⟩)) (by omega) hm3 (Nat.le_refl _) (by unfold maxLen; omega) (fun _ => ⟨lt_of_some hr, hgs⟩) (at7_two hr) (fun i hi => ?_) (fun i j hij hj b hb => ?_) (fun i hi hb => ?_)
    · rcases (show i = 0 ∨ i = 1 by omega) with rfl | rfl
      · exact ht.below h4
      · exact emp_built (by omega) hm1
    · obtain ⟨rfl, rfl⟩ : i = 0 ∧ j = 1 := by omega
      have := hml b hb
      rintro (h | ⟨_, h, _⟩)
      · cases h; omega
      · omega
    · rcases (show i = 0 ∨ i = 1 by omega) with rfl | rfl
      · have := hml b3 hb; omega
      · rcases hb with h | ⟨_, h, _⟩
        · cases h; exact h13 rfl
        · omega
  refine ⟨_, rfl, hb, ?_, by simp [St.k], h4⟩
  rw [rel_opt hb.shp ⟨rfl, rfl⟩]
  rfl
theorem opt_same {S : ByteArray} {B : Nat} {P : Nat → Prop} {w : World} {T : St} (ht : Built B P w T) (hx : isOptB T = true) {o o' : Obj} : Gives S B P (opt (rel (nx S) S.size T)) w (.returned T.val) ((w.alloc o).alloc o') := by
  have hi := (isOptB_iff T).1 hx
  refine ⟨T, rfl, ht.below (alloc2_below _ _ _), ?_, by have := hi.1; omega, alloc2_below _ _ _⟩
  rw [rel_opt ht.shp hi, opt_opt]
theorem put7_other (w : World) (g x : Nat) (k : Int) (s : Nat → Int) (v m : Value) (h : x ≠ g) (hx : x < w.heap.size) : (put7 w g k s v m).heap[x]? = w.heap[x]? := (put7_grown w g k s v m).block x hx (fun e => h (Option.some.inj e))
theorem opt_end {S : ByteArray} {B : Nat} {P : Nat → Prop} {w w1 w3 : World} {T : St} {b1 b3 : Nat} {O : Array Value} (ht : Built B P w T) (hB : B ≤ w.heap.size) (hP : ∀ g, w.heap.size ≤ g → P g) (k2 : Below w.heap.size w w1) (k3 : w.heap.size + 2 ≤ w1.heap.size) (hO : O = row14 T (empS b1)) (hb1 : w.heap.size + 2 ≤ b1) (hm1 : w1.heap[b1]? = some (.map #[] 0))
    (hb3 : Below (w1.alloc (.cells O 49)).heap.size (w1.alloc (.cells O 49)) w3) (h3 : w1.heap.size < b3) (hm3 : w3.heap[b3]? = some (.map #[] 0)) :
    Gives S B P (opt (rel (nx S) S.size T)) w (.returned (stepV 4 z0 (.slice (some ⟨w1.heap.size, 0, none⟩) 2 2) (.map (some b3)))) (put7 w3 (w.heap.size + 1) 4 z0 (.slice (some ⟨w1.heap.size, 0, none⟩) 2 2) (.map (some b3))) := by
  have hl1 := lt_of_some hm1
  have hl3 := lt_of_some hm3
  have hs := hb3.size
  simp at hs
  have hB13 : Below w1.heap.size w1 w3 := box_below hb3
  have hB3 : Below w.heap.size w w3 := k2.trans (hB13.mono k2.size)
  refine opt_fin (gs := w1.heap.size) (b1 := b1) ht (hP _ (by omega)) hB (hB3.trans (put7_below w3 (by omega) _ _ _ _)) (by omega) (by omega) (by omega) ?_ ?_ ?_
  · rw [put7_other _ _ _ _ _ _ _ (by omega) (by omega), hB13.block b1 hl1]; exact hm1
  · rw [put7_other _ _ _ _ _ _ _ (by omega) (by omega)]; exact hm3
  · rw [put7_other _ _ _ _ _ _ _ (by omega) (by omega), box_kept hb3, hO]
set_option maxRecDepth 100000 in
set_option maxHeartbeats 2000000 in
theorem optional_node (S : ByteArray) (B : Nat) (P : Nat → Prop) (k : Int) (s : Nat → Int) (a : Option Addr) (n cap : Nat) (m : Option Nat) (T : St) (hT : T.val = stepV k s (.slice a n cap) (.map m)) (hc : ∀ u, row14 T u = #[.int .i64 k, .int .u64 (s 0), .int .u64 (s 1), .int .u64 (s 2), .int .u64 (s 3), .slice a n cap, .map m, .int .i64 u.k, .int .u64 (u.s 0), .int .u64 (u.s 1), .int .u64 (u.s 2), .int .u64 (u.s 3), .slice u.a u.n u.cap, .map u.m])
    (h7 : ∀ (w : World) (g : Nat), w.heap[g]? = some (.cells (row7 k s (.slice a n cap) (.map m)) 49 (0, 0)) → At7 w g 0 T) (w : World) (ht : Built B P w T) (hB : B ≤ w.heap.size) (hP : ∀ g, w.heap.size ≤ g → P g) : Calls Try.prog 35 #[stepV k s (.slice a n cap) (.map m)] w (Gives S B P (opt (rel (nx S) S.size T)) w) := by
  have HIS : Hid (∀ o, Calls Try.prog 53 #[.pointer (some ⟨w.heap.size, 0, none⟩)] ((w.alloc (.cells (row7 k s (.slice a n cap) (.map m)) 49)).alloc o) fun e w' => e = .returned (.bool (isOptB T)) ∧ w' = ((w.alloc (.cells (row7 k s (.slice a n cap) (.map m)) 49)).alloc o)) :=
    Lib.hid fun o => isOptional_any _ 0 T _ _ (h7 _ _ (heap_alloc2_old _ _ _)) (ht.below (alloc2_below _ _ _)).lv ht.shp
  have HT := Lib.hid ht
  have HBB := Lib.hid hB
  have HPP := Lib.hid hP
  have HV := Lib.hid hT
  have HRC := Lib.hid hc
  clear h7 ht hB hT hc hP
  cases hx : isOptB T
  · rw [hx] at HIS
    clear hx
    have HKW : Hid (∀ w1, Below ((w.alloc (.cells (row7 k s (.slice a n cap) (.map m)) 49)).alloc (.cells (row7 0 z0 (.slice none 0 0) (.map none)) 49)).heap.size ((w.alloc (.cells (row7 k s (.slice a n cap) (.map m)) 49)).alloc (.cells (row7 0 z0 (.slice none 0 0) (.map none)) 49)).drew w1 → w1.heap[w.heap.size]? = some (.cells (row7 k s (.slice a n cap) (.map m)) 49 (0, 0)) ∧ w1.heap[w.heap.size + 1]? = some (.cells (row7 0 z0 (.slice none 0 0) (.map none)) 49 (0, 0)) ∧ Below w.heap.size w w1 ∧ w.heap.size + 2 ≤ w1.heap.size) := Lib.hid fun w1 h => by
      have hs := h.size
      simp at hs
      exact ⟨(h.block _ (by simp <;> omega)).trans (heap_alloc2_old _ _ _), (h.block _ (by simp)).trans (heap_alloc2_new _ _ _), (alloc2_below w _ _).trans (Below.mono (B := _) ⟨h.os, h.tape, h.output, h.size, h.block⟩ (by simp <;> omega)), by omega⟩
    go_enter Try.func35, Try.ntmps35
    go_wp2_with fail
    refine (HIS.out _).mono ?_
    rintro e w1 ⟨rfl, rfl⟩
    go_wp2_with fail
    go_region_with (first
      | (go_at_call 31; refine (newStep_any 1 none 0 0 _).mono ?_; rintro e w1 ⟨rfl, hb1, hm1, hs1⟩; obtain ⟨k0, k1, k2, k3⟩ := HKW.out w1 hb1; obtain ⟨d0, d1, d2, d3, d4, d5, d6⟩ := cell7 (s := s) k0)
      | (go_at_call 31; refine (newStep_any 4 _ _ _ _).mono ?_; rintro e w3 ⟨rfl, hb3, hm3, hs3⟩; have j1 := (hb3.block (w.heap.size + 1) (by simp; omega)).trans ((Below.heap_alloc _ _ _ (by omega)).trans k1); obtain ⟨f0, f1, f2, f3, f4, f5, f6⟩ := frozen7 (s := z0) j1; obtain ⟨e0, e1, e2, e3, e4, e5, e6⟩ := cell7 (s := z0) j1))
    all_goals
      go_wp2_with fail
      refine bodyPost_ret (v := stepV 4 z0 (.slice (some ⟨w1.heap.size, 0, none⟩) 2 2) (.map (some (w1.heap.size + 1 + 1)))) (ret7 (s := z0) Try.results35 rfl (stored7 _ z0 _ _ j1)) rfl ?_
      exact opt_end (b1 := w.heap.size + 1 + 1 + 1) HT.out HBB.out HPP.out k2 k3 (HRC.out _).symm (by omega) (by simpa using hm1) hb3 (by omega) (by simpa using hm3)
  · rw [hx] at HIS
    have HF := Lib.hid (fun o o' => opt_same (S := S) (o := o) (o' := o') HT.out hx)
    rw [HV.out] at HF
    clear hx
    go_enter Try.func35, Try.ntmps35
    go_wp2_with fail
    refine (HIS.out _).mono ?_
    rintro e w1 ⟨rfl, rfl⟩
    go_wp2_with fail
    exact bodyPost_ret (v := stepV k s (.slice a n cap) (.map m)) (ret7 (s := s) Try.results35 rfl (heap_alloc2_new _ _ _)) rfl (HF.out _ _)
theorem optional_any (S : ByteArray) (B : Nat) (P : Nat → Prop) (t : St) (w : World) (ht : Built B P w t) (hB : B ≤ w.heap.size) (hP : ∀ g, w.heap.size ≤ g → P g) : Calls Try.prog 35 #[t.val] w (Gives S B P (opt (rel (nx S) S.size t)) w) :=
  optional_node S B P t.k t.s t.a t.n t.cap t.m t rfl (fun _ => rfl) (fun _ _ h => at7_row h) w ht hB hP
end Go.Proofs.Ytnfchlkdppblfaa
