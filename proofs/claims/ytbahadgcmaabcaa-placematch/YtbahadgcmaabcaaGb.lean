/- The mathematics of the document's answer for layer 5: what is come to, step by step (plain mathematics). -/
import Derived.Test.YtbahadgcmaabcaaEh
import Derived.Laws.CopyOwn
import Derived.Maps.AppendAt
import Derived.OwnWalk
namespace Go.Proofs.Ytbahadgcmaabcaa
open Go.RowKit
theorem chain_to {r : Nat → Nat → Nat → Prop} {L : Nat} : ∀ {n : Nat}, (∀ q, q < n → ∀ i j, i ≤ L → r q i j → j ≤ L) → ∀ i j, i ≤ L → chain r n i j → j ≤ L
  | 0, _, i, j, h, e => by cases e; exact h
  | n + 1, h, i, j, hi, ⟨x, h1, h2⟩ => h n (by omega) x j (chain_to (n := n) (fun q hq => h q (by omega)) i x hi h1) h2
theorem pw_to {r : Nat → Nat → Prop} {L : Nat} (h : ∀ i j, i ≤ L → r i j → j ≤ L) : ∀ q i j, i ≤ L → pw r q i j → j ≤ L
  | 0, i, j, hi, e => by cases e; exact hi
  | q + 1, i, j, hi, ⟨x, h1, h2⟩ => h x j (pw_to h q i x hi h1) h2
theorem mt_to (c : Nat → Int) (L : Nat) : ∀ (t : Tr) (i j : Nat), i ≤ L → mt c L t i j → j ≤ L
  | .node k s lo hi a n cap kid, i, j, hi', h => by
    have IH := fun q => mt_to c L (kid q)
    unfold mt at h
    split at h
    · cases h; exact hi'
    · split at h
      · have := h.1; have := h.2.2; omega
      · split at h
        · exact chain_to (fun q _ => IH q) i j hi' h
        · split at h
          · obtain ⟨q, _, h⟩ := h; exact IH q i j hi' h
          · obtain ⟨q, _, _, h⟩ := h; exact pw_to (IH 0) q i j hi' h
  | .nul, _, _, _, h => h.elim
theorem im_pw_zero (r : Nat → Nat → Prop) (F : Nat → Prop) : im (pw r 0) F = F := ext1 fun j => ⟨fun ⟨i, hi, e⟩ => by cases e; exact hi, fun h => ⟨j, h, rfl⟩⟩
theorem im_pw_succ (r : Nat → Nat → Prop) (q : Nat) (F : Nat → Prop) : im (pw r (q + 1)) F = im r (im (pw r q) F) := (im_im _ _ _).symm
/-- From lo times to m times more. -/
def upT (r : Nat → Nat → Prop) (lo m : Nat) (F : Nat → Prop) (j : Nat) : Prop := ∃ q, lo ≤ q ∧ q ≤ lo + m ∧ im (pw r q) F j
theorem upT_zero (r : Nat → Nat → Prop) (lo : Nat) (F : Nat → Prop) : upT r lo 0 F = im (pw r lo) F := ext1 fun j => by
  constructor
  · rintro ⟨q, h1, h2, h⟩
    obtain rfl : q = lo := by omega
    exact h
  · exact fun h => ⟨lo, by omega, by omega, h⟩
theorem upT_succ (r : Nat → Nat → Prop) (lo m : Nat) (F : Nat → Prop) : upT r lo (m + 1) F = un (upT r lo m F) (im (pw r (lo + m + 1)) F) := ext1 fun j => by
  constructor
  · rintro ⟨q, h1, h2, h⟩
    by_cases hq : q = lo + m + 1
    · subst hq; exact Or.inr h
    · exact Or.inl ⟨q, h1, by omega, h⟩
  · rintro (⟨q, h1, h2, h⟩ | h)
    · exact ⟨q, h1, by omega, h⟩
    · exact ⟨_, by omega, by omega, h⟩
theorem upT_stop {r : Nat → Nat → Prop} {lo m : Nat} {F : Nat → Prop} (h : ∀ j, im (pw r (lo + m + 1)) F j → upT r lo m F j) : ∀ q, lo ≤ q → ∀ j, im (pw r q) F j → upT r lo m F j := by
  intro q hq
  obtain ⟨d, rfl⟩ : ∃ d, q = lo + d := ⟨q - lo, by omega⟩
  clear hq
  induction d with
  | zero => exact fun j hj => ⟨lo, by omega, by omega, hj⟩
  | succ d ih =>
    intro j hj
    rw [show lo + (d + 1) = lo + d + 1 by omega, im_pw_succ] at hj
    obtain ⟨x, hx, hr⟩ := hj
    obtain ⟨q, h1, h2, h3⟩ := ih x hx
    have h4 : im (pw r (q + 1)) F j := by rw [im_pw_succ]; exact ⟨x, h3, hr⟩
    by_cases hq : q + 1 = lo + m + 1
    · rw [hq] at h4; exact h j h4
    · exact ⟨q + 1, by omega, by omega, h4⟩
theorem im_tms (r : Nat → Nat → Prop) (lo hi : Int) (F : Nat → Prop) (j : Nat) : im (tms r lo hi) F j ↔ ∃ q : Nat, lo ≤ (q : Int) ∧ (hi = -1 ∨ (q : Int) ≤ hi) ∧ im (pw r q) F j := by
  constructor
  · rintro ⟨i, hi', q, h1, h2, h3⟩; exact ⟨q, h1, h2, i, hi', h3⟩
  · rintro ⟨q, h1, h2, i, hi', h3⟩; exact ⟨i, hi', q, h1, h2, h3⟩
/-- Where nothing new is come to, nothing new will be. -/
theorem tms_stop {r : Nat → Nat → Prop} {lo m : Nat} {hi : Int} {F : Nat → Prop} (hh : hi = -1 ∨ ((lo + m : Nat) : Int) ≤ hi) (h : ∀ j, im (pw r (lo + m + 1)) F j → upT r lo m F j) : im (tms r lo hi) F = upT r lo m F := ext1 fun j => by
  rw [im_tms]
  constructor
  · rintro ⟨q, h1, _, h3⟩; exact upT_stop h q (by omega) j h3
  · rintro ⟨q, h1, h2, h3⟩; exact ⟨q, by omega, by omega, h3⟩
theorem tms_full {r : Nat → Nat → Prop} {lo m : Nat} {F : Nat → Prop} : im (tms r lo ((lo + m : Nat) : Int)) F = upT r lo m F := ext1 fun j => by
  rw [im_tms]
  constructor
  · rintro ⟨q, h1, h2, h3⟩; exact ⟨q, by omega, by omega, h3⟩
  · rintro ⟨q, h1, h2, h3⟩; exact ⟨q, by omega, Or.inr (by omega), h3⟩
/-- Of what, twice, is what it is once, once is enough. -/
theorem tms_closed {r : Nat → Nat → Prop} (hr : ∀ i x j, r i x → r x j → r i j) {lo : Nat} {F : Nat → Prop} : im (tms r lo (-1)) F = upT r lo (1 - lo) F := by
  refine tms_stop (Or.inl rfl) fun j hj => ?_
  cases lo with
  | zero =>
    rw [show 0 + (1 - 0) + 1 = 0 + 1 + 1 by omega, im_pw_succ, im_pw_succ] at hj
    obtain ⟨x, ⟨i, hi, h1⟩, h2⟩ := hj
    exact ⟨1, by omega, by omega, by rw [im_pw_succ]; exact ⟨i, hi, hr _ _ _ h1 h2⟩⟩
  | succ lo =>
    rw [show lo + 1 + (1 - (lo + 1)) + 1 = lo + 1 + 1 by omega, im_pw_succ, im_pw_succ] at hj
    obtain ⟨x, ⟨i, hi, h1⟩, h2⟩ := hj
    exact ⟨lo + 1, by omega, by omega, by rw [im_pw_succ]; exact ⟨i, hi, hr _ _ _ h1 h2⟩⟩
theorem tms_trans {r : Nat → Nat → Prop} {lo : Int} (_h1 : lo ≤ 1) : ∀ i x j, tms r lo (-1) i x → tms r lo (-1) x j → tms r lo (-1) i j := by
  rintro i x j ⟨p, hp, _, hpw⟩ ⟨q, hq, _, hqw⟩
  exact ⟨p + q, by omega, Or.inl rfl, (pw_add r p q i j).2 ⟨x, hpw, hqw⟩⟩
/-- How many of the first n are there? -/
def cntB (f : Nat → Bool) : Nat → Nat
  | 0 => 0
  | n + 1 => cntB f n + if f n = true then 1 else 0
theorem cntB_le (f : Nat → Bool) : ∀ n, cntB f n ≤ n
  | 0 => Nat.le_refl _
  | n + 1 => by have := cntB_le f n; unfold cntB; split <;> omega
theorem cntB_mono {f g : Nat → Bool} : ∀ {n : Nat}, (∀ i, i < n → f i = true → g i = true) → cntB f n ≤ cntB g n
  | 0, _ => Nat.le_refl _
  | n + 1, h => by
    have h1 := cntB_mono (n := n) fun i hi => h i (by omega)
    have h2 := h n (by omega)
    unfold cntB
    by_cases q : f n = true
    · rw [if_pos q, if_pos (h2 q)]; omega
    · rw [if_neg q]; split <;> omega
theorem cntB_more {f g : Nat → Bool} : ∀ {n : Nat}, (∀ i, i < n → f i = true → g i = true) → (∃ i, i < n ∧ f i = false ∧ g i = true) → cntB f n + 1 ≤ cntB g n
  | 0, _, ⟨i, hi, _⟩ => by omega
  | n + 1, h, ⟨i, hi, h1, h2⟩ => by
    by_cases e : i = n
    · subst e
      have h3 := cntB_mono (f := f) (g := g) (n := i) fun j hj => h j (by omega)
      unfold cntB
      rw [if_neg (by rw [h1]; decide), if_pos h2]; omega
    · have h3 := cntB_more (f := f) (g := g) (n := n) (fun j hj => h j (by omega)) ⟨i, by omega, h1, h2⟩
      have h4 := h n (by omega)
      unfold cntB
      by_cases q : f n = true
      · rw [if_pos q, if_pos (h4 q)]; omega
      · rw [if_neg q]; split <;> omega
theorem cntB_pos {f : Nat → Bool} : ∀ {n i : Nat}, i < n → f i = true → 1 ≤ cntB f n
  | 0, _, h, _ => by omega
  | n + 1, i, h, hf => by
    by_cases e : i = n
    · subst e; unfold cntB; rw [if_pos hf]; omega
    · have := cntB_pos (n := n) (i := i) (by omega) hf
      unfold cntB; omega
/-- The row f tells the places of P, up to L. -/
def Tells (L : Nat) (f : Nat → Bool) (P : Nat → Prop) : Prop := (∀ i, i ≤ L → (f i = true ↔ P i)) ∧ ∀ i, P i → i ≤ L
theorem Tells.im {c : Nat → Int} {L : Nat} {t : Tr} {P : Nat → Prop} (hP : ∀ i, P i → i ≤ L) : ∀ j, im (mt c L t) P j → j ≤ L := fun j ⟨i, hi, h⟩ => mt_to c L t i j (hP i hi) h
end Go.Proofs.Ytbahadgcmaabcaa
/- Rows of bools; contracts of the document's or, within, closed of layer 5. -/
namespace Go.Proofs.Ytbahadgcmaabcaa
open Go.RowKit Go.Maps Go
/-- A row of bools lies in memory. -/
def BRow (w : World) (g n : Nat) (f : Nat → Bool) : Prop := g < w.heap.size ∧ ∀ i, i < n → w.cell? ⟨g, i, none⟩ = some (.bool (f i))
theorem BRow.below {w w' : World} {g n : Nat} {f : Nat → Bool} (h : BRow w g n f) (hb : Below w.heap.size w w') : BRow w' g n f :=
  ⟨Nat.lt_of_lt_of_le h.1 hb.size, fun i hi => (hb.cell (p := ⟨g, i, none⟩) h.1).trans (h.2 i hi)⟩
/-- What gives back a row of bools. -/
def BRet (w : World) (n : Nat) (f : Nat → Bool) (e : Ending) (w' : World) : Prop := ∃ g cap, e = .returned (.slice (some ⟨g, 0, none⟩) n cap) ∧ n ≤ cap ∧ cap ≤ maxLen ∧ BRow w' g n f ∧ Below w.heap.size w w'
def boolsV (f : Nat → Bool) (n : Nat) : List Value := (List.range n).map fun i => .bool (f i)
theorem boolsV_len (f : Nat → Bool) (n : Nat) : (boolsV f n).length = n := by simp [boolsV]
theorem boolsV_succ (f : Nat → Bool) (n : Nat) : boolsV f (n + 1) = boolsV f n ++ [.bool (f n)] := by simp [boolsV, List.range_succ]
theorem boolsV_get (f : Nat → Bool) {n i : Nat} (h : i < n) : (boolsV f n)[i]? = some (.bool (f i)) := by simp [boolsV, h]
theorem boolsV_one (f : Nat → Bool) (n : Nat) : ∀ u ∈ boolsV f n, u.oneCell' = true := fun u hu => by
  obtain ⟨i, _, rfl⟩ := List.mem_map.1 hu; rfl
/-- A block that holds bools alone. -/
def BBlk (w : World) (g n : Nat) (f : Nat → Bool) : Prop := w.heap[g]? = some (.cells (boolsV f n).toArray 4 (0, 0))
theorem BBlk.row {w : World} {g n : Nat} {f : Nat → Bool} (h : BBlk w g n f) : BRow w g n f :=
  ⟨(Array.getElem?_eq_some_iff.1 h).1, fun i hi => by rw [cell_of_row w g i _ _ _ h]; simpa using boolsV_get f hi⟩
theorem BBlk.froz {w : World} {g n : Nat} {f : Nat → Bool} (h : BBlk w g n f) (i : Nat) : w.frozen? ⟨g, i, none⟩ = false := frozen_of_row _ _ i _ _ h
theorem BBlk.congr {w : World} {g n : Nat} {f f' : Nat → Bool} (h : BBlk w g n f) (he : ∀ i, i < n → f i = f' i) : BBlk w g n f' := by
  have : boolsV f n = boolsV f' n := List.map_congr_left fun i hi => by rw [he i (List.mem_range.1 hi)]
  unfold BBlk; rw [← this]; exact h
theorem BBlk.set {w : World} {g n : Nat} {f : Nat → Bool} (h : BBlk w g n f) (i : Nat) (b : Bool) : BBlk (w.setCell ⟨g, i, none⟩ (.bool b)) g n (fun q => if q = i then b else f q) := by
  have h1 := heap_setCell_same w g i _ _ (.bool b) h
  unfold BBlk
  rw [h1]
  congr 2
  apply Array.ext'
  apply List.ext_getElem?
  intro q
  simp only [boolsV, List.setIfInBounds_toArray, List.getElem?_set, List.length_map, List.length_range]
  by_cases hq : i = q
  · subst hq
    by_cases hi : i < n
    · simp [hi]
    · simp [hi]
  · by_cases hi : q < n
    · simp [hq, hi, Ne.symm hq]
    · simp [hq, hi]
theorem made_bools {z : Value} (hz : z.cells = #[.bool false]) (n : Nat) : (madeCells z.cells (n * 1)).toList = boolsV (fun _ => false) n := by
  rw [hz]
  unfold madeCells boolsV
  apply List.ext_getElem?
  intro i
  by_cases hi : i < n <;> simp [hi, Nat.mod_one]
/-- A row that was made, whole. -/
theorem made_blk {w : World} {base g n : Nat} {z : Value} (hz : z.cells = #[.bool false]) (h : w.ownsRow base 4 1 (.slice (some ⟨g, 0, none⟩) n n) n (madeCells z.cells (n * 1)).toList) : BBlk w g n (fun _ => false) := by
  rw [made_bools hz] at h
  rcases h.2 with ⟨q, _⟩ | ⟨g', cap, cur, hv, _, hg, h1, _, h3, h4⟩
  · cases q
  · simp only [Value.slice.injEq, Option.some.injEq, Addr.mk.injEq] at hv
    obtain ⟨⟨rfl, _, _⟩, _, rfl⟩ := hv
    unfold BBlk
    rw [hg, ← h4]
    congr 2
    apply Array.ext'
    rw [List.take_of_length_le (by rw [Array.length_toList, h3]; exact Nat.le_refl _)]
theorem own_bools {w : World} {base j n : Nat} {v : Value} {f : Nat → Bool} (h : w.ownsRow base 4 1 v j (boolsV f j)) (hj : 0 < j) (hn : j = n) : ∃ g cap, v = .slice (some ⟨g, 0, none⟩) n cap ∧ n ≤ cap ∧ cap ≤ maxLen ∧ BRow w g n f := by
  subst hn
  rcases h.2 with ⟨_, q⟩ | ⟨g, cap, cur, rfl, _, hg, h1, h2, h3, h4⟩
  · omega
  · refine ⟨g, cap, rfl, h1, h2, (Array.getElem?_eq_some_iff.1 hg).1, fun i hi => ?_⟩
    have := h.cells (g := g) rfl i (.bool (f i)) (boolsV_get f hi)
    rw [Addr.add_lit, Nat.zero_add] at this
    exact this
set_option maxRecDepth 100000 in
theorem infoB : (Try.prog.info? 4).map (fun i => (i.zero, i.size, i.bytes)) = some (some (.bool false), 1, 1) := by kernel_rfl
set_option maxRecDepth 100000 in
set_option maxHeartbeats 2000000 in
theorem refor_any (g cap g' cap' n : Nat) (f h : Nat → Bool) (w : World) (hn : 1 ≤ n) (hm : n ≤ 100000) (hf : BRow w g n f) (hh : BRow w g' n h) :
    Calls Try.prog 59 #[.slice (some ⟨g, 0, none⟩) n cap, .slice (some ⟨g', 0, none⟩) n cap'] w (BRet w n fun i => f i || h i) := by
  obtain ⟨i0, hi, hz0, hz1, hz2⟩ := info_parts infoB
  have HF := Lib.hid hf
  have HH := Lib.hid hh
  obtain ⟨u, hu⟩ : ∃ u : Nat → Bool, u = fun i => f i || h i := ⟨_, rfl⟩
  rw [← hu]
  have HU := Lib.hid hu
  clear hf hh hu
  go_enter Try.func59, Try.ntmps59
  go_wp2
  go_loopw [5, 6] (fun v i wr => ∃ (j : Nat) (av : Value), j ≤ n ∧ i = .int .i64 j ∧ av = v ∧ Hid (wr.ownsRow w.heap.size 4 1 v j (boolsV u j)) ∧ Below w.heap.size w wr) (fun _ i _ => n - (RowKit.intOf i).toNat)
  case atStart => exact ⟨0, _, by omega, rfl, rfl, Lib.hid (World.ownsRow_nil _ _ _ _), Below.refl _ _⟩
  case round =>
    obtain ⟨j, av, hj, rfl, rfl, HOWN, hb⟩ := hrel
    by_cases hlt : j < n
    · have hlt' : (j : Int) < (n : Int) := by omega
      have d1 := (hb.cell (p := ⟨g, j, none⟩) HF.out.1).trans (HF.out.2 j hlt)
      have d2 := (hb.cell (p := ⟨g', j, none⟩) HH.out.1).trans (HH.out.2 j hlt)
      have HUJ := Lib.hid (show u j = (f j || h j) by rw [HU.out])
      obtain ⟨bf, hbf⟩ : ∃ b, b = f j := ⟨_, rfl⟩
      obtain ⟨bh, hbh⟩ : ∃ b, b = h j := ⟨_, rfl⟩
      rw [← hbf] at d1 HUJ
      rw [← hbh] at d2 HUJ
      have HB := Lib.hid hb
      have hsz := hb.size
      clear hbf hbh hb
      cases bf
      · have HUK := Lib.hid (show u j = bh by rw [HUJ.out]; rfl)
        go_wp2_with (first
          | (at_builtin; refine wpList_append_own _ rfl _ _ 71 rfl w.heap.size 4 i0 (.bool false) 1 1 Try.underlying71 hi hz0 hz1 hz2 rfl (by decide) _ _ _ rfl (HOWN.out.alloc _) ⟨wr.heap.size, 0, none⟩ 1 1 [.bool bh] rfl rfl (cell_one_new _ _ _) (by simp [Value.oneCell']) (by unfold maxLen; omega) (by omega) (by simp; omega) ?_))
        intro v' w4 hown hgrow _
        have HOWN2 := Lib.hid (show w4.ownsRow w.heap.size 4 1 v' (j + 1) (boolsV u (j + 1)) by rw [boolsV_succ, HUK.out]; exact hown)
        have HB2 : Hid (Below w.heap.size w w4) := Lib.hid ((HB.out.trans ((alloc_below wr _).mono hsz)).grown hgrow (by simp; omega) fun k hk => (HOWN.out.lt k hk).1)
        clear hown hgrow
        go_wp2
        go_roundw
        case rel => exact ⟨j + 1, _, by omega, by go_num, rfl, HOWN2, HB2.out⟩
        case measure => simp [RowKit.intOf]; omega
      · have HUK := Lib.hid (show u j = true by rw [HUJ.out]; rfl)
        go_wp2_with (first
          | (at_builtin; refine wpList_append_own _ rfl _ _ 71 rfl w.heap.size 4 i0 (.bool false) 1 1 Try.underlying71 hi hz0 hz1 hz2 rfl (by decide) _ _ _ rfl (HOWN.out.alloc _) ⟨wr.heap.size, 0, none⟩ 1 1 [.bool true] rfl rfl (cell_one_new _ _ _) (by simp [Value.oneCell']) (by unfold maxLen; omega) (by omega) (by simp; omega) ?_))
        intro v' w4 hown hgrow _
        have HOWN2 := Lib.hid (show w4.ownsRow w.heap.size 4 1 v' (j + 1) (boolsV u (j + 1)) by rw [boolsV_succ, HUK.out]; exact hown)
        have HB2 : Hid (Below w.heap.size w w4) := Lib.hid ((HB.out.trans ((alloc_below wr _).mono hsz)).grown hgrow (by simp; omega) fun k hk => (HOWN.out.lt k hk).1)
        clear hown hgrow
        go_wp2
        go_roundw
        case rel => exact ⟨j + 1, _, by omega, by go_num, rfl, HOWN2, HB2.out⟩
        case measure => simp [RowKit.intOf]; omega
    · have hlt' : ¬ (j : Int) < (n : Int) := by omega
      have HFIN : Hid (BRet w n u (.returned av) wr) := Lib.hid (by
        obtain ⟨gg, cc, e, h1, h2, h3⟩ := own_bools HOWN.out (by omega) (show j = n by omega)
        exact ⟨gg, cc, by rw [e], h1, h2, h3, hb⟩)
      clear hb
      go_wp2
      go_ret
      exact HFIN.out
/-- Are the first n of f all among those of h? -/
def wthB (f h : Nat → Bool) (n : Nat) : Bool := allTo (fun i => !f i || h i) n
theorem wthB_iff {f h : Nat → Bool} {n : Nat} : wthB f h n = true ↔ ∀ i, i < n → f i = true → h i = true := by
  unfold wthB
  rw [allTo_iff]
  refine forall_congr' fun i => forall_congr' fun _ => ?_
  cases f i <;> cases h i <;> simp
set_option maxRecDepth 100000 in
set_option maxHeartbeats 2000000 in
theorem refwithin_any (g cap g' cap' n : Nat) (f h : Nat → Bool) (w : World) (hm : n ≤ 100000) (hf : BRow w g n f) (hh : BRow w g' n h) :
    Calls Try.prog 61 #[.slice (some ⟨g, 0, none⟩) n cap, .slice (some ⟨g', 0, none⟩) n cap'] w fun e w' => e = .returned (.bool (wthB f h n)) ∧ w = w' := by
  have HF := Lib.hid hf
  have HH := Lib.hid hh
  clear hf hh
  obtain ⟨R, hR⟩ : ∃ R, R = wthB f h n := ⟨_, rfl⟩
  rw [← hR]
  have HR := Lib.hid hR
  clear hR
  go_enter Try.func61, Try.ntmps61
  go_wp2
  go_loop [5] (fun i => ∃ j : Nat, j ≤ n ∧ i = .int .i64 j ∧ Hid (wthB f h j = true)) (fun i => n - (RowKit.intOf i).toNat)
  case atStart => exact ⟨0, by omega, rfl, Lib.hid rfl⟩
  case round =>
    obtain ⟨j, hj, rfl, HW⟩ := hrel
    by_cases hlt : j < n
    · have hlt' : (j : Int) < (n : Int) := by omega
      have d1 := HF.out.2 j hlt
      have d2 := HH.out.2 j hlt
      have HS := Lib.hid (show wthB f h (j + 1) = (!f j || h j) by
        show (wthB f h j && (!f j || h j)) = _
        rw [HW.out]; rfl)
      have HN : Hid ((!f j || h j) = false → R = false) := Lib.hid fun q => by rw [HR.out]; exact allTo_not (p := fun i => !f i || h i) hlt q
      obtain ⟨bf, hbf⟩ : ∃ b, b = f j := ⟨_, rfl⟩
      obtain ⟨bh, hbh⟩ : ∃ b, b = h j := ⟨_, rfl⟩
      rw [← hbf] at d1 HS HN
      rw [← hbh] at d2 HS HN
      clear hbf hbh
      cases bf
      · go_wp2
        go_round
        case rel => exact ⟨j + 1, by omega, by go_num, Lib.hid (by rw [HS.out]; rfl)⟩
        case measure => simp [RowKit.intOf]; omega
      · cases bh
        · go_wp2
          go_ret
          exact ⟨ret_bool (HN.out rfl).symm, rfl⟩
        · go_wp2
          go_round
          case rel => exact ⟨j + 1, by omega, by go_num, Lib.hid (by rw [HS.out]; rfl)⟩
          case measure => simp [RowKit.intOf]; omega
    · have hlt' : ¬ (j : Int) < (n : Int) := by omega
      have HFIN := Lib.hid (show R = true by rw [HR.out, show n = j by omega]; exact HW.out)
      go_wp2
      go_ret
      exact ⟨ret_bool HFIN.out.symm, rfl⟩
/-- Is what it matches twice or more what it matches once, too? -/
def closB (t : Tr) : Bool := decide (t.k = 5) && (decide (t.hi < 0) && decide (t.lo ≤ 1))
set_option maxRecDepth 100000 in
set_option maxHeartbeats 1000000 in
theorem refclosed_any (t : Tr) (w : World) : Calls Try.prog 60 #[t.val] w fun e w' => e = .returned (.bool (closB t)) ∧ Below w.heap.size w w' := by
  rw [show t.val = nodeV t.k t.s t.lo t.hi (.slice t.a t.n t.cap) from rfl]
  obtain ⟨R, hR⟩ : ∃ R, R = closB t := ⟨_, rfl⟩
  rw [← hR]
  by_cases h1 : t.k = 5
  · have q1 : (t.k == 5) = true := by simp [h1]
    by_cases h2 : t.hi < 0
    · by_cases h3 : t.lo ≤ 1
      · have HR := Lib.hid (show R = true by rw [hR]; simp [closB, h1, h2, h3])
        clear hR h1
        go_enter Try.func60, Try.ntmps60
        go_wp2
        go_ret
        exact ⟨ret_bool HR.out.symm, (Below.refl _ _).alloc (Nat.le_refl _) _⟩
      · have HR := Lib.hid (show R = false by rw [hR]; simp [closB, h3])
        clear hR h1
        go_enter Try.func60, Try.ntmps60
        go_wp2
        go_ret
        exact ⟨ret_bool HR.out.symm, (Below.refl _ _).alloc (Nat.le_refl _) _⟩
    · have HR := Lib.hid (show R = false by rw [hR]; simp [closB, h2])
      clear hR h1
      go_enter Try.func60, Try.ntmps60
      go_wp2
      go_ret
      exact ⟨ret_bool HR.out.symm, (Below.refl _ _).alloc (Nat.le_refl _) _⟩
  · have q1 : (t.k == 5) = false := by simp [h1]
    have HR := Lib.hid (show R = false by rw [hR]; simp [closB, h1])
    clear hR h1
    go_enter Try.func60, Try.ntmps60
    go_wp2
    go_ret
    exact ⟨ret_bool HR.out.symm, (Below.refl _ _).alloc (Nat.le_refl _) _⟩
end Go.Proofs.Ytbahadgcmaabcaa
