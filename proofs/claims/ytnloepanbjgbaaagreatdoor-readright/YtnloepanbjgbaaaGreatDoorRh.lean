/- The texts of the law's awake, read. -/
import Derived.Test.YtnloepanbjgbaaaGreatDoorRd
import Derived.Deep.RegionHeld3
import Derived.Test.YtnloepanbjgbaaaGreatDoorMg
import Derived.Test.YtnloepanbjgbaaaGreatDoorBc
namespace Go.Proofs.YtnloepanbjgbaaaGreatDoor
open Go.RowKit
def chr (b : Int) : Tr := lfT 2 (byK (ofK b b))
def x1 : Tr := joinP 3 [chr 97, repN 0 (-1) (joinP 4 [chr 98, chr 99])]
def x2 : Tr := repN 1 (-1) (lfT 2 (sE 48 57))
def x5 : Tr := lfT 2 (byK (foldK (byK (ofK 97 97))))
def dfs (g : Nat) : Df := ⟨fun i => if i = 0 then ⟨#[68]⟩ else ⟨#[97, 98]⟩, fun i => if i = 0 then lfT 2 (sE 48 57) else .node 3 z0 0 0 (some ⟨g, 0, none⟩) 2 2 (pair (lfT 2 (sE 97 97)) (lfT 2 (sE 48 57)))⟩
set_option maxRecDepth 100000 in
theorem aw1 (D : Df) : choF (grpD ⟨#[97, 40, 98, 124, 99, 41, 42]⟩ D 0 false 20) ⟨#[97, 40, 98, 124, 99, 41, 42]⟩ D 0 false 0 0 = .ok (x1, 0) 7 := by rfl
set_option maxRecDepth 100000 in
theorem aw3 (D : Df) : readP ⟨#[97, 91]⟩ D 0 false = .er 20 2 := by rfl
set_option maxRecDepth 100000 in
theorem aw5 (D : Df) : choF (grpD ⟨#[97]⟩ D 0 true 20) ⟨#[97]⟩ D 0 true 0 0 = .ok (x5, 0) 1 := by rfl
theorem find_D (g : Nat) : findD (dfs g) ⟨#[68]⟩ 2 0 = some (lfT 2 (sE 48 57)) := by
  simp [findD, dfs]
theorem find_E (g : Nat) : findD (dfs g) ⟨#[69]⟩ 2 0 = none := by
  simp [findD, dfs, ByteArray.toList_eq]
set_option maxRecDepth 100000 in
theorem nm_D : nmAt ⟨#[123, 68, 125, 43]⟩ (0 + 1) = ⟨#[68]⟩ := by decide +kernel
set_option maxRecDepth 100000 in
theorem nm_E : nmAt ⟨#[123, 69, 125]⟩ (0 + 1) = ⟨#[69]⟩ := by decide +kernel
set_option maxRecDepth 100000 in
theorem def_D (g : Nat) : definedP ⟨#[123, 68, 125, 43]⟩ (dfs g) 2 0 0 = .ok (lfT 2 (sE 48 57), 1) 3 := by
  unfold definedP
  rw [nm_D, find_D, if_neg (by decide +kernel), if_pos (by decide +kernel)]
  rfl
set_option maxRecDepth 100000 in
theorem def_E (g : Nat) : definedP ⟨#[123, 69, 125]⟩ (dfs g) 2 0 0 = .er 21 1 := by
  unfold definedP
  rw [nm_E, find_E, if_neg (by decide +kernel), if_pos (by decide +kernel)]
set_option maxRecDepth 100000 in
theorem aw2 (g : Nat) : choF (grpD ⟨#[123, 68, 125, 43]⟩ (dfs g) 2 false 20) ⟨#[123, 68, 125, 43]⟩ (dfs g) 2 false 0 0 = .ok (x2, 1) 4 := by
  have h1 : ∀ G, atomG G ⟨#[123, 68, 125, 43]⟩ (dfs g) 2 false 0 0 = .ok (lfT 2 (sE 48 57), 1) 3 := fun G => by
    rw [← def_D g]; rfl
  have h2 : ∀ G, pieceG (atomG G ⟨#[123, 68, 125, 43]⟩ (dfs g) 2 false) ⟨#[123, 68, 125, 43]⟩ 0 0 = .ok (x2, 1) 4 := fun G => by
    unfold pieceG; rw [h1]; rfl
  have h3 : ∀ G, seqF G ⟨#[123, 68, 125, 43]⟩ (dfs g) 2 false 0 0 = .ok (x2, 1) 4 := fun G => by
    unfold seqF
    show (if _ then _ else _) = _
    rw [if_neg (by decide +kernel), h2]
    rfl
  unfold choF
  show (match seqF _ _ _ _ _ _ _ with | .er e k => _ | .ok T j => _) = _
  rw [h3]
  rfl
set_option maxRecDepth 100000 in
theorem aw4 (g : Nat) : readP ⟨#[123, 69, 125]⟩ (dfs g) 2 false = .er 21 1 := by
  have h1 : ∀ G, atomG G ⟨#[123, 69, 125]⟩ (dfs g) 2 false 0 0 = .er 21 1 := fun G => by
    rw [← def_E g]; rfl
  have h2 : ∀ G, pieceG (atomG G ⟨#[123, 69, 125]⟩ (dfs g) 2 false) ⟨#[123, 69, 125]⟩ 0 0 = .er 21 1 := fun G => by
    unfold pieceG; rw [h1]
  have h3 : ∀ G, seqF G ⟨#[123, 69, 125]⟩ (dfs g) 2 false 0 0 = .er 21 1 := fun G => by
    unfold seqF
    show (if _ then _ else _) = _
    rw [if_neg (by decide +kernel), h2]
  have h4 : ∀ G, choF G ⟨#[123, 69, 125]⟩ (dfs g) 2 false 0 0 = .er 21 1 := fun G => by
    unfold choF
    show (match seqF _ _ _ _ _ _ _ with | .er e k => _ | .ok T j => _) = _
    rw [h3]
  unfold readP
  rw [if_neg (by decide +kernel)]
  unfold wholeP
  rw [h4]
/-- The text of a set, by what is in it. -/
theorem set_by {f : Nat → Int} {K : Int → Bool} {l : List Int} {n : Nat} (h : ∀ b : Int, -1 ≤ b → b < (256 : Nat) → hasI f b = K b) (h1 : flatR K 256 = l) (h2 : cntR K 256 = n) :
    setT f = if (decide (n = 1) && decide (lo l 0 = hi l 0)) = true then byteT (lo l 0) else [91] ++ catTo (runT l) n ++ [93] := by
  have e1 : runsS f = l := (flatR_congr 256 h).1.trans h1
  have e2 : runsN f = n := (flatR_congr 256 h).2.trans h2
  unfold setT oneB
  rw [e1, e2]
theorem agreeK {x y : Int} (hx : 0 ≤ x) : ∀ b : Int, -1 ≤ b → b < (256 : Nat) → hasI (byK (ofK x y)) b = ofK x y b := fun b h0 h1 => by
  by_cases q : 0 ≤ b
  · exact hasI_byK _ q (by omega)
  · rw [hasI_out (by omega)]; simp [ofK]; omega
set_option maxRecDepth 100000 in
theorem t97 : setT (byK (ofK 97 97)) = [97] := (set_by (agreeK (by omega)) (l := [97, 97]) (n := 1) (by decide +kernel) (by decide +kernel)).trans (by decide +kernel)
set_option maxRecDepth 100000 in
theorem t98 : setT (byK (ofK 98 98)) = [98] := (set_by (agreeK (by omega)) (l := [98, 98]) (n := 1) (by decide +kernel) (by decide +kernel)).trans (by decide +kernel)
set_option maxRecDepth 100000 in
theorem t99 : setT (byK (ofK 99 99)) = [99] := (set_by (agreeK (by omega)) (l := [99, 99]) (n := 1) (by decide +kernel) (by decide +kernel)).trans (by decide +kernel)
set_option maxRecDepth 100000 in
theorem t09 : setT (sE 48 57) = [91, 48, 45, 57, 93] := (set_by (agreeE (by omega)) (l := [48, 57]) (n := 1) (by decide +kernel) (by decide +kernel)).trans (by decide +kernel)
set_option maxRecDepth 100000 in
theorem tAa : setT (byK (foldK (byK (ofK 97 97)))) = [91, 65, 97, 93] := (set_by (K := fun b => ofK 97 97 b || ofK 65 65 b) (fun b h0 h1 => by
  by_cases q : 0 ≤ b
  · rw [hasI_byK _ q (by omega), foldK, agreeK (by omega) b h0 h1, agreeK (by omega) _ (by unfold otherC; split <;> (try split) <;> omega) (by unfold otherC; split <;> (try split) <;> omega)]
    have e : ofK 97 97 (otherC b) = ofK 65 65 b := by
      rw [Bool.eq_iff_iff]
      simp only [ofK, Bool.and_eq_true, decide_eq_true_eq]
      by_cases c1 : 97 ≤ b ∧ b ≤ 122
      · have : otherC b = b - 32 := by unfold otherC; rw [if_pos c1]
        omega
      · by_cases c2 : 65 ≤ b ∧ b ≤ 90
        · have : otherC b = b + 32 := by unfold otherC; rw [if_neg c1, if_pos c2]
          omega
        · have : otherC b = b := by unfold otherC; rw [if_neg c1, if_neg c2]
          omega
    rw [e]
  · rw [hasI_out (by omega)]; simp [ofK]; omega) (l := [65, 65, 97, 97]) (n := 2) (by decide +kernel) (by decide +kernel)).trans (by decide +kernel)
theorem setT_same {s s' : Nat → Int} (h : eqS s s' = true) : setT s = setT s' := by
  have : hasI s = hasI s' := funext fun b => hasI_congr h b
  unfold setT oneB runsS runsN
  rw [this]
theorem txt_eq {t : Tr} (h : Ok t) : txt t = if t.k = 1 then [40, 41] else if t.k = 2 then setT t.s else catTo (pieceT t.k t.kid) t.n ++ (if t.k = 5 then countsT t.lo t.hi else []) := by
  cases t with
  | nul => rcases h.cases with q | q | q | q <;> simp [Tr.k] at q
  | node k s lo hi a n cap kid => rw [txt]; rfl
theorem catTo_cong {f g : Nat → List UInt8} : ∀ n, (∀ i, i < n → f i = g i) → catTo f n = catTo g n
  | 0, _ => rfl
  | n + 1, h => by rw [catTo, catTo, catTo_cong n fun i hi => h i (by omega), h n (by omega)]
theorem txt_same : ∀ (N : Nat) {t u : Tr}, cnt t ≤ N → Ok t → Ok u → sameT t u = true → txt t = txt u := by
  intro N
  induction N with
  | zero => intro t u h; have := cnt_pos t; omega
  | succ N ih =>
    intro t u hN ht hu h
    obtain ⟨hk, hs, hl, hh, hn, hkid⟩ := same_like h
    rw [txt_eq ht, txt_eq hu, ← hk, ← hl, ← hh, ← hn, setT_same hs]
    congr 2
    congr 1
    refine catTo_cong _ fun i hi => ?_
    have hsi := hkid i hi
    have := ih (Nat.le_of_lt_succ (Nat.lt_of_lt_of_le (kid_lt hi) hN)) (ht.kid hi) (hu.kid (by omega)) hsi
    unfold pieceT
    rw [this, (same_like hsi).1]
theorem ne_K {x y : Int} (hx : 0 ≤ x) (hxy : x ≤ y) (hy : x < 256) : eqS (byK (ofK x y)) z0 = false := by
  cases h : eqS (byK (ofK x y)) z0
  · rfl
  · have := hasI_congr h x
    rw [hasI_byK _ hx hy, hasI_z0] at this
    simp only [ofK, Bool.and_eq_false_iff, decide_eq_false_iff_not] at this
    omega
theorem ne_F : eqS (byK (foldK (byK (ofK 97 97)))) z0 = false := by
  cases h : eqS (byK (foldK (byK (ofK 97 97)))) z0
  · rfl
  · have := hasI_congr h 97
    rw [hasI_byK _ (by omega) (by omega), hasI_z0, foldK, hasI_byK _ (by omega) (by omega)] at this
    simp [ofK] at this
theorem ok_chr {b : Int} (h0 : 0 ≤ b) (h1 : b < 256) {lv : Nat} (hl : 0 < lv) : okT (chr b) lv = true := ok_leafT (ne_K h0 (Int.le_refl _) h1) hl
theorem ok_rep {lo hi : Int} {t : Tr} {lv : Nat} (hc : countsB lo hi = true) (ht : okT t lv = true) : okT (repN lo hi t) (lv + 1) = true := by
  have hf : fitsB (repN lo hi t) = true := by simp [fitsB, repN, Tr.k, Tr.s, Tr.lo, Tr.hi, Tr.n, hc, plainB, eq_z0]
  unfold repN at hf ⊢
  simp only [okT, hf, Bool.and_eq_true, decide_eq_true_eq]
  exact ⟨by omega, trivial, allTo_iff.2 fun i hi => ht⟩
set_option maxRecDepth 100000 in
theorem ok_x1 : okT x1 20 = true := by
  refine rowT_ok (lv := 19) (Or.inl rfl) (by decide) fun u hu => ?_
  have hu' : u = chr 97 ∨ u = repN 0 (-1) (joinP 4 [chr 98, chr 99]) := by
    have : u ∈ [chr 97, repN 0 (-1) (joinP 4 [chr 98, chr 99])] := hu
    simpa using this
  rcases hu' with rfl | rfl
  · exact ⟨ok_chr (by omega) (by omega) (by omega), by decide⟩
  · refine ⟨ok_rep (lv := 18) (by decide) (rowT_ok (lv := 17) (Or.inr rfl) (by decide) fun u hu => ?_), by decide⟩
    have hu' : u = chr 98 ∨ u = chr 99 := by
      have : u ∈ [chr 98, chr 99] := hu
      simpa using this
    rcases hu' with rfl | rfl <;> exact ⟨ok_chr (by omega) (by omega) (by omega), by decide⟩
set_option maxRecDepth 100000 in
theorem r_x1 : rightB x1 = true := by
  rw [rightB, ok_x1]; decide +kernel
set_option maxRecDepth 100000 in
theorem r_x2 : rightB x2 = true := by
  have h : okT x2 20 = true := ok_rep (lv := 19) (by decide) (ok_leafT (ne_E (by omega) (by omega) (by omega)) (by omega))
  rw [rightB, h]; decide +kernel
set_option maxRecDepth 100000 in
theorem r_x5 : rightB x5 = true := by
  have h : okT x5 20 = true := ok_leafT ne_F (by omega)
  rw [rightB, h]; decide +kernel
set_option maxRecDepth 100000 in
theorem t_x1 : txt x1 = [97, 40, 98, 124, 99, 41, 123, 48, 44, 125] := by
  have h : txt x1 = ([] ++ ([] ++ setT (byK (ofK 97 97)))) ++ ([] ++ (([] ++ ([] ++ ([40] ++ ((([] ++ ([] ++ setT (byK (ofK 98 98)))) ++ ([124] ++ setT (byK (ofK 99 99)))) ++ []) ++ [41]))) ++ countsT 0 (-1))) ++ [] := rfl
  rw [h, t97, t98, t99]; decide +kernel
set_option maxRecDepth 100000 in
theorem t_x2 : txt x2 = [91, 48, 45, 57, 93, 123, 49, 44, 125] := by
  have h : txt x2 = [] ++ ([] ++ setT (sE 48 57)) ++ countsT 1 (-1) := rfl
  rw [h, t09]; decide +kernel
set_option maxRecDepth 100000 in
theorem t_x5 : txt x5 = [91, 65, 97, 93] := by
  rw [x5, lfT, txt, if_neg (by decide), if_pos rfl]; exact tAa
set_option maxRecDepth 100000 in
theorem rd1 (D : Df) : readP ⟨#[97, 40, 98, 124, 99, 41, 42]⟩ D 0 false = .ok (x1, 0) 7 := by
  rw [readP, if_neg (by decide +kernel), wholeP, aw1]
  simp only
  rw [if_pos (by decide +kernel), if_pos r_x1]
set_option maxRecDepth 100000 in
theorem rd2 (g : Nat) : readP ⟨#[123, 68, 125, 43]⟩ (dfs g) 2 false = .ok (x2, 1) 4 := by
  rw [readP, if_neg (by decide +kernel), wholeP, aw2]
  simp only
  rw [if_pos (by decide +kernel), if_pos r_x2]
set_option maxRecDepth 100000 in
theorem rd5 (D : Df) : readP ⟨#[97]⟩ D 0 true = .ok (x5, 0) 1 := by
  rw [readP, if_neg (by decide +kernel), wholeP, aw5]
  simp only
  rw [if_pos (by decide +kernel), if_pos r_x5]
end Go.Proofs.YtnloepanbjgbaaaGreatDoor
/- The law's two definitions. -/
namespace Go.Proofs.YtnloepanbjgbaaaGreatDoor
open Go.RowKit
theorem keepB {w w1 : World} {p : Nat} {k lo hi : Int} {s : Nat → Int} {v : Value} (hp : p < w.heap.size) (h : w.heap[p]? = some (.cells (row8 k s lo hi v) 31 (0, 0))) (hb : Below w.heap.size w w1) :
    Below w.heap.size w w1 ∧ w1.cell? ⟨p, 0, none⟩ = some (.int .i64 k) ∧ w1.cell? ⟨p, 1, none⟩ = some (.int .u64 (s 0)) ∧ w1.cell? ⟨p, 2, none⟩ = some (.int .u64 (s 1)) ∧ w1.cell? ⟨p, 3, none⟩ = some (.int .u64 (s 2)) ∧ w1.cell? ⟨p, 4, none⟩ = some (.int .u64 (s 3)) ∧ w1.cell? ⟨p, 5, none⟩ = some (.int .i64 lo) ∧ w1.cell? ⟨p, 6, none⟩ = some (.int .i64 hi) ∧ w1.cell? ⟨p, 7, none⟩ = some v := by
  obtain ⟨d0, d1, d2, d3, d4, d5, d6, d7⟩ := cell8 ((hb.block p hp).trans h)
  exact ⟨hb, d0, d1, d2, d3, d4, d5, d6, d7⟩
theorem below_al {w w' : World} (h : Below w.heap.size w w') (o : Obj) : Below w.heap.size w (w'.alloc o) := h.alloc h.size o
def DfsI (w : World) (e : Ending) (w' : World) : Prop :=
  ∃ g g2, e = .returned (.slice (some ⟨g, 0, none⟩) 2 2) ∧ Below w.heap.size w w' ∧ ∀ (S : ByteArray) (fold : Bool), DfAt w' w'.heap.size ⟨S, some ⟨g, 0, none⟩, 2, 2, fold⟩ (dfs g2)
abbrev rowDefs (g : Nat) (f : Nat → Int) : Array Value := #[.string ⟨#[68]⟩, .int .i64 2, .int .u64 (f 0), .int .u64 (f 1), .int .u64 (f 2), .int .u64 (f 3), .int .i64 0, .int .i64 0, .slice none 0 0, .string ⟨#[97, 98]⟩, .int .i64 3, .int .u64 0, .int .u64 0, .int .u64 0, .int .u64 0, .int .i64 0, .int .i64 0, .slice (some ⟨g, 0, none⟩) 2 2]
set_option maxRecDepth 100000 in
theorem defs_fin {w w2 wz : World} (hB2 : Below w.heap.size w w2) (hBz : Below w2.heap.size w2 wz) {f h : Nat → Int} (hf : f = sE 48 57) (hh : h = sE 97 97) :
    DfsI w (.returned (.slice (some ⟨wz.heap.size + 1, 0, none⟩) 2 2)) ((wz.alloc (.cells (rowTwo (lfT 2 h) (lfT 2 f)) 31)).alloc (.cells (rowDefs wz.heap.size f) 66)) := by
  have hB := hB2.trans (hBz.mono hB2.size)
  have h1 := heap_alloc_new wz (.cells (rowTwo (lfT 2 h) (lfT 2 f)) 31)
  have h2 := heap_alloc_new (wz.alloc (.cells (rowTwo (lfT 2 h) (lfT 2 f)) 31)) (.cells (rowDefs wz.heap.size f) 66)
  have hz : (wz.alloc (.cells (rowTwo (lfT 2 h) (lfT 2 f)) 31)).heap.size = wz.heap.size + 1 := by simp
  have h1' := (Below.heap_alloc (wz.alloc (.cells (rowTwo (lfT 2 h) (lfT 2 f)) 31)) (.cells (rowDefs wz.heap.size f) 66) wz.heap.size (by rw [hz]; omega)).trans h1
  rw [hz] at h2
  have hz2 : ((wz.alloc (.cells (rowTwo (lfT 2 h) (lfT 2 f)) 31)).alloc (.cells (rowDefs wz.heap.size f) 66)).heap.size = wz.heap.size + 2 := by simp
  have hBB := below_al (below_al hB (.cells (rowTwo (lfT 2 h) (lfT 2 f)) 31)) (.cells (rowDefs wz.heap.size f) 66)
  have wf : Wf f := by rw [hf]; exact wf_acc _
  have wh : Wf h := by rw [hh]; exact wf_acc _
  obtain ⟨W, hW⟩ : ∃ W, W = (wz.alloc (.cells (rowTwo (lfT 2 h) (lfT 2 f)) 31)).alloc (.cells (rowDefs wz.heap.size f) 66) := ⟨_, rfl⟩
  rw [← hW] at h1' h2 hz2 hBB ⊢
  refine ⟨wz.heap.size + 1, wz.heap.size, rfl, hBB, fun S fold => ⟨(by decide : (2 : Nat) ≤ 1000000), fun _ => ⟨wz.heap.size + 1, 0, rfl, by omega, fun i hi => ?_⟩, fun i hi => ?_⟩⟩
  · have hi' : i < 2 := hi
    match i, hi' with
    | 0, _ =>
      refine ⟨cell_of_row W _ 0 _ _ _ h2, ?_⟩
      show At8 W (wz.heap.size + 1) 1 (lfT 2 (sE 48 57))
      rw [← hf]
      exact ⟨cell_of_row W _ 1 _ _ _ h2, cell_of_row W _ 2 _ _ _ h2, cell_of_row W _ 3 _ _ _ h2, cell_of_row W _ 4 _ _ _ h2, cell_of_row W _ 5 _ _ _ h2, cell_of_row W _ 6 _ _ _ h2, cell_of_row W _ 7 _ _ _ h2, cell_of_row W _ 8 _ _ _ h2⟩
    | 1, _ =>
      exact ⟨cell_of_row W _ 9 _ _ _ h2, cell_of_row W _ 10 _ _ _ h2, cell_of_row W _ 11 _ _ _ h2, cell_of_row W _ 12 _ _ _ h2, cell_of_row W _ 13 _ _ _ h2, cell_of_row W _ 14 _ _ _ h2, cell_of_row W _ 15 _ _ _ h2, cell_of_row W _ 16 _ _ _ h2, cell_of_row W _ 17 _ _ _ h2⟩
  · have hi' : i < 2 := hi
    match i, hi' with
    | 0, _ =>
      show Lives W W.heap.size (lfT 2 (sE 48 57)) ∧ Flat (lfT 2 (sE 48 57))
      rw [← hf]
      exact ⟨lives_lf2 wf, Or.inl rfl⟩
    | 1, _ =>
      show Lives W W.heap.size (.node 3 z0 0 0 (some ⟨wz.heap.size, 0, none⟩) 2 2 (pair (lfT 2 (sE 97 97)) (lfT 2 (sE 48 57)))) ∧ _
      rw [← hf, ← hh]
      exact ⟨⟨wf_z0, Nat.le_refl _, by unfold maxLen; omega, fun _ => ⟨wz.heap.size, 0, rfl, by omega, two_at h1'⟩, pair_lives (lives_lf2 wh) (lives_lf2 wf)⟩, Or.inr ⟨rfl, rfl, rfl⟩⟩
set_option maxRecDepth 100000 in
set_option maxHeartbeats 4000000 in
theorem defs_any (w : World) : Calls Tryz.prog 13 #[] w (DfsI w) := by
  obtain ⟨f, hf⟩ : ∃ f, f = sE 48 57 := ⟨_, rfl⟩
  obtain ⟨h, hh⟩ : ∃ h, h = sE 97 97 := ⟨_, rfl⟩
  have HOF := Lib.hid (fun w => (refof_any 48 57 w).mono (fun e w' z => (show e = .returned (SV f) ∧ Below w.heap.size w w' from ⟨by rw [z.1, hf], z.2⟩)))
  have HOH := Lib.hid (fun w => (refof_any 97 97 w).mono (fun e w' z => (show e = .returned (SV h) ∧ Below w.heap.size w w' from ⟨by rw [z.1, hh], z.2⟩)))
  have HE := Lib.hid (And.intro hf hh)
  clear hf hh
  go_enter Tryz.func13, Tryz.ntmps13
  go_wp2_with fail
  refine (HOF.out _).mono ?_
  rintro e w1 ⟨rfl, hb1⟩
  have HB2 := Lib.hid (hb1.trans ((alloc_below w1 (.cells (row8 2 f 0 0 (.slice none 0 0)) 31)).mono hb1.size))
  have HQ2 := Lib.hid (heap_alloc_new w1 (.cells (row8 2 f 0 0 (.slice none 0 0)) 31))
  clear hb1
  go_wp2_with fail
  have hpl : w1.heap.size < (w1.alloc (.cells (row8 2 f 0 0 (.slice none 0 0)) 31)).heap.size := by simp
  obtain ⟨w2, hw2⟩ : ∃ w2, w2 = w1.alloc (.cells (row8 2 f 0 0 (.slice none 0 0)) 31) := ⟨_, rfl⟩
  rw [← hw2] at HB2 HQ2 hpl ⊢
  clear hw2
  generalize w1.heap.size = p at *
  obtain ⟨_, s0, s1, s2, s3, s4, s5, s6, s7⟩ := keepB hpl HQ2.out (Below.refl _ w2)
  go_region_held3 (fun w' => Below w2.heap.size w2 w' ∧ w'.cell? ⟨p, 0, none⟩ = some (.int .i64 2) ∧ w'.cell? ⟨p, 1, none⟩ = some (.int .u64 (f 0)) ∧ w'.cell? ⟨p, 2, none⟩ = some (.int .u64 (f 1)) ∧ w'.cell? ⟨p, 3, none⟩ = some (.int .u64 (f 2)) ∧ w'.cell? ⟨p, 4, none⟩ = some (.int .u64 (f 3)) ∧ w'.cell? ⟨p, 5, none⟩ = some (.int .i64 0) ∧ w'.cell? ⟨p, 6, none⟩ = some (.int .i64 0) ∧ w'.cell? ⟨p, 7, none⟩ = some (.slice none 0 0))
    ((refine keepB hpl HQ2.out ?_; first | assumption | exact (Below.refl _ _).drew | exact below_al (by assumption) _ | exact below_al (below_al (by assumption) _) _ ))
    (first
      | (go_at_call 26; go_split_ands; refine (fromB (w := w2) (HOH.out _) ?_).mono ?_; assumption; rintro e wz ⟨rfl, hBz⟩))
  have HFIN := Lib.hid (defs_fin HB2.out hBz HE.out.1 HE.out.2)
  clear hBz s0 s1 s2 s3 s4 s5 s6 s7 HQ2 HB2 HE
  go_wp2
  go_ret
  exact HFIN.out
end Go.Proofs.YtnloepanbjgbaaaGreatDoor
/- The law's first look (awake). -/
namespace Go.Proofs.YtnloepanbjgbaaaGreatDoor
open Go.RowKit
/-- A pattern in a box of its own. -/
structure Hx (w : World) (b : Nat) (t : Tr) : Prop where
  heap : w.heap[b]? = some (.cells (row8 t.k t.s t.lo t.hi (.slice t.a t.n t.cap)) 31 (0, 0))
  lives : Lives w w.heap.size t
theorem Hx.new {w : World} {t : Tr} (h : Lives w w.heap.size t) : Hx (w.alloc (.cells (row8 t.k t.s t.lo t.hi (.slice t.a t.n t.cap)) 31)) w.heap.size t := ⟨heap_alloc_new _ _, h.now (alloc_below _ _)⟩
theorem Hx.now {w w' : World} {b : Nat} {t : Tr} (h : Hx w b t) (hb : Below w.heap.size w w') : Hx w' b t := ⟨(hb.block b (Array.getElem?_eq_some_iff.1 h.heap).1).trans h.heap, h.lives.now hb⟩
theorem read_nil (S : ByteArray) (fold : Bool) (w : World) (hE : ErrG w) (hs : S.size ≤ maxLen) (D : Df) : Calls Tryz.prog 10 #[.string S, .slice none 0 0, .bool fold] w (PR w S (readP S D 0 fold)) :=
  read_any D ⟨S, none, 0, 0, fold⟩ w hE ⟨(by decide : (0 : Nat) ≤ 1000000), fun h => absurd h (Nat.lt_irrefl 0), fun i hi => absurd hi (Nat.not_lt_zero i)⟩ (fun i hi => absurd hi (Nat.not_lt_zero i)) (fun i hi => absurd hi (Nat.not_lt_zero i)) hs
set_option maxRecDepth 100000 in
theorem dfs_ok (g : Nat) : DfOk (dfs g) 2 := fun i hi => by
  match i, hi with
  | 0, _ => exact ⟨Or.inl rfl, fun h => by have : (2 : Int) = 3 ∨ (2 : Int) = 4 := h; omega⟩
  | 1, _ => exact ⟨Or.inr ⟨rfl, rfl, rfl⟩, fun _ => (by decide : 0 < 2)⟩
set_option maxRecDepth 100000 in
theorem dfs_right (g : Nat) : ∀ i, i < 2 → nameB ((dfs g).nm i) = true ∧ rightB ((dfs g).dt i) = true := fun i hi => by
  have o1 : okT (lfT 2 (sE 48 57)) 19 = true := ok_leafT (ne_E (by omega) (by omega) (by omega)) (by omega)
  have o2 : okT (lfT 2 (sE 97 97)) 19 = true := ok_leafT (ne_E (by omega) (by omega) (by omega)) (by omega)
  match i, hi with
  | 0, _ =>
    refine ⟨(by decide +kernel : nameB ⟨#[68]⟩ = true), ?_⟩
    show rightB (lfT 2 (sE 48 57)) = true
    rw [rightB, okT_mono o1 (show 19 ≤ 20 by omega)]; decide +kernel
  | 1, _ =>
    refine ⟨(by decide +kernel : nameB ⟨#[97, 98]⟩ = true), ?_⟩
    show rightB (.node 3 z0 0 0 (some ⟨g, 0, none⟩) 2 2 (pair (lfT 2 (sE 97 97)) (lfT 2 (sE 48 57)))) = true
    have hs : sameT (.node 3 z0 0 0 (some ⟨g, 0, none⟩) 2 2 (pair (lfT 2 (sE 97 97)) (lfT 2 (sE 48 57)))) (rowT 3 none 0 [lfT 2 (sE 97 97), lfT 2 (sE 48 57)]) = true := by
      refine same_mk rfl (eqS_refl _) rfl rfl rfl fun i hi => ?_
      have hi' : i < 2 := hi
      match i, hi' with
      | 0, _ => exact same_self _
      | 1, _ => exact same_self _
    rw [right_same hs]
    have hok : okT (rowT 3 none 0 [lfT 2 (sE 97 97), lfT 2 (sE 48 57)]) 20 = true := rowT_ok (lv := 19) (Or.inl rfl) (by decide) fun u hu => by
      have hu' : u = lfT 2 (sE 97 97) ∨ u = lfT 2 (sE 48 57) := by simpa using hu
      rcases hu' with rfl | rfl
      · exact ⟨o2, by decide⟩
      · exact ⟨o1, by decide⟩
    rw [rightB, hok]; decide +kernel
theorem read_defs (S : ByteArray) (w : World) (hE : ErrG w) (hs : S.size ≤ maxLen) {g g2 : Nat} (hD : ∀ (S : ByteArray) (fold : Bool), DfAt w w.heap.size ⟨S, some ⟨g, 0, none⟩, 2, 2, fold⟩ (dfs g2)) : Calls Tryz.prog 10 #[.string S, .slice (some ⟨g, 0, none⟩) 2 2, .bool false] w (PR w S (readP S (dfs g2) 2 false)) :=
  read_any (dfs g2) ⟨S, some ⟨g, 0, none⟩, 2, 2, false⟩ w hE (hD S false) (dfs_ok g2) (dfs_right g2) hs
theorem wf_lf {k : Int} {s : Nat → Int} (h : Wf s) : WfT (lfT k s) := ⟨h, fun i hi => absurd hi (Nat.not_lt_zero i)⟩
set_option maxRecDepth 100000 in
theorem wf_x1 : WfT x1 := ⟨wf_z0, fun i hi => by
  have hi' : i < 2 := hi
  match i, hi' with
  | 0, _ => exact wf_lf (wf_byK _)
  | 1, _ => exact ⟨wf_z0, fun j _ => ⟨wf_z0, fun l hl => by
      have hl' : l < 2 := hl
      match l, hl' with
      | 0, _ => exact wf_lf (wf_byK _)
      | 1, _ => exact wf_lf (wf_byK _)⟩⟩⟩
theorem wf_x2 : WfT x2 := ⟨wf_z0, fun _ _ => wf_lf (wf_acc _)⟩
theorem wf_x5 : WfT x5 := wf_lf (wf_byK _)
/-- The text of a pattern that is the same as one whose text is known. -/
theorem text_of {t T : Tr} {l : List UInt8} (hs : sameT t T = true) (hr : rightB T = true) (hw : WfT T) (hl : txt T = l) {w : World} {b : Nat} (h : Hx w b t) : Calls Tryz.prog 15 #[t.val] w fun e w' => e = .returned (.string ⟨l.toArray⟩) ∧ Below w.heap.size w w' := by
  have hrt : rightB t = true := (right_same hs).trans hr
  have ho := right_ok hrt
  have hc : cnt t ≤ 2000 := by
    have := hrt; unfold rightB at this; simp only [Bool.and_eq_true, decide_eq_true_eq] at this; omega
  have e : txt t = l := (txt_same _ (Nat.le_refl _) (ok_of ho h.lives.wfT) (ok_of (right_ok hr) hw) hs).trans hl
  refine (text_any t (fit_of_ok ho) hc w h.lives).mono fun e' w' q => ?_
  rw [← e]; exact q
set_option maxRecDepth 100000 in
set_option maxHeartbeats 4000000 in
theorem awake_any (w : World) (hE : ErrG w) : Calls Tryz.prog 6 #[] w fun e w' => e = .returned (.bool true) ∧ Below w.heap.size w w' := by
  have HE := Lib.hid (fun w1 (hb : Below w.heap.size w w1) => hE.below hb)
  clear hE
  go_enter Tryz.func6, Tryz.ntmps6
  go_wp2_with fail
  refine (read_nil ⟨#[97, 40, 98, 124, 99, 41, 42]⟩ false _ (HE.out _ (Below.refl _ _)) (by decide +kernel) (dfs 0)).mono ?_
  intro e w1 h1
  rw [rd1] at h1
  obtain ⟨hb1, ta, rfl, hs1, hL1⟩ := h1
  have B1 := Lib.hid (hb1)
  have ha2 := alloc_below w1 (.cells (row8 ta.k ta.s ta.lo ta.hi (.slice ta.a ta.n ta.cap)) 31)
  have Sa := Lib.hid hs1
  have Xa2 := Lib.hid (Hx.new hL1)
  have B2 := Lib.hid (B1.out.trans (ha2.mono B1.out.size))
  clear hb1 ha2 hs1 hL1  B1
  unfold Tr.val
  go_wp2_with fail
  obtain ⟨w2, e2⟩ : ∃ w2, w2 = w1.alloc (.cells (row8 ta.k ta.s ta.lo ta.hi (.slice ta.a ta.n ta.cap)) 31) := ⟨_, rfl⟩
  rw [← e2] at Xa2 B2 ⊢
  clear e2
  generalize w1.heap.size = q2 at *
  refine (defs_any _).mono ?_
  rintro e w3 ⟨g3, m3, rfl, hb3, hD3⟩
  have Xa3 := Lib.hid (Xa2.out.now hb3)
  have B3 := Lib.hid (B2.out.trans (hb3.mono B2.out.size))
  have D3 := Lib.hid hD3
  clear hb3 hD3 Xa2 B2
  go_wp2_with fail
  refine (read_defs ⟨#[123, 68, 125, 43]⟩ _ (HE.out _ B3.out) (by decide +kernel) D3.out).mono ?_
  intro e w4 h4
  rw [rd2] at h4
  obtain ⟨hb4, tb, rfl, hs4, hL4⟩ := h4
  have Xa4 := Lib.hid (Xa3.out.now hb4)
  have B4 := Lib.hid (B3.out.trans (hb4.mono B3.out.size))
  have ha5 := alloc_below w4 (.cells (row8 tb.k tb.s tb.lo tb.hi (.slice tb.a tb.n tb.cap)) 31)
  have Sb := Lib.hid hs4
  have Xb5 := Lib.hid (Hx.new hL4)
  have Xa5 := Lib.hid (Xa4.out.now ha5)
  have B5 := Lib.hid (B4.out.trans (ha5.mono B4.out.size))
  clear hb4 ha5 hs4 hL4 Xa3 B3 Xa4 B4 D3
  unfold Tr.val
  go_wp2_with fail
  obtain ⟨w5, e5⟩ : ∃ w5, w5 = w4.alloc (.cells (row8 tb.k tb.s tb.lo tb.hi (.slice tb.a tb.n tb.cap)) 31) := ⟨_, rfl⟩
  rw [← e5] at Xa5 Xb5 B5 ⊢
  clear e5
  generalize w4.heap.size = q5 at *
  refine (read_nil ⟨#[97, 91]⟩ false _ (HE.out _ B5.out) (by decide +kernel) (dfs 0)).mono ?_
  intro e w6 h6
  rw [aw3] at h6
  obtain ⟨hb6, rfl, _⟩ := h6
  have Xa6 := Lib.hid (Xa5.out.now hb6)
  have Xb6 := Lib.hid (Xb5.out.now hb6)
  have B6 := Lib.hid (B5.out.trans (hb6.mono B5.out.size))
  have ha7 := alloc_below w6 (.cells (row8 0 z0 0 0 (.slice none 0 0)) 31)
  have Xa7 := Lib.hid (Xa6.out.now ha7)
  have Xb7 := Lib.hid (Xb6.out.now ha7)
  have B7 := Lib.hid (B6.out.trans (ha7.mono B6.out.size))
  clear hb6 ha7 Xa5 Xb5 B5 Xa6 Xb6 B6
  go_wp2_with fail
  obtain ⟨w7, e7⟩ : ∃ w7, w7 = w6.alloc (.cells (row8 0 z0 0 0 (.slice none 0 0)) 31) := ⟨_, rfl⟩
  rw [← e7] at Xa7 Xb7 B7 ⊢
  clear e7
  generalize w6.heap.size = q7 at *
  refine (defs_any _).mono ?_
  rintro e w8 ⟨g8, m8, rfl, hb8, hD8⟩
  have Xa8 := Lib.hid (Xa7.out.now hb8)
  have Xb8 := Lib.hid (Xb7.out.now hb8)
  have B8 := Lib.hid (B7.out.trans (hb8.mono B7.out.size))
  have D8 := Lib.hid hD8
  clear hb8 hD8 Xa7 Xb7 B7
  go_wp2_with fail
  refine (read_defs ⟨#[123, 69, 125]⟩ _ (HE.out _ B8.out) (by decide +kernel) D8.out).mono ?_
  intro e w9 h9
  rw [aw4] at h9
  obtain ⟨hb9, rfl, _⟩ := h9
  have Xa9 := Lib.hid (Xa8.out.now hb9)
  have Xb9 := Lib.hid (Xb8.out.now hb9)
  have B9 := Lib.hid (B8.out.trans (hb9.mono B8.out.size))
  have ha10 := alloc_below w9 (.cells (row8 0 z0 0 0 (.slice none 0 0)) 31)
  have Xa10 := Lib.hid (Xa9.out.now ha10)
  have Xb10 := Lib.hid (Xb9.out.now ha10)
  have B10 := Lib.hid (B9.out.trans (ha10.mono B9.out.size))
  clear hb9 ha10 Xa8 Xb8 B8 Xa9 Xb9 B9 D8
  go_wp2_with fail
  obtain ⟨w10, e10⟩ : ∃ w10, w10 = w9.alloc (.cells (row8 0 z0 0 0 (.slice none 0 0)) 31) := ⟨_, rfl⟩
  rw [← e10] at Xa10 Xb10 B10 ⊢
  clear e10
  generalize w9.heap.size = q10 at *
  refine (read_nil ⟨#[97]⟩ true _ (HE.out _ B10.out) (by decide +kernel) (dfs 0)).mono ?_
  intro e w11 h11
  rw [rd5] at h11
  obtain ⟨hb11, tc, rfl, hs11, hL11⟩ := h11
  have Xa11 := Lib.hid (Xa10.out.now hb11)
  have Xb11 := Lib.hid (Xb10.out.now hb11)
  have B11 := Lib.hid (B10.out.trans (hb11.mono B10.out.size))
  have ha12 := alloc_below w11 (.cells (row8 tc.k tc.s tc.lo tc.hi (.slice tc.a tc.n tc.cap)) 31)
  have Sc := Lib.hid hs11
  have Xc12 := Lib.hid (Hx.new hL11)
  have Xa12 := Lib.hid (Xa11.out.now ha12)
  have Xb12 := Lib.hid (Xb11.out.now ha12)
  have B12 := Lib.hid (B11.out.trans (ha12.mono B11.out.size))
  clear hb11 ha12 hs11 hL11 Xa10 Xb10 B10 Xa11 Xb11 B11
  unfold Tr.val
  obtain ⟨c0, c1, c2, c3, c4, c5, c6, c7⟩ := cell8 Xa12.out.heap
  go_wp2_with fail
  obtain ⟨w12, e12⟩ : ∃ w12, w12 = w11.alloc (.cells (row8 tc.k tc.s tc.lo tc.hi (.slice tc.a tc.n tc.cap)) 31) := ⟨_, rfl⟩
  rw [← e12] at Xa12 Xb12 Xc12 B12 ⊢
  clear e12
  generalize w11.heap.size = q12 at *
  clear c0 c1 c2 c3 c4 c5 c6 c7
  refine (text_of Sa.out r_x1 wf_x1 t_x1 Xa12.out).mono ?_
  rintro e w13 ⟨rfl, hb13⟩
  have Xa13 := Lib.hid (Xa12.out.now hb13)
  have Xb13 := Lib.hid (Xb12.out.now hb13)
  have Xc13 := Lib.hid (Xc12.out.now hb13)
  have B13 := Lib.hid (B12.out.trans (hb13.mono B12.out.size))
  clear hb13 Xa12 Xb12 Xc12 B12
  obtain ⟨c0, c1, c2, c3, c4, c5, c6, c7⟩ := cell8 Xb13.out.heap
  go_wp2_with fail
  clear c0 c1 c2 c3 c4 c5 c6 c7
  refine (text_of Sb.out r_x2 wf_x2 t_x2 Xb13.out).mono ?_
  rintro e w14 ⟨rfl, hb14⟩
  have Xa14 := Lib.hid (Xa13.out.now hb14)
  have Xb14 := Lib.hid (Xb13.out.now hb14)
  have Xc14 := Lib.hid (Xc13.out.now hb14)
  have B14 := Lib.hid (B13.out.trans (hb14.mono B13.out.size))
  clear hb14 Xa13 Xb13 Xc13 B13
  obtain ⟨c0, c1, c2, c3, c4, c5, c6, c7⟩ := cell8 Xc14.out.heap
  go_wp2_with fail
  clear c0 c1 c2 c3 c4 c5 c6 c7
  refine (text_of Sc.out r_x5 wf_x5 t_x5 Xc14.out).mono ?_
  rintro e w15 ⟨rfl, hb15⟩
  have Xa15 := Lib.hid (Xa14.out.now hb15)
  have Xb15 := Lib.hid (Xb14.out.now hb15)
  have Xc15 := Lib.hid (Xc14.out.now hb15)
  have B15 := Lib.hid (B14.out.trans (hb15.mono B14.out.size))
  clear hb15 Xa14 Xb14 Xc14 B14
  go_wp2_with fail
  refine (name_any ⟨#[68, 95, 49]⟩ _ (by decide +kernel)).mono ?_
  rintro e w20 ⟨rfl, rfl⟩
  rw [show nameB ⟨#[68, 95, 49]⟩ = true by decide +kernel]
  go_wp2_with fail
  refine (name_any ⟨#[49, 68]⟩ _ (by decide +kernel)).mono ?_
  rintro e w21 ⟨rfl, rfl⟩
  rw [show nameB ⟨#[49, 68]⟩ = false by decide +kernel]
  go_wp2
  go_ret
  exact ⟨rfl, B15.out⟩
end Go.Proofs.YtnloepanbjgbaaaGreatDoor
/- The law ReadBack: the walk. -/
namespace Go.Proofs.YtnloepanbjgbaaaGreatDoor
open Go.RowKit
theorem eqS_tr {a b c : Nat → Int} (h : eqS a b = true) (h' : eqS b c = true) : eqS a c = true := by
  simp only [eqS, Bool.and_eq_true, beq_iff_eq] at h h' ⊢
  exact ⟨h.1.trans h'.1, h.2.1.trans h'.2.1, h.2.2.1.trans h'.2.2.1, h.2.2.2.trans h'.2.2.2⟩
theorem same_tr : ∀ (t : Tr) {u v : Tr}, sameT t u = true → sameT u v = true → sameT t v = true
  | .node k s lo hi a n cap kid, u, v, h, h' => by
    obtain ⟨a1, a2, a3, a4, a5, a6⟩ := same_like h
    obtain ⟨b1, b2, b3, b4, b5, b6⟩ := same_like h'
    exact same_mk (a1.trans b1) (eqS_tr a2 b2) (a3.trans b3) (a4.trans b4) (a5.trans b5) fun i hi => same_tr (kid i) (a6 i hi) (b6 i (by rw [← a5]; exact hi))
  | .nul, u, v, h, h' => by
    obtain ⟨a1, a2, a3, a4, a5, a6⟩ := same_like h
    obtain ⟨b1, b2, b3, b4, b5, b6⟩ := same_like h'
    exact same_mk (a1.trans b1) (eqS_tr a2 b2) (a3.trans b3) (a4.trans b4) (a5.trans b5) fun i hi => absurd hi (Nat.not_lt_zero i)
theorem printV_right {t : Tr} (h : rightB t = true) : printV t = .tuple #[.string ⟨(txt t).toArray⟩, .int .i64 0] := by unfold printV; rw [if_pos h]
/-- A right pattern's text, read. -/
theorem read_back {t : Tr} (hr : rightB t = true) (hl : (txt t).length ≤ 10000) {w : World} (hE : ErrG w) (hw : WfT t) :
    Calls Tryz.prog 10 #[.string ⟨(txt t).toArray⟩, .slice none 0 0, .bool false] w fun e w' => ∃ y : Tr, e = .returned (.tuple #[y.val, .int .i64 0, .int .i64 0]) ∧ sameT t y = true ∧ Lives w' w'.heap.size y ∧ Below w.heap.size w w' := by
  obtain ⟨T, hT, hs⟩ := back_read hr hw hl (dfs 0) 0
  have hsz : (ByteArray.mk (txt t).toArray).size = (txt t).length := by simp [ByteArray.size]
  refine (read_nil ⟨(txt t).toArray⟩ false w hE (by rw [hsz]; unfold maxLen; omega) (dfs 0)).mono fun e w' h => ?_
  rw [hT] at h
  obtain ⟨hb, y, he, hy, hL⟩ := h
  exact ⟨y, he, same_symm (same_tr _ hy hs), hL, hb⟩
set_option maxRecDepth 100000 in
set_option maxHeartbeats 4000000 in
theorem back_walk (w : World) (hE : ErrG w) (a : Option Addr) (n cap : Nat) (F : Nat → Int) (h : ByteRow w a n F) (hF : ∀ i, 0 ≤ F i ∧ F i < 256) (hn : n ≤ cap) (hc : cap ≤ maxLen) :
    Calls Tryz.prog 4 #[.slice a n cap] w fun e w' => e = .returned (.bool true) ∧ Below w.heap.size w w' := by
  have HE := Lib.hid (fun w1 (hb : Below w.heap.size w w1) => hE.below hb)
  have HM := Lib.hid (fun w1 (hb : Below w.heap.size w w1) => made_any w1 a n cap F (h.below hb) hF hn hc)
  have HA := Lib.hid (awake_any w hE)
  clear hE h hF hn hc
  go_enter Tryz.func4, Tryz.ntmps4
  go_wp2_with fail
  refine HA.out.mono ?_
  rintro e w1 ⟨rfl, hb1⟩
  have B1 := Lib.hid hb1
  clear hb1 HA
  go_wp2_with fail
  refine (HM.out w1 B1.out).mono ?_
  rintro e w2 ⟨t, rfl, ot, st, ct, lt, hb2⟩
  have RT := Lib.hid (made_right ot st ct.1)
  have LN := Lib.hid (show (txt t).length ≤ 10000 by have := txt_few t ct.2; have := ct.1; omega)
  have B2 := Lib.hid (B1.out.trans (hb2.mono B1.out.size))
  have ha3 := alloc_below w2 (.cells (row8 t.k t.s t.lo t.hi (.slice t.a t.n t.cap)) 31)
  have X3 := Lib.hid (Hx.new lt)
  have B3 := Lib.hid (B2.out.trans (ha3.mono B2.out.size))
  obtain ⟨c0, c1, c2, c3, c4, c5, c6, c7⟩ := cell8 X3.out.heap
  clear ot st ct lt hb2 ha3 B1 B2
  go_wp2_with fail
  clear c0 c1 c2 c3 c4 c5 c6 c7
  obtain ⟨w3, e3⟩ : ∃ w3, w3 = w2.alloc (.cells (row8 t.k t.s t.lo t.hi (.slice t.a t.n t.cap)) 31) := ⟨_, rfl⟩
  rw [← e3] at X3 B3 ⊢
  clear e3
  generalize w2.heap.size = q3 at *
  refine (print_any t w3 X3.out.lives).mono ?_
  rintro e w4 ⟨rfl, hb4⟩
  rw [printV_right RT.out]
  have X4 := Lib.hid (X3.out.now hb4)
  have B4 := Lib.hid (B3.out.trans (hb4.mono B3.out.size))
  clear hb4 X3 B3
  go_wp2_with fail
  refine (read_back RT.out LN.out (HE.out _ B4.out) X4.out.lives.wfT).mono ?_
  rintro e w5 ⟨y, rfl, hs5, lt5, hb5⟩
  have S5 := Lib.hid hs5
  have X5 := Lib.hid (X4.out.now hb5)
  have B5 := Lib.hid (B4.out.trans (hb5.mono B4.out.size))
  have ha6 := alloc_below w5 (.cells (row8 y.k y.s y.lo y.hi (.slice y.a y.n y.cap)) 31)
  have Y6 := Lib.hid (Hx.new lt5)
  have X6 := Lib.hid (X5.out.now ha6)
  have B6 := Lib.hid (B5.out.trans (ha6.mono B5.out.size))
  obtain ⟨c0, c1, c2, c3, c4, c5, c6, c7⟩ := cell8 X6.out.heap
  obtain ⟨d0, d1, d2, d3, d4, d5, d6, d7⟩ := cell8 Y6.out.heap
  clear hs5 lt5 hb5 ha6 X4 B4 X5 B5
  unfold Tr.val
  go_wp2_with fail
  refine (refsame_any t y _ X6.out.lives Y6.out.lives).mono ?_
  rintro e w7 ⟨rfl, hb7⟩
  rw [S5.out]
  have B7 := Lib.hid (B6.out.trans (hb7.mono B6.out.size))
  clear hb7 X6 Y6 B6 c0 c1 c2 c3 c4 c5 c6 c7 d0 d1 d2 d3 d4 d5 d6 d7
  go_wp2
  go_ret
  exact ⟨rfl, B7.out⟩
end Go.Proofs.YtnloepanbjgbaaaGreatDoor
