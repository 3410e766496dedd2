/- The document's step of layer 5: Bytes. -/
import Derived.Test.YtbahadgcmaabcaaGc
import Derived.Test.YtbahadgcmaabcaaMs
import Derived.Test.YtbahadgcmaabcaaGh
namespace Go.Proofs.Ytbahadgcmaabcaa
open Go.RowKit Go.Maps Go
theorem grown_set (W : World) (g i : Nat) (v : Value) : W.grownBy (W.setCell ⟨g, i, none⟩ v) (some g) := ⟨rfl, rfl, rfl, by simp, fun k _ hk => Below.heap_setCell _ _ _ _ fun e => hk (by rw [e])⟩
/-- The row of the answer, up to a place. -/
def byB (S : ByteArray) (s : Nat → Int) (f : Nat → Bool) (j q : Nat) : Bool := decide (1 ≤ q ∧ q ≤ j) && (f (q - 1) && hasI s (nx S (q - 1)))
theorem byB_zero (S : ByteArray) (s : Nat → Int) (f : Nat → Bool) (q : Nat) : byB S s f 0 q = false := by
  unfold byB
  rw [decide_eq_false (by omega), Bool.false_and]
theorem byB_succ (S : ByteArray) (s : Nat → Int) (f : Nat → Bool) (j q : Nat) : (if q = j + 1 then (f j && hasI s (nx S j)) else byB S s f j q) = byB S s f (j + 1) q := by
  unfold byB
  by_cases h : q = j + 1
  · subst h
    rw [if_pos rfl, decide_eq_true (by omega), Bool.true_and, Nat.add_sub_cancel]
  · rw [if_neg h]
    by_cases h2 : 1 ≤ q ∧ q ≤ j
    · rw [decide_eq_true h2, decide_eq_true (by omega)]
    · rw [decide_eq_false h2, decide_eq_false (by omega)]
theorem byB_tells {S : ByteArray} {t : Tr} {f : Nat → Bool} {P : Nat → Prop} (hk : t.k = 2) (hT : Tells S.size f P) : Tells S.size (byB S t.s f S.size) (im (mt (nx S) S.size t) P) := by
  rw [mt_k2 hk]
  refine ⟨fun i hi => ?_, ?_⟩
  · unfold byB
    simp only [Bool.and_eq_true, decide_eq_true_eq]
    constructor
    · rintro ⟨⟨h1, h2⟩, h3, h4⟩
      exact ⟨i - 1, (hT.1 _ (by omega)).1 h3, by omega, h4, by omega⟩
    · rintro ⟨q, hq, h1, h2, rfl⟩
      exact ⟨⟨by omega, by omega⟩, (hT.1 _ (by omega)).2 (by simpa using hq), by simpa using h2⟩
  · rintro i ⟨q, hq, h1, h2, rfl⟩
    omega
set_option maxRecDepth 100000 in
theorem keepY {w wr : World} {t : Tr} {n g j : Nat} {fo f : Nat → Bool} (h : SB w t n fo wr) (hf : BRow w g n f) (hj : j < n) : ∀ w', wr.grownBy w' (some (w.heap.size + 1)) → wr.grownBy w' (some (w.heap.size + 1)) ∧ w'.cell? ⟨g, j, none⟩ = some (.bool (f j)) ∧ w'.cell? ⟨w.heap.size, 1, none⟩ = some (.int .u64 (t.s 0)) ∧ w'.cell? ⟨w.heap.size, 2, none⟩ = some (.int .u64 (t.s 1)) ∧ w'.cell? ⟨w.heap.size, 3, none⟩ = some (.int .u64 (t.s 2)) ∧ w'.cell? ⟨w.heap.size, 4, none⟩ = some (.int .u64 (t.s 3)) := fun w' hG => by
  have hg := hf.1
  have hs := h.sz
  have hb : w'.heap[w.heap.size]? = some (.cells (row8 t.k t.s t.lo t.hi (.slice t.a t.n t.cap)) 27 (0, 0)) := (hG.block _ (by omega) (fun e => by have := Option.some.inj e; omega)).trans h.box
  obtain ⟨c0, c1, c2, c3, c4, c5, c6, c7⟩ := cell8 (s := t.s) hb
  have hr := h.bel.cell (p := ⟨g, j, none⟩) hg
  have hgw : w'.heap[g]? = wr.heap[g]? := hG.block g (by omega) (fun e => by have := Option.some.inj e; omega)
  exact ⟨hG, (World.cell?_of_block (a := ⟨g, j, none⟩) hgw).trans (hr.trans (hf.2 j hj)), c1, c2, c3, c4⟩
set_option maxRecDepth 100000 in
set_option maxHeartbeats 4000000 in
theorem step_bytes (S : ByteArray) (t : Tr) (P : Nat → Prop) (g cap : Nat) (f : Nat → Bool) (w : World) (hk : t.k = 2) (hS : S.size ≤ 10000) (_hc : S.size + 1 ≤ cap) (_hcm : cap ≤ maxLen) (hf : BRow w g (S.size + 1) f) (hT : Tells S.size f P) :
    Calls Try.prog 42 #[t.val, .string S, .slice (some ⟨g, 0, none⟩) (S.size + 1 : Nat) cap] w (StpE S t P w) := by
  obtain ⟨i0, hi, hz0, hz1, hz2⟩ := info_parts infoB
  have HFIN : Hid (∀ (W : World) , SB w t (S.size + 1) (byB S t.s f S.size) W → StpE S t P w (.returned (.slice (some ⟨w.heap.size + 1, 0, none⟩) (S.size + 1 : Nat) (S.size + 1))) W) := Lib.hid fun W h => ⟨_, h.ret (by unfold maxLen; omega), byB_tells hk hT⟩
  have HF := Lib.hid hf
  have hq : (t.k == 2) = true := by simp [hk]
  have hq1 : (t.k == 1) = false := by simp [hk]
  obtain ⟨n, hn⟩ : ∃ n, n = S.size + 1 := ⟨_, rfl⟩
  rw [← hn] at HF HFIN _hc ⊢
  have hn1 : 1 ≤ n := by omega
  have hn2 : n ≤ 10001 := by omega
  have hSn : S.size + 1 = n := hn.symm
  rw [show t.val = nodeV t.k t.s t.lo t.hi (.slice t.a t.n t.cap) from rfl]
  clear hk hf hT hn
  unfold maxLen at _hcm
  have HSN := Lib.hid hSn
  clear hSn
  have hgs := HF.out.1
  go_enter Try.func42, Try.ntmps42
  go_wp2_with (first
    | (at_make; refine wpList_make_full _ rfl _ _ 71 rfl (w.heap.size + 1) 4 i0 (.bool false) 1 Try.underlying71 hi hz0 hz1 .i64 .i64 _ _ n rfl rfl rfl rfl (by rw [hz2]; omega) (by unfold maxLen; omega) (by simp) ?_; intro w2 hown hgr; have HSB := Lib.hid (SB.made (z := .bool false) (t := t) rfl (by simpa using hown) hgr); clear hown hgr; have c0 := (cell8 (s := t.s) HSB.out.box).1))
  go_loopw [8] (fun i wr => ∃ j : Nat, j ≤ S.size ∧ i = .int .i64 j ∧ Hid (SB w t n (byB S t.s f j) wr)) (fun i _ => S.size - (RowKit.intOf i).toNat)
  case atStart => exact ⟨0, by omega, rfl, Lib.hid (HSB.out.congr fun q _ => (byB_zero _ _ _ q).symm)⟩
  case round =>
    obtain ⟨j, hj, rfl, HR⟩ := hrel
    by_cases hlt : j < S.size
    · have hlt' : (j : Int) < (S.size : Int) := by omega
      have hjn : j < n := by have := HSN.out; omega
      have hjn' : (j : Int) < (n : Int) := by omega
      have hjn2 : (j : Int) + 1 < (n : Int) := by have := HSN.out; omega
      have hjn3 : j + 1 < n := by have := HSN.out; omega
      have KB := Lib.hid (keepY HR.out HF.out hjn)
      have hsz := HR.out.sz
      have e1 : IntKind.i64.wrap ((j : Int) + 1) = (j : Int) + 1 := IntWalk.i64_in _ (by omega)
      have e2 : (0 : Int) ≤ (j : Int) + 1 := by omega
      have e3 : ((j : Int) + 1).toNat = j + 1 := by omega
      have HSET : Hid (∀ W (b : Bool), wr.grownBy W (some (w.heap.size + 1)) → W.heap[w.heap.size + 1]? = wr.heap[w.heap.size + 1]? → b = (f j && hasI t.s (nx S j)) → SB w t n (byB S t.s f (j + 1)) (W.setCell ⟨w.heap.size + 1, j + 1, none⟩ (.bool b))) := Lib.hid fun W b hG he hb => by
        have h0 : SB w t n (byB S t.s f j) W := ⟨(hG.block _ (by omega) (fun e => by have := Option.some.inj e; omega)).trans HR.out.box, he.trans HR.out.out, HR.out.bel.trans ((Below.refl w.heap.size wr).grown hG HR.out.bel.size fun k hk => by have := Option.some.inj hk; omega)⟩
        exact (h0.set (j + 1) b).congr fun q _ => by rw [hb]; exact byB_succ S t.s f j q
      have dO := (HR.out.out.row).2 (j + 1) hjn3
      have fO := HR.out.out.froz (j + 1)
      obtain ⟨bo, hbo⟩ : ∃ b, b = byB S t.s f j (j + 1) := ⟨_, rfl⟩
      rw [← hbo] at dO
      obtain ⟨bf, hbf⟩ : ∃ b, b = f j := ⟨_, rfl⟩
      rw [← hbf] at KB HSET
      have hne : w.heap.size + 1 ≠ g := by omega
      clear hbo hbf
      cases bf
      · have HS0 : Hid (SB w t n (byB S t.s f (j + 1)) (wr.drew.setCell ⟨w.heap.size + 1, j + 1, none⟩ (.bool false))) := Lib.hid (HSET.out wr.drew false (grownBy_drew _ _) rfl (by simp))
        clear HSET
        have d1 := (KB.out wr (grownBy_refl wr _)).2.1
        go_wp2
        first | (go_region_with (fail)) | fail
        all_goals
          go_wp2
          go_roundw
          case rel => exact ⟨j + 1, by omega, by go_num, HS0⟩
          case measure => simp [RowKit.intOf]; omega
      · have hnx := nx_in hlt
        have HSET' : Hid (∀ W, wr.grownBy W (some (w.heap.size + 1)) → W.heap[w.heap.size + 1]? = wr.heap[w.heap.size + 1]? → SB w t n (byB S t.s f (j + 1)) (W.setCell ⟨w.heap.size + 1, j + 1, none⟩ (.bool (hasI t.s (S[j].toNat : Int))))) := Lib.hid fun W hG he => HSET.out W _ hG he (by rw [hnx]; rfl)
        have HW : Hid (wrap64 (S[j].toNat : Int) = (S[j].toNat : Int)) := Lib.hid (IntWalk.wrap64_in _ (by have := S[j].toNat_lt; omega))
        clear HSET hnx
        go_wp2
        go_region_held3 (fun w' => wr.grownBy w' (some (w.heap.size + 1)) ∧ w'.cell? ⟨g, j, none⟩ = some (.bool true) ∧ w'.cell? ⟨w.heap.size, 1, none⟩ = some (.int .u64 (t.s 0)) ∧ w'.cell? ⟨w.heap.size, 2, none⟩ = some (.int .u64 (t.s 1)) ∧ w'.cell? ⟨w.heap.size, 3, none⟩ = some (.int .u64 (t.s 2)) ∧ w'.cell? ⟨w.heap.size, 4, none⟩ = some (.int .u64 (t.s 3)))
          ((refine KB.out _ ?_; first | assumption | exact grownBy_drew _ _ | exact grownBy_trans (by assumption) (grown_set _ _ _ _)))
          (first | (go_at_call 16; refine (refhas_any t.s _ _).mono ?_; rintro e w5 ⟨rfl, hb5⟩; have hG5 : wr.grownBy w5 (some (w.heap.size + 1)) := grownBy_trans (grownBy_drew _ _) (grown_of_below hb5 _); have hO5 : w5.heap[w.heap.size + 1]? = wr.heap[w.heap.size + 1]? := hb5.block _ (by simpa using hsz); have dO5 := (World.cell?_of_block (a := ⟨w.heap.size + 1, j + 1, none⟩) hO5).trans dO; have fO5 := frozen_of_row _ _ (j + 1) _ _ (hO5.trans HR.out.out)))
        have HS1 := Lib.hid (HSET'.out w5 hG5 hO5)
        clear hG5 hO5 dO5 fO5
        go_wp2
        go_roundw
        case rel => exact ⟨j + 1, by omega, by go_num, (by rw [HW.out]; exact HS1)⟩
        case measure => simp [RowKit.intOf]; omega
    · obtain rfl : S.size = j := by omega
      go_wp2
      go_ret
      exact HFIN.out _ HR.out
end Go.Proofs.Ytbahadgcmaabcaa
/- The document's step of layer 5, for any pattern as in the table; May. -/
namespace Go.Proofs.Ytbahadgcmaabcaa
open Go.RowKit Go.Maps Go
theorem step_any (S : ByteArray) (hS : S.size ≤ 10000) : ∀ (t : Tr) (P : Nat → Prop) (g cap : Nat) (f : Nat → Bool) (w : World), fitT t = true → Lives w w.heap.size t → S.size + 1 ≤ cap → cap ≤ maxLen → BRow w g (S.size + 1) f → Tells S.size f P →
    Calls Try.prog 42 #[t.val, .string S, .slice (some ⟨g, 0, none⟩) (S.size + 1 : Nat) cap] w (StpE S t P w)
  | .node k s lo hi a n cp kid, P, g, cap, f, w, hft, hL, hc, hcm, hf, hT => by
    have HK : KidE S (.node k s lo hi a n cp kid) := fun i hi' w' g' cap' f' P' hL' hc' hcm' hf' hT' => step_any S hS (kid i) P' g' cap' f' w' (fitT_kid hft hi') hL' hc' hcm' hf' hT'
    have hk := fits_cases (fitT_fits hft)
    simp only [Tr.k, Tr.n, Tr.lo, Tr.hi] at hk
    rcases hk with ⟨h, _⟩ | ⟨h, _⟩ | ⟨h | h, _⟩ | ⟨h, _⟩
    · exact step_empty S _ P g cap f w h hS hc hcm hf hT
    · exact step_bytes S _ P g cap f w h hS hc hcm hf hT
    · exact step_cat S _ P g cap f w h hS hL HK hc hcm hf hT
    · exact step_alt S _ P g cap f w h hS hL HK hc hcm hf hT
    · by_cases hz : sz (.node k s lo hi a n cp kid) = 0
      · exact step_rep0 S _ P g cap f w h hft hz hS hL hc hcm hf hT
      · exact step_rep S _ P g cap f w h hft hz hS hL HK hc hcm hf hT
  | .nul, _, _, _, _, _, h, _, _, _, _, _ => by cases h
/-- May it be asked? -/
def mayB (S : ByteArray) (t : Tr) : Bool := rightB t && decide (S.size ≤ 10000)
set_option maxRecDepth 100000 in
set_option maxHeartbeats 1000000 in
theorem refmay_any (S : ByteArray) (t : Tr) (w : World) (hL : Lives w w.heap.size t) : Calls Try.prog 41 #[t.val, .string S] w fun e w' => e = .returned (.bool (mayB S t)) ∧ Below w.heap.size w w' := by
  have HR : Hid (∀ o, Calls Try.prog 29 #[t.val] (w.alloc o) fun e w' => e = .returned (.bool (rightB t)) ∧ Below (w.alloc o).heap.size (w.alloc o) w') := Lib.hid fun o => refRight_any t (w.alloc o) (hL.now (alloc_below _ _))
  rw [show t.val = nodeV t.k t.s t.lo t.hi (.slice t.a t.n t.cap) from rfl] at HR ⊢
  obtain ⟨R, hR⟩ : ∃ R, R = mayB S t := ⟨_, rfl⟩
  rw [← hR]
  have HX := Lib.hid hR
  clear hL hR
  go_enter Try.func41, Try.ntmps41
  go_wp2_with fail
  refine (HR.out _).mono ?_
  obtain ⟨b, hb⟩ : ∃ b, b = rightB t := ⟨_, rfl⟩
  rw [← hb]
  rintro e w1 ⟨rfl, hb1⟩
  have HB1 := Lib.hid (box_below hb1)
  have HE := Lib.hid (show R = (b && decide (S.size ≤ 10000)) by rw [HX.out, hb]; rfl)
  clear hb hb1
  cases b
  · have HF := Lib.hid (show R = false by rw [HE.out]; rfl)
    go_wp2
    go_ret
    exact ⟨ret_bool HF.out.symm, HB1.out⟩
  · by_cases h : S.size ≤ 10000
    · have h' : (S.size : Int) ≤ 10000 := by omega
      have HF := Lib.hid (show R = true by rw [HE.out, decide_eq_true h]; rfl)
      go_wp2
      go_ret
      exact ⟨ret_bool HF.out.symm, HB1.out⟩
    · have h' : decide ((S.size : Int) ≤ 10000) = false := by simp; omega
      have HF := Lib.hid (show R = false by rw [HE.out, decide_eq_false h]; rfl)
      go_wp2
      go_ret
      exact ⟨ret_bool HF.out.symm, HB1.out⟩
end Go.Proofs.Ytbahadgcmaabcaa
