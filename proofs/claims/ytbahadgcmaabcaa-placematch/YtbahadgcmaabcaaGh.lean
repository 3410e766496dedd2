/- The document's step of layer 5: Rep. -/
import Derived.Test.YtbahadgcmaabcaaGf
import Derived.Deep.CutBlock
namespace Go.Proofs.Ytbahadgcmaabcaa
open Go.RowKit Go.Maps Go
theorem mt_k5 {c : Nat → Int} {L : Nat} {t : Tr} (hk : t.k = 5) : mt c L t = tms (mt c L (t.kid 0)) t.lo t.hi := by
  cases t with
  | node k s lo hi a n cap kid => obtain rfl : k = 5 := hk; exact ext2 fun i j => by simp [mt, Tr.kid, Tr.lo, Tr.hi]
  | nul => simp [Tr.k] at hk
/-- How often at most it is done again. -/
def MostP (kid : Tr) (lo : Nat) (hi : Int) (n : Nat) (M : Int) : Prop := (0 ≤ hi ∧ M = hi - lo) ∨ (hi = -1 ∧ closB kid = true ∧ M = max 0 (1 - (lo : Int))) ∨ (hi = -1 ∧ M = n)
theorem closB_trans {S : ByteArray} {kid : Tr} (hf : fitT kid = true) (h : closB kid = true) : ∀ i x j, mt (nx S) S.size kid i x → mt (nx S) S.size kid x j → mt (nx S) S.size kid i j := by
  unfold closB at h
  simp only [Bool.and_eq_true, decide_eq_true_eq] at h
  obtain ⟨h1, h2, h3⟩ := h
  have hh : kid.hi = -1 := by
    have := fits_cases (fitT_fits hf)
    omega
  rw [mt_k5 h1, hh]
  exact tms_trans h3
/-- At the end. -/
theorem rr_end {S : ByteArray} {kid : Tr} {lo i : Nat} {hi M : Int} {P : Nat → Prop} {fo : Nat → Bool} (hf : fitT kid = true) (hM : MostP kid lo hi (S.size + 1) M) (hi' : (i : Int) = M) (hc : i = 0 ∨ i + 1 ≤ cntB fo (S.size + 1)) (hT : Tells S.size fo (upT (mt (nx S) S.size kid) lo i P)) : Tells S.size fo (im (tms (mt (nx S) S.size kid) lo hi) P) := by
  rcases hM with ⟨h0, h1⟩ | ⟨h0, h1, h2⟩ | ⟨h0, h1⟩
  · obtain rfl : hi = ((lo + i : Nat) : Int) := by omega
    rw [tms_full]; exact hT
  · subst h0
    rw [tms_closed (closB_trans hf h1)]
    rw [show 1 - lo = i by omega]; exact hT
  · have := cntB_le fo (S.size + 1)
    omega
/-- Where nothing new is come to. -/
theorem rr_brk {S : ByteArray} {kid : Tr} {lo i : Nat} {hi M : Int} {P : Nat → Prop} {fo fn : Nat → Bool} (hM : MostP kid lo hi (S.size + 1) M) (hi' : (i : Int) < M) (_hP : ∀ x, P x → x ≤ S.size) (hT : Tells S.size fo (upT (mt (nx S) S.size kid) lo i P)) (hN : Tells S.size fn (im (mt (nx S) S.size kid) (im (pw (mt (nx S) S.size kid) (lo + i)) P)))
    (hw : wthB fn fo (S.size + 1) = true) : Tells S.size fo (im (tms (mt (nx S) S.size kid) lo hi) P) := by
  rw [tms_stop (m := i) (by rcases hM with ⟨h0, h1⟩ | ⟨h0, _⟩ | ⟨h0, _⟩
                            · right; omega
                            · exact Or.inl h0
                            · exact Or.inl h0) fun j hj => ?_]
  · exact hT
  · rw [im_pw_succ] at hj
    have hjl := hN.2 j hj
    exact (hT.1 j hjl).1 (wthB_iff.1 hw j (by omega) ((hN.1 j hjl).2 hj))
/-- Else it goes on. -/
theorem rr_go {S : ByteArray} {kid : Tr} {lo i : Nat} {P : Nat → Prop} {fo fn : Nat → Bool} (hc : i = 0 ∨ i + 1 ≤ cntB fo (S.size + 1)) (hT : Tells S.size fo (upT (mt (nx S) S.size kid) lo i P)) (hN : Tells S.size fn (im (mt (nx S) S.size kid) (im (pw (mt (nx S) S.size kid) (lo + i)) P)))
    (hw : wthB fn fo (S.size + 1) = false) : Tells S.size (fun q => fo q || fn q) (upT (mt (nx S) S.size kid) lo (i + 1) P) ∧ i + 1 + 1 ≤ cntB (fun q => fo q || fn q) (S.size + 1) := by
  refine ⟨?_, ?_⟩
  · rw [upT_succ, im_pw_succ]; exact hT.un hN
  · have hex : ∃ q, q < S.size + 1 ∧ fo q = false ∧ (fo q || fn q) = true := by
      refine Classical.byContradiction fun hne => ?_
      have : wthB fn fo (S.size + 1) = true := wthB_iff.2 fun q hq hfn => by
        cases hfo : fo q
        · exact absurd ⟨q, hq, hfo, by rw [hfo, hfn]; rfl⟩ hne
        · rfl
      rw [this] at hw; cases hw
    have hmore := cntB_more (f := fo) (g := fun q => fo q || fn q) (n := S.size + 1) (fun q _ h => by show (fo q || fn q) = true; rw [h]; rfl) hex
    rcases hc with rfl | hc
    · obtain ⟨q, hq, hfo, hor⟩ := hex
      have hfn : fn q = true := by rw [hfo] at hor; exact hor
      obtain ⟨x, hx, _⟩ := (hN.1 q (by omega)).1 hfn
      have hux : upT (mt (nx S) S.size kid) lo 0 P x := by rw [upT_zero]; exact hx
      have := cntB_pos (f := fo) (n := S.size + 1) (i := x) (by have := hT.2 x hux; omega) ((hT.1 x (hT.2 x hux)).2 hux)
      omega
    · omega
set_option maxRecDepth 100000 in
set_option maxHeartbeats 2000000 in
/-- What is nothing but the empty text. -/
theorem step_rep0 (S : ByteArray) (t : Tr) (P : Nat → Prop) (g cap : Nat) (f : Nat → Bool) (w : World) (hk : t.k = 5) (hft : fitT t = true) (hz : sz t = 0) (hS : S.size ≤ 10000) (hL : Lives w w.heap.size t) (_hc : S.size + 1 ≤ cap) (_hcm : cap ≤ maxLen) (hf : BRow w g (S.size + 1) f) (hT : Tells S.size f P) :
    Calls Try.prog 42 #[t.val, .string S, .slice (some ⟨g, 0, none⟩) (S.size + 1 : Nat) cap] w (StpE S t P w) := by
  obtain ⟨i0, hi, hz0, hz1, hz2⟩ := info_parts infoB
  have HFIN : Hid (∀ (W : World) , SB w t (S.size + 1) f W → StpE S t P w (.returned (.slice (some ⟨w.heap.size + 1, 0, none⟩) (S.size + 1 : Nat) (S.size + 1))) W) := Lib.hid fun W h => ⟨f, h.ret (by unfold maxLen; omega), by rw [mt_zero _ _ hft hz, im_id]; exact hT⟩
  have HSZ : Hid (∀ W, Below w.heap.size w W → Calls Try.prog 12 #[t.val] W fun e w' => e = .returned (.int .i64 0) ∧ Below W.heap.size W w') := Lib.hid fun W hb => (refsize_any t W hft ((hL.below hb).mono hb.size)).mono fun e w' h => ⟨by rw [h.1, hz]; rfl, h.2⟩
  have HF := Lib.hid hf
  have hq : (t.k == 5) = true := by simp [hk]
  have hq1 : (t.k == 1) = false := by simp [hk]
  have hq2 : (t.k == 2) = false := by simp [hk]
  have hq3 : (t.k == 3) = false := by simp [hk]
  have hq4 : (t.k == 4) = false := by simp [hk]
  obtain ⟨n, hn⟩ : ∃ n, n = S.size + 1 := ⟨_, rfl⟩
  rw [← hn] at HF HFIN _hc ⊢
  have hn1 : 1 ≤ n := by omega
  have hn2 : n ≤ 10001 := by omega
  rw [show t.val = nodeV t.k t.s t.lo t.hi (.slice t.a t.n t.cap) from rfl] at HSZ ⊢
  clear hk hf hT hn hS hL hz hft
  unfold maxLen at _hcm
  go_enter Try.func42, Try.ntmps42
  go_wp2_with (first
    | (at_make; refine wpList_make_full _ rfl _ _ 71 rfl (w.heap.size + 1) 4 i0 (.bool false) 1 Try.underlying71 hi hz0 hz1 .i64 .i64 _ _ n rfl rfl rfl rfl (by rw [hz2]; omega) (by unfold maxLen; omega) (by simp) ?_; intro w2 hown hgr; have HSB := Lib.hid (SB.made (z := .bool false) (t := t) rfl (by simpa using hown) hgr); clear hown hgr; obtain ⟨c0, c1, c2, c3, c4, c5, c6, c7⟩ := cell8 (s := t.s) HSB.out.box)
    | (go_at_call 12; refine (HSZ.out _ HSB.out.bel).mono ?_; rintro e w3 ⟨rfl, hb3⟩; have HSB3 := Lib.hid (HSB.out.below hb3); clear hb3 c0 c1 c2 c3 c4 c5 c6 c7)
    | (refine wpList_copyB rfl _ _ 71 71 rfl Try.underlying71 (w.heap.size + 1) n _ g _ rfl rfl _ f HSB3.out.out (HF.out.below HSB3.out.bel) ?_; intro w4 hg4 hb4; have HS4 := Lib.hid (HSB3.out.over hg4 hb4); clear hg4 hb4))
  go_ret
  exact HFIN.out _ HS4.out
end Go.Proofs.Ytbahadgcmaabcaa
/- The document's step of layer 5: Rep, the walk. -/
namespace Go.Proofs.Ytbahadgcmaabcaa
open Go.RowKit Go.Maps Go
/-- While a Rep is gone through: the box of the pattern, and nothing old has turned. -/
structure RB (w : World) (t : Tr) (W : World) : Prop where
  box : W.heap[w.heap.size]? = some (.cells (row8 t.k t.s t.lo t.hi (.slice t.a t.n t.cap)) 27 (0, 0))
  bel : Below w.heap.size w W
theorem RB.below {w : World} {t : Tr} {W W' : World} (h : RB w t W) (hb : Below W.heap.size W W') : RB w t W' :=
  ⟨(hb.block _ (Array.getElem?_eq_some_iff.1 h.box).1).trans h.box, h.bel.trans (hb.mono h.bel.size)⟩
theorem SB.rb {w : World} {t : Tr} {n : Nat} {fo : Nat → Bool} {W : World} (h : SB w t n fo W) : RB w t W := ⟨h.box, h.bel⟩
theorem rr_counts {t : Tr} (hk : t.k = 5) (hf : fitT t = true) : t.n = 1 ∧ 0 ≤ t.lo ∧ t.lo ≤ 20 ∧ (t.hi = -1 ∨ (max t.lo 1 ≤ t.hi ∧ t.hi ≤ 20)) := by
  have h := fitT_fits hf
  have hc := fits_cases h
  have hh := counts_hi h
  omega
/-- What is known in the loop that goes on. -/
def LpG (S : ByteArray) (w : World) (t kid : Tr) (lo : Nat) (P : Nat → Prop) (n : Nat) (M : Int) (out now i : Value) (wr : World) : Prop :=
  ∃ (j gn cn go co : Nat) (fn fo : Nat → Bool), (j : Int) ≤ max 0 M ∧ i = .int .i64 j ∧ now = .slice (some ⟨gn, 0, none⟩) n cn ∧ n ≤ cn ∧ cn ≤ 9223372036854775807 ∧ out = .slice (some ⟨go, 0, none⟩) n co ∧ n ≤ co ∧ co ≤ 9223372036854775807 ∧
    Hid (BRow wr gn n fn) ∧ Hid (BRow wr go n fo) ∧ Hid (Tells S.size fn (im (pw (mt (nx S) S.size kid) (lo + j)) P)) ∧ Hid (Tells S.size fo (upT (mt (nx S) S.size kid) lo j P)) ∧ Hid (j = 0 ∨ j + 1 ≤ cntB fo n) ∧ Hid (RB w t wr)
set_option maxRecDepth 100000 in
set_option maxHeartbeats 8000000 in
theorem step_rep (S : ByteArray) (t : Tr) (P : Nat → Prop) (g cap : Nat) (f : Nat → Bool) (w : World) (hk : t.k = 5) (hft : fitT t = true) (hz : sz t ≠ 0) (hS : S.size ≤ 10000) (hL : Lives w w.heap.size t) (HK : KidE S t) (hc : S.size + 1 ≤ cap) (hcm : cap ≤ maxLen) (hf : BRow w g (S.size + 1) f) (hT : Tells S.size f P) :
    Calls Try.prog 42 #[t.val, .string S, .slice (some ⟨g, 0, none⟩) (S.size + 1 : Nat) cap] w (StpE S t P w) := by
  obtain ⟨i0, hi, hz0, hz1, hz2⟩ := info_parts infoB
  obtain ⟨hn1, hlo0, hlo20, hhi⟩ := rr_counts hk hft
  obtain ⟨lo, hlo⟩ : ∃ lo : Nat, t.lo = (lo : Int) := ⟨t.lo.toNat, by omega⟩
  obtain ⟨kid, hkid⟩ : ∃ kid, kid = t.kid 0 := ⟨_, rfl⟩
  have hfk : fitT kid = true := by rw [hkid]; exact fitT_kid hft (by omega)
  have HEQ : Hid (mt (nx S) S.size t = tms (mt (nx S) S.size kid) lo t.hi) := Lib.hid (by rw [mt_k5 hk, hlo, hkid])
  have HFC : Hid (∀ (W : World) gn cn fc, S.size + 1 ≤ cn → cn ≤ 9223372036854775807 → BRow W gn (S.size + 1) fc → Below w.heap.size w W → Tells S.size fc (im (tms (mt (nx S) S.size kid) lo t.hi) P) → StpE S t P w (.returned (.slice (some ⟨gn, 0, none⟩) (S.size + 1 : Nat) cn)) W) := Lib.hid fun W gn cn fc h1 h2 hr hb ht => ⟨fc, ⟨gn, cn, rfl, h1, by unfold maxLen; exact h2, hr, hb⟩, by rw [HEQ.out]; exact ht⟩
  have HSZ : Hid (∀ W, Below w.heap.size w W → Calls Try.prog 12 #[t.val] W fun e w' => ∃ M, e = .returned (.int .i64 M) ∧ (M == 0) = false ∧ Below W.heap.size W w') := Lib.hid fun W hb => (refsize_any t W hft ((hL.below hb).mono hb.size)).mono fun e w' h => ⟨_, h.1, by simp; omega, h.2⟩
  have HKC : Hid (∀ (W : World) (gn cn : Nat) (fn : Nat → Bool) (Q : Nat → Prop), RB w t W → S.size + 1 ≤ cn → cn ≤ 9223372036854775807 → BRow W gn (S.size + 1) fn → Tells S.size fn Q → Calls Try.prog 42 #[kid.val, .string S, .slice (some ⟨gn, 0, none⟩) (S.size + 1 : Nat) cn] W (StpE S kid Q W)) := Lib.hid fun W gn cn fn Q hb h1 h2 hr ht => by
    rw [hkid]
    exact HK 0 (by omega) W gn cn fn Q ((((lives_kids hL).2.2.2 0 (by omega)).below hb.bel).mono hb.bel.size) h1 (by unfold maxLen; exact h2) hr ht
  obtain ⟨gk, ok, hak, hgk, hck⟩ := (lives_kids hL).2.2.1 (by omega)
  have HAK : Hid (∀ W, RB w t W → At8 W gk ok kid) := Lib.hid fun W hb => by
    have := hck 0 (by omega)
    rw [Nat.zero_mul, Nat.add_zero, ← hkid] at this
    exact this.below hgk hb.bel
  have HC8 : Hid (∀ W, RB w t W → W.cell? ⟨w.heap.size, 0, none⟩ = some (.int .i64 t.k) ∧ W.cell? ⟨w.heap.size, 5, none⟩ = some (.int .i64 (lo : Int)) ∧ W.cell? ⟨w.heap.size, 6, none⟩ = some (.int .i64 t.hi) ∧ W.cell? ⟨w.heap.size, 7, none⟩ = some (.slice (some ⟨gk, ok, none⟩) 1 t.cap)) := Lib.hid fun W hb => by
    obtain ⟨c0, c1, c2, c3, c4, c5, c6, c7⟩ := cell8 (s := t.s) hb.box
    rw [hlo] at c5
    rw [hak, hn1] at c7
    exact ⟨c0, c5, c6, c7⟩
  have HF := Lib.hid hf
  have HT := Lib.hid hT
  have hq : (t.k == 5) = true := by simp [hk]
  have hq1 : (t.k == 1) = false := by simp [hk]
  have hq2 : (t.k == 2) = false := by simp [hk]
  have hq3 : (t.k == 3) = false := by simp [hk]
  have hq4 : (t.k == 4) = false := by simp [hk]
  obtain ⟨n, hn⟩ : ∃ n, n = S.size + 1 := ⟨_, rfl⟩
  have HN := Lib.hid hn
  have hn1' : 1 ≤ n := by omega
  have hn2 : n ≤ 10001 := by omega
  have hl20 : lo ≤ 20 := by omega
  have HHI := Lib.hid hhi
  have hhi1 : -1 ≤ t.hi := by omega
  have hhi2 : t.hi ≤ 20 := by omega
  have HLO := Lib.hid hlo
  have HFK := Lib.hid hfk
  have hcap := (lives_kids hL).1
  have hcap2 := (lives_kids hL).2.1
  have HN1 := Lib.hid hn1
  rw [show t.val = nodeV t.k t.s t.lo t.hi (.slice t.a t.n t.cap) from rfl] at HSZ ⊢
  rw [← hn] at HF HFC HKC hc ⊢
  rw [hn1] at hcap
  clear hk hft hz hS hL HK hf hT hn hhi hlo hfk hn1 hkid hck HEQ hak hlo0 hlo20
  unfold maxLen at hcm hcap2
  go_enter Try.func42, Try.ntmps42
  go_wp2_with (first
    | (at_make; refine wpList_make_full _ rfl _ _ 71 rfl (w.heap.size + 1) 4 i0 (.bool false) 1 Try.underlying71 hi hz0 hz1 .i64 .i64 _ _ n rfl rfl rfl rfl (by rw [hz2]; omega) (by unfold maxLen; omega) (by simp) ?_; intro w2 hown hgr; have HSB := Lib.hid (SB.made (z := .bool false) (t := t) rfl (by simpa using hown) hgr); clear hown hgr; obtain ⟨c0, c1, c2, c3, c4, c5, c6, c7⟩ := cell8 (s := t.s) HSB.out.box)
    | (go_at_call 12; refine (HSZ.out _ HSB.out.bel).mono ?_; rintro e w3 ⟨M0, rfl, hM0, hb3⟩; have HSB3 := Lib.hid (HSB.out.below hb3); clear hb3 c0 c1 c2 c3 c4 c5 c6 c7))
  go_loopw [12, 13] (fun v i wr => ∃ (j gn cn : Nat) (fn : Nat → Bool), j ≤ lo ∧ i = .int .i64 j ∧ v = .slice (some ⟨gn, 0, none⟩) n cn ∧ n ≤ cn ∧ cn ≤ 9223372036854775807 ∧ Hid (BRow wr gn n fn) ∧ Hid (Tells S.size fn (im (pw (mt (nx S) S.size kid) j) P)) ∧ Hid (SB w t n (fun _ => false) wr)) (fun _ i _ => lo - (RowKit.intOf i).toNat)
  case atStart => exact ⟨0, g, cap, f, by omega, rfl, rfl, by omega, by omega, Lib.hid (HF.out.below HSB3.out.bel), Lib.hid (by rw [im_pw_zero]; exact HT.out), HSB3⟩
  case round =>
    obtain ⟨j, gn, cn, fn, hj, rfl, rfl, hn3, hn4, HBN, HTN, HR⟩ := hrel
    obtain ⟨b0, b5, b6, b7⟩ := HC8.out _ HR.out.rb
    by_cases hlt : j < lo
    · have hlt' : (j : Int) < (lo : Int) := by omega
      have HCL := Lib.hid (HKC.out wr gn cn fn _ HR.out.rb hn3 hn4 HBN.out HTN.out)
      obtain ⟨a0, a1, a2, a3, a4, a5, a6, a7⟩ := HAK.out _ HR.out.rb
      rw [show kid.val = nodeV kid.k kid.s kid.lo kid.hi (.slice kid.a kid.n kid.cap) from rfl] at HCL
      go_wp2_with fail
      refine HCL.out.mono ?_
      rintro e w4 ⟨f3, ⟨g3, c3, rfl, k1, k2, hr3, hb3⟩, ht3⟩
      rw [← HN.out] at hr3
      have HR3 := Lib.hid hr3
      have HT3 := Lib.hid (show Tells S.size f3 (im (pw (mt (nx S) S.size kid) (j + 1)) P) by rw [im_pw_succ]; exact ht3)
      have HSB4 := Lib.hid (HR.out.below hb3)
      unfold maxLen at k2
      rw [← HN.out] at k1 ⊢
      clear hr3 ht3 hb3 b0 b5 b6 b7 a0 a1 a2 a3 a4 a5 a6 a7
      go_wp2
      go_roundw
      case rel => exact ⟨j + 1, g3, c3, f3, by omega, by go_num, rfl, k1, k2, HR3, HT3, HSB4⟩
      case measure => simp [RowKit.intOf]; omega
    · obtain rfl : lo = j := by omega
      clear b6
      go_upto_region 32 with (first
        | (refine wpList_copyB rfl _ _ 71 71 rfl Try.underlying71 (w.heap.size + 1) n _ gn _ rfl rfl _ fn HR.out.out HBN.out ?_; intro w5 hg5 hb5; have HS5 := Lib.hid (HR.out.over hg5 hb5); have HBN5 := Lib.hid (HBN.out.over hg5 hb5); clear hg5 hb5; go_frame))
      clear b0 b5 b7 HR HBN HSB HSB3 HSZ hz0 hz1 hz2
      obtain ⟨b0, b5, b6, b7⟩ := HC8.out _ HS5.out.rb
      obtain ⟨a0, a1, a2, a3, a4, a5, a6, a7⟩ := HAK.out _ HS5.out.rb
      go_upto_if 124 with (fail)
      go_cut [14] from 117 to 126 (fun mv wc => ∃ M1 : Int, mv = .int .i64 M1 ∧ w5 = wc ∧ ((0 ≤ t.hi ∧ M1 = t.hi - (lo : Int)) ∨ (t.hi = -1 ∧ M1 = (n : Int))))
      case first =>
        by_cases h0 : t.hi < 0
        · go_wp2
          go_meet
          exact ⟨n, rfl, rfl, Or.inr ⟨by omega, rfl⟩⟩
        · have h0' : decide (t.hi < 0) = false := by simp; omega
          go_wp2
          go_meet
          exact ⟨t.hi - (lo : Int), rfl, rfl, Or.inl ⟨by omega, rfl⟩⟩
      case rest =>
        obtain ⟨M1, rfl, rfl, hM1⟩ := hcut
        have HM1 := Lib.hid hM1
        clear hM1
        go_upto_region 35 with (fail)
        go_cut [136] from 127 to 136 (fun cv wc => ∃ bb : Bool, cv = .bool bb ∧ Below w5.heap.size w5 wc ∧ (bb = true → t.hi = -1 ∧ closB kid = true))
        case first =>
          by_cases h0 : t.hi < 0
          · have HCC := Lib.hid (refclosed_any kid w5)
            rw [show kid.val = nodeV kid.k kid.s kid.lo kid.hi (.slice kid.a kid.n kid.cap) from rfl] at HCC
            obtain ⟨bc, hbc⟩ : ∃ b, b = closB kid := ⟨_, rfl⟩
            rw [← hbc] at HCC
            have HBC := Lib.hid hbc
            clear hbc
            go_wp2_with fail
            refine HCC.out.mono ?_
            rintro e w6 ⟨rfl, hb6⟩
            have HB6 := Lib.hid hb6
            clear hb6
            go_wp2
            go_meet
            exact ⟨bc, rfl, HB6.out, fun q => ⟨by omega, by rw [← HBC.out]; exact q⟩⟩
          · have h0' : decide (t.hi < 0) = false := by simp; omega
            go_wp2
            go_meet
            exact ⟨false, rfl, Below.refl _ _, fun q => by cases q⟩
        case rest =>
        obtain ⟨bb, rfl, hbc0, hbb⟩ := hcut
        have HBB := Lib.hid hbb
        have HBC0 := Lib.hid hbc0
        have d5 := (hbc0.cell (p := ⟨w.heap.size, 5, none⟩) (by have := HS5.out.sz; show w.heap.size < _; omega)).trans b5
        clear hbb hbc0 a0 a1 a2 a3 a4 a5 a6 a7 b0 b5 b6 b7
        go_upto_if 136 with (fail)
        go_cut [14] from 137 to 140 (fun mv wq => ∃ M : Int, mv = .int .i64 M ∧ wc = wq ∧ MostP kid lo t.hi n M)
        case first =>
          cases bb
          · go_wp2
            go_meet
            exact ⟨M1, rfl, rfl, HM1.out.elim Or.inl fun q => Or.inr (Or.inr q)⟩
          · go_wp2
            all_goals go_meet
            all_goals refine ⟨_, rfl, rfl, Or.inr (Or.inl ⟨(HBB.out (by first | rfl | trivial)).1, (HBB.out (by first | rfl | trivial)).2, ?_⟩)⟩
            all_goals first | rfl | omega
        case rest =>
        obtain ⟨M, rfl, rfl, hM⟩ := hcut
        have hbc := HBC0.out
        have HS6 := Lib.hid (HS5.out.below hbc)
        have HBN6 := Lib.hid (HBN5.out.below hbc)
        have hM0 : 0 ≤ M := by
          have := HHI.out
          have := HLO.out
          rcases hM with ⟨q1, q2⟩ | ⟨q1, _, q2⟩ | ⟨q1, q2⟩ <;> omega
        have hMb : M ≤ 10001 := by
          rcases hM with ⟨q1, q2⟩ | ⟨q1, _, q2⟩ | ⟨q1, q2⟩ <;> omega
        have HM : Hid (MostP kid lo t.hi (S.size + 1) M) := Lib.hid (by rw [← HN.out]; exact hM)
        clear hM hbc d5 HS5 HBN5
        go_wp2
        go_loopw [7, 12, 15] (fun out now i wr => LpG S w t kid lo P n M out now i wr) (fun _ _ i _ => M.toNat - (RowKit.intOf i).toNat)
        case atStart => exact ⟨0, gn, cn, w.heap.size + 1, n, fn, fn, by omega, rfl, rfl, hn3, hn4, rfl, Nat.le_refl _, by omega, HBN6, Lib.hid HS6.out.out.row, HTN, Lib.hid (by rw [upT_zero]; exact HTN.out), Lib.hid (Or.inl rfl), Lib.hid HS6.out.rb⟩
        case round =>
          obtain ⟨j, gn2, cn2, go2, co2, fn2, fo2, hj, rfl, rfl, k1, k2, rfl, k3, k4, HBn, HBo, HTn, HTo, HCt, HRB⟩ := hrel
          obtain ⟨b0, b5, b6, b7⟩ := HC8.out _ HRB.out
          have HCT' : Hid (j = 0 ∨ j + 1 ≤ cntB fo2 (S.size + 1)) := Lib.hid (by rw [← HN.out]; exact HCt.out)
          by_cases hlt : (j : Int) < M
          · have HCL := Lib.hid (HKC.out wr gn2 cn2 fn2 _ HRB.out k1 k2 HBn.out HTn.out)
            obtain ⟨a0, a1, a2, a3, a4, a5, a6, a7⟩ := HAK.out _ HRB.out
            rw [show kid.val = nodeV kid.k kid.s kid.lo kid.hi (.slice kid.a kid.n kid.cap) from rfl] at HCL
            go_wp2_with fail
            refine HCL.out.mono ?_
            rintro e w7 ⟨f3, ⟨g3, c3, rfl, l1, l2, hr3, hb3⟩, ht3⟩
            rw [← HN.out] at hr3
            have HR3 := Lib.hid hr3
            have HT3 := Lib.hid ht3
            have HRB7 := Lib.hid (HRB.out.below hb3)
            have HBo7 := Lib.hid (HBo.out.below hb3)
            unfold maxLen at l2
            rw [← HN.out] at l1 ⊢
            clear hr3 ht3 hb3 b0 b5 b6 b7 a0 a1 a2 a3 a4 a5 a6 a7
            have HWI := Lib.hid (refwithin_any g3 c3 go2 co2 n f3 fo2 w7 (by omega) HR3.out HBo7.out)
            have HOR := Lib.hid (refor_any go2 co2 g3 c3 n fo2 f3 w7 hn1' (by omega) HBo7.out HR3.out)
            obtain ⟨bw, hbw⟩ : ∃ b, b = wthB f3 fo2 n := ⟨_, rfl⟩
            rw [← hbw] at HWI
            have HBW : Hid (wthB f3 fo2 (S.size + 1) = bw) := Lib.hid (by rw [← HN.out]; exact hbw.symm)
            clear hbw
            go_wp2_with fail
            refine HWI.out.mono ?_
            rintro e w8 ⟨rfl, rfl⟩
            cases bw
            · have hgo := rr_go HCT'.out HTo.out HT3.out HBW.out
              have HT4 := Lib.hid hgo.1
              have HC4 : Hid (j + 1 = 0 ∨ j + 1 + 1 ≤ cntB (fun q => fo2 q || f3 q) n) := Lib.hid (Or.inr (by rw [HN.out]; exact hgo.2))
              clear hgo
              go_wp2_with fail
              refine HOR.out.mono ?_
              rintro e w9 ⟨g4, c4, rfl, k5, k6, hr4, hb4⟩
              have HR4 := Lib.hid hr4
              have HR39 := Lib.hid (HR3.out.below hb4)
              have HRB9 := Lib.hid (HRB7.out.below hb4)
              have HT5 : Hid (Tells S.size f3 (im (pw (mt (nx S) S.size kid) (lo + (j + 1))) P)) := Lib.hid (by rw [← Nat.add_assoc, im_pw_succ]; exact HT3.out)
              unfold maxLen at k6
              clear hr4 hb4
              go_wp2
              go_roundw
              case rel =>
                (repeat apply Exists.intro)
                refine ⟨?rl, rfl⟩
                exact ⟨j + 1, g3, c3, g4, c4, f3, _, by omega, by go_num, rfl, l1, l2, rfl, k5, k6, HR39, HR4, HT5, HT4, HC4, HRB9⟩
              case measure => simp [RowKit.intOf]; omega
            · have HZ : Hid (StpE S t P w (.returned (.slice (some ⟨go2, 0, none⟩) (n : Nat) co2)) w7) := Lib.hid (HFC.out w7 go2 co2 fo2 k3 k4 HBo7.out HRB7.out.bel (rr_brk HM.out hlt (fun x hx => HT.out.2 x hx) HTo.out HT3.out HBW.out))
              go_wp2
              go_ret
              exact HZ.out
          · have HZ : Hid (StpE S t P w (.returned (.slice (some ⟨go2, 0, none⟩) (n : Nat) co2)) wr) := Lib.hid (HFC.out wr go2 co2 fo2 k3 k4 HBo.out HRB.out.bel (rr_end HFK.out HM.out (by omega) HCT'.out HTo.out))
            clear b0 b5 b6 b7
            go_wp2
            go_ret
            exact HZ.out
end Go.Proofs.Ytbahadgcmaabcaa
