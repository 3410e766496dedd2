/- The document's step of layer 5: Cat, Alt. -/
import Derived.Test.YtbahadgcmaabcaaGc
namespace Go.Proofs.Ytbahadgcmaabcaa
open Go.RowKit Go.Maps Go
theorem mt_k3 {c : Nat → Int} {L : Nat} {t : Tr} (hk : t.k = 3) : mt c L t = chain (fun q => mt c L (t.kid q)) t.n := by
  cases t with
  | node k s lo hi a n cap kid => obtain rfl : k = 3 := hk; exact ext2 fun i j => by simp [mt, Tr.kid, Tr.n]
  | nul => simp [Tr.k] at hk
theorem mt_k4 {c : Nat → Int} {L : Nat} {t : Tr} (hk : t.k = 4) : mt c L t = fun i j => ∃ q, q < t.n ∧ mt c L (t.kid q) i j := by
  cases t with
  | node k s lo hi a n cap kid => obtain rfl : k = 4 := hk; exact ext2 fun i j => by simp [mt, Tr.kid, Tr.n]
  | nul => simp [Tr.k] at hk
/-- What is known of the kids. -/
def KidE (S : ByteArray) (t : Tr) : Prop := ∀ i, i < t.n → ∀ (w : World) (g cap : Nat) (f : Nat → Bool) (P : Nat → Prop), Lives w w.heap.size (t.kid i) → S.size + 1 ≤ cap → cap ≤ maxLen → BRow w g (S.size + 1) f → Tells S.size f P →
  Calls Try.prog 42 #[(t.kid i).val, .string S, .slice (some ⟨g, 0, none⟩) (S.size + 1 : Nat) cap] w (StpE S (t.kid i) P w)
/-- The kids lie in memory. -/
theorem lives_kids {w : World} {B : Nat} : ∀ {t : Tr}, Lives w B t → t.n ≤ t.cap ∧ t.cap ≤ maxLen ∧ (0 < t.n → ∃ g off, t.a = some ⟨g, off, none⟩ ∧ g < B ∧ ∀ i, i < t.n → At8 w g (off + i * 8) (t.kid i)) ∧ ∀ i, i < t.n → Lives w B (t.kid i)
  | .node _ _ _ _ _ _ _ _, ⟨_, h1, h2, h3, h4⟩ => ⟨h1, h2, h3, h4⟩
  | .nul, h => False.elim h
set_option maxRecDepth 100000 in
set_option maxHeartbeats 4000000 in
theorem step_cat (S : ByteArray) (t : Tr) (P : Nat → Prop) (g cap : Nat) (f : Nat → Bool) (w : World) (hk : t.k = 3) (hS : S.size ≤ 10000) (hL : Lives w w.heap.size t) (HK : KidE S t) (hc : S.size + 1 ≤ cap) (hcm : cap ≤ maxLen) (hf : BRow w g (S.size + 1) f) (hT : Tells S.size f P) :
    Calls Try.prog 42 #[t.val, .string S, .slice (some ⟨g, 0, none⟩) (S.size + 1 : Nat) cap] w (StpE S t P w) := by
  obtain ⟨i0, hi, hz0, hz1, hz2⟩ := info_parts infoB
  have HFIN : Hid (∀ (W : World) fc, SB w t (S.size + 1) fc W → Tells S.size fc (im (chain (fun q => mt (nx S) S.size (t.kid q)) t.n) P) → StpE S t P w (.returned (.slice (some ⟨w.heap.size + 1, 0, none⟩) (S.size + 1 : Nat) (S.size + 1))) W) := Lib.hid fun W fc h ht => ⟨fc, h.ret (by unfold maxLen; omega), by rw [mt_k3 hk]; exact ht⟩
  have HSU : Hid (∀ j, im (chain (fun q => mt (nx S) S.size (t.kid q)) (j + 1)) P = im (mt (nx S) S.size (t.kid j)) (im (chain (fun q => mt (nx S) S.size (t.kid q)) j) P)) := Lib.hid fun j => im_chain_succ _ _ _
  have HZE : Hid (im (chain (fun q => mt (nx S) S.size (t.kid q)) 0) P = P) := Lib.hid (im_chain_zero _ _)
  obtain ⟨C, hC⟩ : ∃ C : Nat → Nat → Prop, C = fun j => im (chain (fun q => mt (nx S) S.size (t.kid q)) j) P := ⟨_, rfl⟩
  have HF := Lib.hid hf
  have HT : Hid (Tells S.size f (C 0)) := Lib.hid (by rw [hC]; show Tells S.size f (im (chain _ 0) P); rw [HZE.out]; exact hT)
  have HST : Hid (∀ j f', Tells S.size f' (im (mt (nx S) S.size (t.kid j)) (C j)) → Tells S.size f' (C (j + 1))) := Lib.hid fun j f' h => by rw [hC] at h ⊢; show Tells S.size f' (im (chain _ (j + 1)) P); rw [HSU.out]; exact h
  have HFC : Hid (∀ (W : World) fc, SB w t (S.size + 1) fc W → Tells S.size fc (C t.n) → StpE S t P w (.returned (.slice (some ⟨w.heap.size + 1, 0, none⟩) (S.size + 1 : Nat) (S.size + 1))) W) := Lib.hid fun W fc h ht => HFIN.out W fc h (by rw [hC] at ht; exact ht)
  have hq : (t.k == 3) = true := by simp [hk]
  have hq1 : (t.k == 1) = false := by simp [hk]
  have hq2 : (t.k == 2) = false := by simp [hk]
  obtain ⟨l1, l2, l3, l4⟩ := lives_kids hL
  have HL3 := Lib.hid l3
  have HL4 := Lib.hid l4
  have HKD := Lib.hid HK
  obtain ⟨n, hn⟩ : ∃ n, n = S.size + 1 := ⟨_, rfl⟩
  have HN := Lib.hid hn
  have hn1 : 1 ≤ n := by omega
  have hn2 : n ≤ 10001 := by omega
  rw [show t.val = nodeV t.k t.s t.lo t.hi (.slice t.a t.n t.cap) from rfl]
  rw [← hn] at HF HFC hc ⊢
  obtain ⟨m, hm⟩ : ∃ m, m = t.n := ⟨_, rfl⟩
  rw [← hm] at HFC HL3 HL4 l1 ⊢
  have HM := Lib.hid hm
  clear hk hf hT hn hL HK l3 l4 HFIN HSU HZE hC hm hS
  unfold maxLen at hcm l2
  go_enter Try.func42, Try.ntmps42
  go_wp2_with (first
    | (at_make; refine wpList_make_full _ rfl _ _ 71 rfl (w.heap.size + 1) 4 i0 (.bool false) 1 Try.underlying71 hi hz0 hz1 .i64 .i64 _ _ n rfl rfl rfl rfl (by rw [hz2]; omega) (by unfold maxLen; omega) (by simp) ?_; intro w2 hown hgr; have HSB := Lib.hid (SB.made (z := .bool false) (t := t) rfl (by simpa using hown) (by rw [← HM.out]; exact hgr)); clear hown hgr; have c0 := (cell8 (s := t.s) HSB.out.box).1))
  go_loopw [9, 10] (fun v i wr => ∃ (j gn cn : Nat) (fn : Nat → Bool), j ≤ m ∧ i = .int .i64 j ∧ v = .slice (some ⟨gn, 0, none⟩) n cn ∧ n ≤ cn ∧ cn ≤ 9223372036854775807 ∧ Hid (BRow wr gn n fn) ∧ Hid (Tells S.size fn (C j)) ∧ Hid (SB w t n (fun _ => false) wr)) (fun _ i _ => m - (RowKit.intOf i).toNat)
  case atStart => exact ⟨0, g, cap, f, by omega, rfl, rfl, by omega, by omega, Lib.hid (HF.out.below HSB.out.bel), HT, HSB⟩
  case round =>
    obtain ⟨j, gn, cn, fn, hj, rfl, rfl, hn3, hn4, HBN, HTN, HR⟩ := hrel
    obtain ⟨b0, b1, b2, b3, b4, b5, b6, b7⟩ := cell8 (s := t.s) HR.out.box
    rw [← HM.out] at b7
    by_cases hlt : j < m
    · have hlt' : (j : Int) < (m : Int) := by omega
      have HCL : Hid (Calls Try.prog 42 #[(t.kid j).val, .string S, .slice (some ⟨gn, 0, none⟩) (n : Nat) cn] wr (StpE S (t.kid j) (C j) wr)) := Lib.hid (by
        have := HKD.out j (by rw [← HM.out]; exact hlt) wr gn cn fn (C j) (((HL4.out j hlt).below HR.out.bel).mono HR.out.bel.size) (by rw [← HN.out]; exact hn3) (by unfold maxLen; exact hn4) (by rw [← HN.out]; exact HBN.out) HTN.out
        rw [← HN.out] at this
        exact this)
      obtain ⟨gk, ok, hak, hgk, hck⟩ := HL3.out (by omega)
      rw [hak] at b7
      have HHAK := Lib.hid hak
      obtain ⟨a0, a1, a2, a3, a4, a5, a6, a7⟩ := (hck j hlt).below hgk HR.out.bel
      clear hck hak
      obtain ⟨u, hu⟩ : ∃ u, u = t.kid j := ⟨_, rfl⟩
      rw [← hu] at a0 a1 a2 a3 a4 a5 a6 a7 HCL
      rw [show u.val = nodeV u.k u.s u.lo u.hi (.slice u.a u.n u.cap) from rfl] at HCL
      have HU := Lib.hid hu
      clear hu
      go_wp2_with fail
      refine HCL.out.mono ?_
      rintro e w3 ⟨f3, ⟨g3, c3, rfl, k1, k2, hr3, hb3⟩, ht3⟩
      rw [← HN.out] at hr3
      have HR3 := Lib.hid hr3
      have HT3 := Lib.hid (HST.out j f3 (by rw [← HU.out]; exact ht3))
      have HSB3 := Lib.hid (HR.out.below hb3)
      unfold maxLen at k2
      rw [← HN.out] at k1 ⊢
      clear hr3 ht3 hb3 b0 b1 b2 b3 b4 b5 b6 b7 a0 a1 a2 a3 a4 a5 a6 a7
      go_wp2
      go_roundw
      case rel => exact ⟨j + 1, g3, c3, f3, by omega, by go_num, rfl, k1, k2, HR3, HT3, HSB3⟩
      case measure => simp [RowKit.intOf]; omega
    · obtain rfl : m = j := by omega
      clear b0 b1 b2 b3 b4 b5 b6
      go_wp2_with (first
        | (refine wpList_copyB rfl _ _ 71 71 rfl Try.underlying71 (w.heap.size + 1) n _ gn _ rfl rfl _ fn HR.out.out HBN.out ?_; intro w3 hg3 hb3; have HS3 := Lib.hid (HR.out.over hg3 hb3); clear hg3 hb3))
      go_ret
      exact HFC.out _ _ HS3.out HTN.out
end Go.Proofs.Ytbahadgcmaabcaa
/- The document's step of layer 5: Alt. -/
namespace Go.Proofs.Ytbahadgcmaabcaa
open Go.RowKit Go.Maps Go
/-- What the first j kids come to. -/
def altT (c : Nat → Int) (L : Nat) (kid : Nat → Tr) (P : Nat → Prop) (j : Nat) (x : Nat) : Prop := ∃ q, q < j ∧ im (mt c L (kid q)) P x
theorem altT_succ (c : Nat → Int) (L : Nat) (kid : Nat → Tr) (P : Nat → Prop) (j : Nat) : altT c L kid P (j + 1) = un (altT c L kid P j) (im (mt c L (kid j)) P) := ext1 fun x => by
  constructor
  · rintro ⟨q, hq, h⟩
    by_cases e : q = j
    · subst e; exact Or.inr h
    · exact Or.inl ⟨q, by omega, h⟩
  · rintro (⟨q, hq, h⟩ | h)
    · exact ⟨q, by omega, h⟩
    · exact ⟨j, by omega, h⟩
theorem altT_all (c : Nat → Int) (L : Nat) (kid : Nat → Tr) (P : Nat → Prop) (n : Nat) : im (fun i j => ∃ q, q < n ∧ mt c L (kid q) i j) P = altT c L kid P n := ext1 fun x => by
  constructor
  · rintro ⟨i, hi, q, hq, h⟩; exact ⟨q, hq, i, hi, h⟩
  · rintro ⟨q, hq, i, hi, h⟩; exact ⟨i, hi, q, hq, h⟩
theorem Tells.un {L : Nat} {f h : Nat → Bool} {P Q : Nat → Prop} (hf : Tells L f P) (hh : Tells L h Q) : Tells L (fun i => f i || h i) (un P Q) := by
  refine ⟨fun i hi => ?_, fun i h => h.elim (hf.2 i) (hh.2 i)⟩
  show (f i || h i) = true ↔ P i ∨ Q i
  rw [Bool.or_eq_true, hf.1 i hi, hh.1 i hi]
set_option maxRecDepth 100000 in
set_option maxHeartbeats 4000000 in
theorem step_alt (S : ByteArray) (t : Tr) (P : Nat → Prop) (g cap : Nat) (f : Nat → Bool) (w : World) (hk : t.k = 4) (hS : S.size ≤ 10000) (hL : Lives w w.heap.size t) (HK : KidE S t) (hc : S.size + 1 ≤ cap) (hcm : cap ≤ maxLen) (hf : BRow w g (S.size + 1) f) (hT : Tells S.size f P) :
    Calls Try.prog 42 #[t.val, .string S, .slice (some ⟨g, 0, none⟩) (S.size + 1 : Nat) cap] w (StpE S t P w) := by
  obtain ⟨i0, hi, hz0, hz1, hz2⟩ := info_parts infoB
  obtain ⟨C, hC⟩ : ∃ C : Nat → Nat → Prop, C = altT (nx S) S.size t.kid P := ⟨_, rfl⟩
  have HFC : Hid (∀ (W : World) gn cn fc, S.size + 1 ≤ cn → cn ≤ 9223372036854775807 → BRow W gn (S.size + 1) fc → Below w.heap.size w W → Tells S.size fc (C t.n) → StpE S t P w (.returned (.slice (some ⟨gn, 0, none⟩) (S.size + 1 : Nat) cn)) W) := Lib.hid fun W gn cn fc h1 h2 hr hb ht => ⟨fc, ⟨gn, cn, rfl, h1, by unfold maxLen; exact h2, hr, hb⟩, by rw [mt_k4 hk, altT_all, ← hC]; exact ht⟩
  have HF := Lib.hid hf
  have HT := Lib.hid hT
  have HT0 : Hid (Tells S.size (fun _ => false) (C 0)) := Lib.hid (by rw [hC]; exact ⟨fun i _ => ⟨fun h => by (cases h), fun ⟨q, hq, _⟩ => absurd hq (by omega)⟩, fun i ⟨q, hq, _⟩ => absurd hq (by omega)⟩)
  have HST : Hid (∀ j f1 f', Tells S.size f1 (C j) → Tells S.size f' (im (mt (nx S) S.size (t.kid j)) P) → Tells S.size (fun i => f1 i || f' i) (C (j + 1))) := Lib.hid fun j f1 f' h h' => by rw [hC] at h ⊢; rw [altT_succ]; exact h.un h'
  have hq : (t.k == 4) = true := by simp [hk]
  have hq1 : (t.k == 1) = false := by simp [hk]
  have hq2 : (t.k == 2) = false := by simp [hk]
  have hq3 : (t.k == 3) = false := by simp [hk]
  obtain ⟨l1, l2, l3, l4⟩ := lives_kids hL
  have HL3 := Lib.hid l3
  have HL4 := Lib.hid l4
  have HKD := Lib.hid HK
  obtain ⟨n, hn⟩ : ∃ n, n = S.size + 1 := ⟨_, rfl⟩
  have HN := Lib.hid hn
  have hn1 : 1 ≤ n := by omega
  have hn2 : n ≤ 10001 := by omega
  have hgw := hf.1
  rw [show t.val = nodeV t.k t.s t.lo t.hi (.slice t.a t.n t.cap) from rfl]
  rw [← hn] at HF HFC hc ⊢
  obtain ⟨m, hm⟩ : ∃ m, m = t.n := ⟨_, rfl⟩
  rw [← hm] at HFC HL3 HL4 l1 ⊢
  have HM := Lib.hid hm
  clear hk hf hT hn hL HK l3 l4 hC hm hS
  unfold maxLen at hcm l2
  go_enter Try.func42, Try.ntmps42
  go_wp2_with (first
    | (at_make; refine wpList_make_full _ rfl _ _ 71 rfl (w.heap.size + 1) 4 i0 (.bool false) 1 Try.underlying71 hi hz0 hz1 .i64 .i64 _ _ n rfl rfl rfl rfl (by rw [hz2]; omega) (by unfold maxLen; omega) (by simp) ?_; intro w2 hown hgr; have HSB := Lib.hid (SB.made (z := .bool false) (t := t) rfl (by simpa using hown) (by rw [← HM.out]; exact hgr)); clear hown hgr; have c0 := (cell8 (s := t.s) HSB.out.box).1))
  go_loopw [7, 11] (fun v i wr => ∃ (j gn cn : Nat) (fn : Nat → Bool), j ≤ m ∧ i = .int .i64 j ∧ v = .slice (some ⟨gn, 0, none⟩) n cn ∧ n ≤ cn ∧ cn ≤ 9223372036854775807 ∧ Hid (BRow wr gn n fn) ∧ Hid (Tells S.size fn (C j)) ∧ Hid (wr.heap[w.heap.size]? = some (.cells (row8 t.k t.s t.lo t.hi (.slice t.a t.n t.cap)) 27 (0, 0))) ∧ Below w.heap.size w wr) (fun _ i _ => m - (RowKit.intOf i).toNat)
  case atStart => exact ⟨0, w.heap.size + 1, n, fun _ => false, by omega, rfl, by simp, by omega, by omega, Lib.hid HSB.out.out.row, HT0, Lib.hid HSB.out.box, HSB.out.bel⟩
  case round =>
    obtain ⟨j, gn, cn, fn, hj, rfl, rfl, hn3, hn4, HBN, HTN, HBX, hbel⟩ := hrel
    obtain ⟨b0, b1, b2, b3, b4, b5, b6, b7⟩ := cell8 (s := t.s) HBX.out
    rw [← HM.out] at b7
    by_cases hlt : j < m
    · have hlt' : (j : Int) < (m : Int) := by omega
      have HCL : Hid (Calls Try.prog 42 #[(t.kid j).val, .string S, .slice (some ⟨g, 0, none⟩) (n : Nat) cap] wr (StpE S (t.kid j) P wr)) := Lib.hid (by
        have := HKD.out j (by rw [← HM.out]; exact hlt) wr g cap f P (((HL4.out j hlt).below hbel).mono hbel.size) (by rw [← HN.out]; exact hc) (by unfold maxLen; exact hcm) (by rw [← HN.out]; exact HF.out.below hbel) HT.out
        rw [← HN.out] at this
        exact this)
      obtain ⟨gk, ok, hak, hgk, hck⟩ := HL3.out (by omega)
      rw [hak] at b7
      have HHAK := Lib.hid hak
      obtain ⟨a0, a1, a2, a3, a4, a5, a6, a7⟩ := (hck j hlt).below hgk hbel
      have HBL := Lib.hid hbel
      clear hck hak hbel
      obtain ⟨u, hu⟩ : ∃ u, u = t.kid j := ⟨_, rfl⟩
      rw [← hu] at a0 a1 a2 a3 a4 a5 a6 a7 HCL
      rw [show u.val = nodeV u.k u.s u.lo u.hi (.slice u.a u.n u.cap) from rfl] at HCL
      have HU := Lib.hid hu
      clear hu
      go_wp2_with fail
      refine HCL.out.mono ?_
      rintro e w3 ⟨f3, ⟨g3, c3, rfl, k1, k2, hr3, hb3⟩, ht3⟩
      have HOR := Lib.hid (refor_any gn cn g3 c3 n fn f3 w3 hn1 (by omega) (HBN.out.below hb3) (by rw [HN.out]; exact hr3))
      have HT3 := Lib.hid (HST.out j fn f3 HTN.out (by rw [← HU.out]; exact ht3))
      have HBX3 := Lib.hid ((hb3.block _ (Array.getElem?_eq_some_iff.1 HBX.out).1).trans HBX.out)
      have HB3 := Lib.hid (HBL.out.trans (hb3.mono HBL.out.size))
      rw [← HN.out]
      clear hr3 ht3 hb3 b0 b1 b2 b3 b4 b5 b6 b7 a0 a1 a2 a3 a4 a5 a6 a7
      go_wp2_with fail
      refine HOR.out.mono ?_
      rintro e w4 ⟨g4, c4, rfl, k3, k4, hr4, hb4⟩
      have HR4 := Lib.hid hr4
      have HBX4 := Lib.hid ((hb4.block _ (Array.getElem?_eq_some_iff.1 HBX3.out).1).trans HBX3.out)
      have HB4 := Lib.hid (HB3.out.trans (hb4.mono HB3.out.size))
      unfold maxLen at k4
      clear hr4 hb4
      go_wp2
      go_roundw
      case rel => exact ⟨j + 1, g4, c4, _, by omega, by go_num, rfl, k3, k4, HR4, HT3, HBX4, HB4.out⟩
      case measure => simp [RowKit.intOf]; omega
    · obtain rfl : m = j := by omega
      have HZ : Hid (StpE S t P w (.returned (.slice (some ⟨gn, 0, none⟩) (n : Nat) cn)) wr) := Lib.hid (HFC.out wr gn cn fn hn3 hn4 HBN.out hbel HTN.out)
      clear b0 b1 b2 b3 b4 b5 b6 hbel
      go_wp2
      go_ret
      exact HZ.out
end Go.Proofs.Ytbahadgcmaabcaa
