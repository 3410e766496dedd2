/- The builder's add. -/
import Derived.Test.YtbahadgcmaabcaaKh
import Derived.Test.YtbahadgcmaabcaaJz
namespace Go.Proofs.Ytbahadgcmaabcaa
open Go.RowKit Go
set_option maxRecDepth 100000 in
set_option maxHeartbeats 4000000 in
theorem add_2 (B p : Nat) (G : Gs) (s : Nat → Int) (lo hi : Int) (a : Option Addr) (n cap : Nat) (w : World) (P : Pl) (hbl : Bl B w p G) (hcall : Calls Try.prog 37 #[.pointer (some ⟨p, 0, none⟩), SV s] ((w.alloc (.cells (row8 2 s lo hi (.slice a n cap)) 27)).alloc (.cells part0 58)) (AddE B ((w.alloc (.cells (row8 2 s lo hi (.slice a n cap)) 27)).alloc (.cells part0 58)) p G P)) : Calls Try.prog 26 #[.pointer (some ⟨p, 0, none⟩), nodeV 2 s lo hi (.slice a n cap)] w (AddE B w p G P) := by
  have HS0 := Lib.hid (AcS.start2 hbl (.cells (row8 2 s lo hi (.slice a n cap)) 27))
  have HX0 := Lib.hid (heap2 w (.cells (row8 2 s lo hi (.slice a n cap)) 27) (.cells part0 58)).1
  have HC := Lib.hid hcall
  clear hbl hcall
  obtain ⟨x0, x1, x2, x3, x4, x5, x6, x7⟩ := cell8 HX0.out
  go_enter Try.func26, Try.ntmps26
  go_wp2_with fail
  refine HC.out.mono ?_
  rintro e w3 ⟨v, rfl, hP, hG, hk⟩
  have HS3 := Lib.hid (HS0.out.go hk hG)
  obtain ⟨a1, a2, a3, a4, a5, a6, rfl⟩ := hP.forms
  have HF := Lib.hid (HS3.out.fin (P := P) rfl hP rfl)
  have hbr := HS3.out.br
  obtain ⟨l0, l1, l2⟩ := cell3 hbr
  have m0 := frozen4 hbr 0
  have m1 := frozen4 hbr 1
  have m2 := frozen4 hbr 2
  clear hbr hG hk hP x0 x1 x2 x3 x4 x5 x6 x7
  go_wp2
  exact bodyPost_ret (ret3c Try.results26 rfl HF.out.1) rfl HF.out.2
set_option maxRecDepth 100000 in
set_option maxHeartbeats 4000000 in
theorem add_3 (B p : Nat) (G : Gs) (s : Nat → Int) (lo hi : Int) (a : Option Addr) (n cap : Nat) (w : World) (P : Pl) (hbl : Bl B w p G) (hcall : Calls Try.prog 38 #[.pointer (some ⟨p, 0, none⟩), .slice a n cap] ((w.alloc (.cells (row8 3 s lo hi (.slice a n cap)) 27)).alloc (.cells part0 58)) (AddE B ((w.alloc (.cells (row8 3 s lo hi (.slice a n cap)) 27)).alloc (.cells part0 58)) p G P)) : Calls Try.prog 26 #[.pointer (some ⟨p, 0, none⟩), nodeV 3 s lo hi (.slice a n cap)] w (AddE B w p G P) := by
  have HS0 := Lib.hid (AcS.start2 hbl (.cells (row8 3 s lo hi (.slice a n cap)) 27))
  have HX0 := Lib.hid (heap2 w (.cells (row8 3 s lo hi (.slice a n cap)) 27) (.cells part0 58)).1
  have HC := Lib.hid hcall
  clear hbl hcall
  obtain ⟨x0, x1, x2, x3, x4, x5, x6, x7⟩ := cell8 HX0.out
  go_enter Try.func26, Try.ntmps26
  go_wp2_with fail
  refine HC.out.mono ?_
  rintro e w3 ⟨v, rfl, hP, hG, hk⟩
  have HS3 := Lib.hid (HS0.out.go hk hG)
  obtain ⟨a1, a2, a3, a4, a5, a6, rfl⟩ := hP.forms
  have HF := Lib.hid (HS3.out.fin (P := P) rfl hP rfl)
  have hbr := HS3.out.br
  obtain ⟨l0, l1, l2⟩ := cell3 hbr
  have m0 := frozen4 hbr 0
  have m1 := frozen4 hbr 1
  have m2 := frozen4 hbr 2
  clear hbr hG hk hP x0 x1 x2 x3 x4 x5 x6 x7
  go_wp2
  exact bodyPost_ret (ret3c Try.results26 rfl HF.out.1) rfl HF.out.2
set_option maxRecDepth 100000 in
set_option maxHeartbeats 4000000 in
theorem add_4 (B p : Nat) (G : Gs) (s : Nat → Int) (lo hi : Int) (a : Option Addr) (n cap : Nat) (w : World) (P : Pl) (hbl : Bl B w p G) (hcall : Calls Try.prog 39 #[.pointer (some ⟨p, 0, none⟩), .slice a n cap] ((w.alloc (.cells (row8 4 s lo hi (.slice a n cap)) 27)).alloc (.cells part0 58)) (AddE B ((w.alloc (.cells (row8 4 s lo hi (.slice a n cap)) 27)).alloc (.cells part0 58)) p G P)) : Calls Try.prog 26 #[.pointer (some ⟨p, 0, none⟩), nodeV 4 s lo hi (.slice a n cap)] w (AddE B w p G P) := by
  have HS0 := Lib.hid (AcS.start2 hbl (.cells (row8 4 s lo hi (.slice a n cap)) 27))
  have HX0 := Lib.hid (heap2 w (.cells (row8 4 s lo hi (.slice a n cap)) 27) (.cells part0 58)).1
  have HC := Lib.hid hcall
  clear hbl hcall
  obtain ⟨x0, x1, x2, x3, x4, x5, x6, x7⟩ := cell8 HX0.out
  go_enter Try.func26, Try.ntmps26
  go_wp2_with fail
  refine HC.out.mono ?_
  rintro e w3 ⟨v, rfl, hP, hG, hk⟩
  have HS3 := Lib.hid (HS0.out.go hk hG)
  obtain ⟨a1, a2, a3, a4, a5, a6, rfl⟩ := hP.forms
  have HF := Lib.hid (HS3.out.fin (P := P) rfl hP rfl)
  have hbr := HS3.out.br
  obtain ⟨l0, l1, l2⟩ := cell3 hbr
  have m0 := frozen4 hbr 0
  have m1 := frozen4 hbr 1
  have m2 := frozen4 hbr 2
  clear hbr hG hk hP x0 x1 x2 x3 x4 x5 x6 x7
  go_wp2
  exact bodyPost_ret (ret3c Try.results26 rfl HF.out.1) rfl HF.out.2
set_option maxRecDepth 100000 in
set_option maxHeartbeats 4000000 in
theorem add_5 (B p : Nat) (G : Gs) (s : Nat → Int) (lo hi : Int) (a : Option Addr) (n cap : Nat) (w : World) (P : Pl) (hbl : Bl B w p G) (hcall : Calls Try.prog 40 #[.pointer (some ⟨p, 0, none⟩), nodeV 5 s lo hi (.slice a n cap)] ((w.alloc (.cells (row8 5 s lo hi (.slice a n cap)) 27)).alloc (.cells part0 58)) (AddE B ((w.alloc (.cells (row8 5 s lo hi (.slice a n cap)) 27)).alloc (.cells part0 58)) p G P)) : Calls Try.prog 26 #[.pointer (some ⟨p, 0, none⟩), nodeV 5 s lo hi (.slice a n cap)] w (AddE B w p G P) := by
  have HS0 := Lib.hid (AcS.start2 hbl (.cells (row8 5 s lo hi (.slice a n cap)) 27))
  have HX0 := Lib.hid (heap2 w (.cells (row8 5 s lo hi (.slice a n cap)) 27) (.cells part0 58)).1
  have HC := Lib.hid hcall
  clear hbl hcall
  obtain ⟨x0, x1, x2, x3, x4, x5, x6, x7⟩ := cell8 HX0.out
  go_enter Try.func26, Try.ntmps26
  go_wp2_with fail
  refine HC.out.mono ?_
  rintro e w3 ⟨v, rfl, hP, hG, hk⟩
  have HS3 := Lib.hid (HS0.out.go hk hG)
  obtain ⟨a1, a2, a3, a4, a5, a6, rfl⟩ := hP.forms
  have HF := Lib.hid (HS3.out.fin (P := P) rfl hP rfl)
  have hbr := HS3.out.br
  obtain ⟨l0, l1, l2⟩ := cell3 hbr
  have m0 := frozen4 hbr 0
  have m1 := frozen4 hbr 1
  have m2 := frozen4 hbr 2
  clear hbr hG hk hP x0 x1 x2 x3 x4 x5 x6 x7
  go_wp2
  exact bodyPost_ret (ret3c Try.results26 rfl HF.out.1) rfl HF.out.2
set_option maxRecDepth 100000 in
set_option maxHeartbeats 4000000 in
theorem add_1 (B p : Nat) (G : Gs) (s : Nat → Int) (lo hi : Int) (a : Option Addr) (n cap : Nat) (w : World) (hbl : Bl B w p G) : Calls Try.prog 26 #[.pointer (some ⟨p, 0, none⟩), nodeV 1 s lo hi (.slice a n cap)] w (AddE B w p G (Pl.nil true)) := by
  have hb0 := alloc2_below w (.cells (row8 1 s lo hi (.slice a n cap)) 27) (.cells #[.slice none 0 0, .slice none 0 0, .bool true] 58)
  have HF : Hid (AddE B w p G (Pl.nil true) (.returned (.agg #[.slice none 0 0, .slice none 0 0, .bool true])) ((w.alloc (.cells (row8 1 s lo hi (.slice a n cap)) 27)).alloc (.cells #[.slice none 0 0, .slice none 0 0, .bool true] 58))) := Lib.hid ⟨_, rfl, pt_nil _ G.n true, by rw [Gs.add_nil hbl.1]; exact hbl.below hb0, KT.of hb0⟩
  have HH := Lib.hid (heap2 w (.cells (row8 1 s lo hi (.slice a n cap)) 27) (.cells #[.slice none 0 0, .slice none 0 0, .bool true] 58)).2
  clear hbl hb0
  go_enter Try.func26, Try.ntmps26
  go_wp2
  exact bodyPost_ret (ret3c Try.results26 rfl HH.out) rfl HF.out
theorem kid_cnt {k : Int} {s : Nat → Int} {lo hi : Int} {a : Option Addr} {n cap : Nat} {kid : Nat → Tr} {i : Nat} (hi' : i < n) : cnt (kid i) ≤ cnt (.node k s lo hi a n cap kid) := by
  have h1 := sumTo_mono (fun i => cnt (kid i)) (show i + 1 ≤ n by omega)
  simp only [sumTo] at h1
  have h2 : cnt (.node k s lo hi a n cap kid) = 1 + sumTo (fun i => cnt (kid i)) n := rfl
  omega
theorem badd_any (B p : Nat) : ∀ t : Tr, fitT t = true → cnt t ≤ 2000 → sz t ≤ 900 → AddC B p t := by
  intro t
  induction t with
  | nul => intro hf _ _ W G _ _ hL; exact hL.elim
  | node k s lo hi a n cap kid ih =>
    intro hf hcn hz w G hbl hB hL hn
    show Calls Try.prog 26 #[.pointer (some ⟨p, 0, none⟩), nodeV k s lo hi (.slice a n cap)] w _
    have hc := fits_cases (fitT_fits hf)
    have hct := fits_counts (fitT_fits hf)
    have hk : ∀ i, i < n → AddC B p (kid i) := fun i hi => ih i (fitT_kid hf hi) (Nat.le_trans (kid_cnt hi) hcn) (Nat.le_trans (kid_sz hf hi) hz)
    have hb2 := alloc2_below w (.cells (row8 k s lo hi (.slice a n cap)) 27) (.cells part0 58)
    have hB2 := Nat.le_trans hB hb2.size
    have hbl2 := hbl.below hb2
    have hL2 := hL.below (hb2.mono hB)
    simp only [Tr.k, Tr.n, Tr.lo, Tr.hi] at hc hct
    rcases hc with ⟨h1, h2⟩ | ⟨h1, h2⟩ | ⟨h1 | h1, h2⟩ | ⟨h1, h2, _⟩
    · subst h1; rw [plT_1 (t := .node 1 s lo hi a n cap kid) rfl]; exact add_1 B p G s lo hi a n cap w hbl
    · subst h1; rw [plT_2 (t := .node 2 s lo hi a n cap kid) rfl] at hn ⊢; exact add_2 B p G s lo hi a n cap w _ hbl (addBytes_any B p G s _ hbl2 hB2 (by have : (Pl.one (Tr.node 2 s lo hi a n cap kid).s).n = 1 := rfl; omega))
    · subst h1; rw [plT_3 (t := .node 3 s lo hi a n cap kid) rfl] at hn ⊢; exact add_3 B p G s lo hi a n cap w _ hbl (addCat_any B p G a n cap kid _ hbl2 hB2 (KRow.of hL2 hB2) hk hn)
    · subst h1; rw [plT_4 (t := .node 4 s lo hi a n cap kid) rfl] at hn ⊢; exact add_4 B p G s lo hi a n cap w _ hbl (addAlt_any B p G a n cap kid _ hbl2 hB2 (KRow.of hL2 hB2) hk hn)
    · subst h1
      rw [plT_5 (t := .node 5 s lo hi a n cap kid) rfl] at hn ⊢
      have h0 : 0 < n := by omega
      exact add_5 B p G s lo hi a n cap w _ hbl (addRep_any B p G s lo hi a n cap kid _ (hk 0 h0) hbl2 hB2 hL2 h0 (hct rfl).1 (fitT_kid hf h0) (Nat.le_trans (kid_cnt h0) hcn) (Nat.le_trans (kid_sz hf h0) hz) hn)
end Go.Proofs.Ytbahadgcmaabcaa
