/- Contracts of the document's own Text and Print of layer 3. -/
import Derived.Test.YtadiphijfbpcnaaDoorBj
namespace Go.Proofs.YtadiphijfbpcnaaDoor
open Go.RowKit
/-- Text, of any pattern as in the table. -/
theorem text_any : ∀ t : Tr, fitT t = true → cnt t ≤ 2000 → Texts t := by
  intro t
  induction t with
  | nul => intro hf; cases hf
  | node k s lo hi a n cap kid ih =>
  intro hf hcn w hL
  have hc := fits_cases (fitT_fits hf)
  simp only [Tr.k, Tr.n, Tr.lo, Tr.hi] at hc
  have hck : ∀ i, i < n → cnt (kid i) ≤ 2000 := fun i hi => by
    have h1 := sumTo_mono (fun i => cnt (kid i)) (show i + 1 ≤ n by omega)
    simp only [sumTo] at h1
    simp only [cnt] at hcn
    omega
  have ih' : ∀ i, i < n → Texts (kid i) := fun i hi => ih i (fitT_kid hf hi) (hck i hi)
  rcases hc with ⟨rfl, _⟩ | ⟨rfl, _⟩ | ⟨hk, _⟩ | ⟨rfl, rfl, h1, h2, h3, h4⟩
  · exact text_empty s lo hi _ w
  · exact text_bytes s hL.1 (fits_set (fitT_fits hf) rfl) lo hi _ w
  · rw [txt_many (by omega) (by omega), if_neg (by omega), List.append_nil]
    rcases hk with rfl | rfl
    · exact text_3 s lo hi a n cap kid ih' hck hcn w hL
    · exact text_4 s lo hi a n cap kid ih' hck hcn w hL
  · rw [txt_many (by omega) (by omega), if_pos rfl]
    obtain ⟨g, off, rfl, hg, hat⟩ := hL.2.2.2.1 (by omega)
    have hkf := fits_cases (fitT_fits (fitT_kid (i := 0) hf (by show 0 < 1; omega)))
    have := text_rep s lo hi h1 h2 h3 h4 g off cap (kid 0) (by have : (Tr.node 5 s lo hi (some ⟨g, off, none⟩) 1 cap kid).kid 0 = kid 0 := rfl; rw [this] at hkf; omega) (ih' 0 (by omega)) (hck 0 (by omega)) w hg (hat 0 (by omega)).zero (hL.2.2.2.2 0 (by omega))
    have e : catTo (pieceT 5 kid) 1 = encT (txt (kid 0)) (enclB (kid 0).k 5) := by simp [catTo, pieceT]
    rw [e]
    exact this
set_option maxRecDepth 100000 in
set_option maxHeartbeats 1000000 in
theorem refprint_any (t : Tr) (w : World) (hL : Lives w w.heap.size t) : Calls Tryd.prog 20 #[t.val] w fun e w' => e = .returned (printV t) ∧ Below w.heap.size w w' := by
  have HL := Lib.hid hL
  clear hL
  show Calls Tryd.prog 20 #[nodeV t.k t.s t.lo t.hi (.slice t.a t.n t.cap)] w _
  obtain ⟨r, hr⟩ : ∃ r, r = rightB t := ⟨_, rfl⟩
  unfold printV
  rw [← hr]
  have HR := Lib.hid hr
  clear hr
  go_enter Tryd.func20, Tryd.ntmps20
  go_wp2_with fail
  refine (refRight_any t _ (HL.out.now (alloc_below _ _))).mono ?_
  rintro e w1 ⟨rfl, hb1⟩
  rw [← HR.out]
  have HB1 := Lib.hid (box_below hb1)
  obtain ⟨c0, c1, c2, c3, c4, c5, c6, c7⟩ := cell8 (box_kept hb1)
  clear hb1
  cases r
  · go_wp2
    go_ret2
    exact ⟨rfl, HB1.out⟩
  · have HRR := Lib.hid (show okT t 20 = true ∧ cnt t ≤ 1000 by
      have := HR.out; unfold rightB at this; have q := this.symm; simp only [Bool.and_eq_true, decide_eq_true_eq] at q; exact ⟨q.1, q.2.1⟩)
    go_wp2_with fail
    refine (text_any t (fit_of_ok HRR.out.1) (by have := HRR.out.2; omega) w1 (HL.out.now HB1.out)).mono ?_
    rintro e w2 ⟨rfl, hb2⟩
    have HB2 := Lib.hid (HB1.out.trans (hb2.mono HB1.out.size))
    clear hb2
    go_wp2
    go_ret2
    exact ⟨by first | rfl | simp, HB2.out⟩
end Go.Proofs.YtadiphijfbpcnaaDoor
