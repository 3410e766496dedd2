/- The document's of and Of of layer 9; Same of the same places. -/
import Derived.Test.YtbahadgcmaabcaaJy
import Derived.Test.YtbahadgcmaabcaaBf
import Derived.Test.YtbahadgcmaabcaaBc
namespace Go.Proofs.Ytbahadgcmaabcaa
open Go.RowKit Go
theorem kid_sz {t : Tr} (h : fitT t = true) {i : Nat} (hi : i < t.n) : sz (t.kid i) ≤ sz t := by
  have hc := fits_cases (fitT_fits h)
  have hk : t.k = 3 ∨ t.k = 4 ∨ t.k = 5 := by omega
  have htp := tim_pos (fitT_fits h) hk
  rw [sz_eq t, htp.1, Nat.zero_add]
  have h1 := sumTo_mono (fun i => sz (t.kid i)) (show i + 1 ≤ t.n by omega)
  simp only [sumTo] at h1
  have h2 : sumTo (fun i => sz (t.kid i)) t.n ≤ timT t * sumTo (fun i => sz (t.kid i)) t.n := Nat.le_mul_of_pos_left _ htp.2.1
  omega
theorem of_any9 : ∀ (t : Tr) (w : World), fitT t = true → sz t ≤ 900 → Lives w w.heap.size t → Calls Try.prog 30 #[t.val] w (PlE w (plT t)) := by
  intro t
  induction t with
  | nul => intro w hf hz hL; exact hL.elim
  | node k s lo hi a n cap kid ih =>
    intro w hf hz hL
    show Calls Try.prog 30 #[nodeV k s lo hi (.slice a n cap)] w _
    have hc := fits_cases (fitT_fits hf)
    have hct := fits_counts (fitT_fits hf)
    have hn : (plT (.node k s lo hi a n cap kid)).n ≤ 900 := by rw [plT_n _ hf]; exact hz
    have hk : ∀ i, i < n → ∀ W, Lives W W.heap.size (kid i) → Calls Try.prog 30 #[(kid i).val] W (PlE W (plT (kid i))) := fun i hi W hW => ih i W (fitT_kid hf hi) (Nat.le_trans (kid_sz hf hi) hz) hW
    simp only [Tr.k, Tr.n, Tr.lo, Tr.hi] at hc hct
    rcases hc with ⟨h1, h2⟩ | ⟨h1, h2⟩ | ⟨h1 | h1, h2⟩ | ⟨h1, h2, _⟩
    · subst h1; rw [plT_1 (t := .node 1 s lo hi a n cap kid) rfl]; exact of_1 s lo hi a n cap w
    · subst h1; rw [plT_2 (t := .node 2 s lo hi a n cap kid) rfl]; exact of_2 s lo hi a n cap w
    · subst h1; rw [plT_3 (t := .node 3 s lo hi a n cap kid) rfl] at hn ⊢; exact of_3 s lo hi a n cap kid w hL hk hn
    · subst h1; rw [plT_4 (t := .node 4 s lo hi a n cap kid) rfl] at hn ⊢; exact of_4 s lo hi a n cap kid w (by omega) hL hk hn
    · subst h1; rw [plT_5 (t := .node 5 s lo hi a n cap kid) rfl] at hn ⊢; exact of_5 s lo hi a n cap kid w (hct rfl).1 (by omega) hL (hk 0 (by omega)) hn
set_option maxRecDepth 100000 in
set_option maxHeartbeats 2000000 in
theorem ints_any9 (l : List Int) (va vb : Value) (w : World) (hl : l.length ≤ 5000) (ha : IL w va l) (hb : IL w vb l) : Calls Try.prog 31 #[va, vb] w fun e w' => e = .returned (.bool true) ∧ Below w.heap.size w w' := by
  have HA := Lib.hid ha
  have HB := Lib.hid hb
  obtain ⟨a1, c1, rfl, _⟩ := ha
  obtain ⟨a2, c2, rfl, _⟩ := hb
  go_enter Try.func31, Try.ntmps31
  go_wp2_with fail
  go_loopw [5] (fun c wr => ∃ j : Nat, j ≤ l.length ∧ c = .int .i64 j ∧ Hid (Below w.heap.size w wr)) (fun c _ => l.length - (intOf c).toNat)
  case atStart => exact ⟨0, by omega, rfl, Lib.hid (Below.refl _ _)⟩
  case round =>
    obtain ⟨j, hj, rfl, HW⟩ := hrel
    by_cases hlt : j < l.length
    · have hlt' : (j : Int) < (l.length : Int) := by omega
      obtain ⟨g, o, c, he, hg, x1⟩ := il_cells2 HA.out HW.out hlt
      obtain ⟨g', o', c', he', hg', x2⟩ := il_cells2 HB.out HW.out hlt
      injection he with he1 _ he3
      injection he' with he1' _ he3'
      subst he1 he1'
      obtain ⟨x, hx⟩ : ∃ x, x = l.getD j 0 := ⟨_, rfl⟩
      rw [← hx] at x1 x2
      clear hx he3 he3'
      go_wp2_with fail
      go_quiet (fail)
      go_wp2
      go_roundw
      case rel => exact ⟨j + 1, hlt, by go_num, Lib.hid (below_drewN HW.out _)⟩
      case measure => simp [intOf]; omega
    · obtain rfl : j = l.length := by omega
      have HZ := HW.out
      go_wp2
      go_ret
      exact ⟨rfl, HZ⟩
set_option maxRecDepth 100000 in
set_option maxHeartbeats 2000000 in
theorem Ints_any9 (l : List Int) (va vb : Value) (w : World) (hl : l.length ≤ 5000) (ha : IL w va l) (hb : IL w vb l) : Calls Try.prog 20 #[va, vb] w fun e w' => e = .returned (.bool true) ∧ Below w.heap.size w w' := by
  have HA := Lib.hid ha
  have HB := Lib.hid hb
  obtain ⟨a1, c1, rfl, _⟩ := ha
  obtain ⟨a2, c2, rfl, _⟩ := hb
  go_enter Try.func20, Try.ntmps20
  go_wp2_with fail
  go_loopw [5] (fun c wr => ∃ j : Nat, j ≤ l.length ∧ c = .int .i64 j ∧ Hid (Below w.heap.size w wr)) (fun c _ => l.length - (intOf c).toNat)
  case atStart => exact ⟨0, by omega, rfl, Lib.hid (Below.refl _ _)⟩
  case round =>
    obtain ⟨j, hj, rfl, HW⟩ := hrel
    by_cases hlt : j < l.length
    · have hlt' : (j : Int) < (l.length : Int) := by omega
      obtain ⟨g, o, c, he, hg, x1⟩ := il_cells2 HA.out HW.out hlt
      obtain ⟨g', o', c', he', hg', x2⟩ := il_cells2 HB.out HW.out hlt
      injection he with he1 _ he3
      injection he' with he1' _ he3'
      subst he1 he1'
      obtain ⟨x, hx⟩ : ∃ x, x = l.getD j 0 := ⟨_, rfl⟩
      rw [← hx] at x1 x2
      clear hx he3 he3'
      go_wp2_with fail
      go_quiet (fail)
      go_wp2
      go_roundw
      case rel => exact ⟨j + 1, hlt, by go_num, Lib.hid (below_drewN HW.out _)⟩
      case measure => simp [intOf]; omega
    · obtain rfl : j = l.length := by omega
      have HZ := HW.out
      go_wp2
      go_ret
      exact ⟨rfl, HZ⟩
end Go.Proofs.Ytbahadgcmaabcaa
