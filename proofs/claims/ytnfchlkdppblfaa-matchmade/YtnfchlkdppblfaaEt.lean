/- Contract of written: Cats and Alts; all patterns. -/
import Derived.Test.YtnfchlkdppblfaaEs
namespace Go.Proofs.Ytnfchlkdppblfaa
open Go.RowKit Go.Maps Go
theorem kids_pos {S : ByteArray} {t : Tr} {P : Nat → Prop} {w : World} {v : Value} {L : List St} {wr : World} (h : KidsI S t P w t.n v L wr) (hk : t.k = 3 ∨ t.k = 4) (hz : sz t ≠ 0) : 1 ≤ L.length := by
  rcases Nat.eq_zero_or_pos L.length with e | e
  · exfalso
    apply hz
    rw [sz_eq]
    have e1 : ownT t = 0 := if_neg (by omega)
    have e2 : ∀ n, n ≤ t.n → sumTo (fun i => sz (t.kid i)) n = 0 := by
      intro n
      induction n with
      | zero => intro _; rfl
      | succ n ih => intro hn; simp only [sumTo]; rw [ih (by omega), h.nz e n (by omega)]
    rw [e1, e2 t.n (Nat.le_refl _)]
    simp
  · exact e
theorem join_cat {S : ByteArray} {t : Tr} {P : Nat → Prop} {w : World} {v : Value} {L : List St} {wr : World} (h : KidsI S t P w t.n v L wr) (hk : t.k = 3) : joinR S 3 L.length (ith L) = mt (nx S) S.size t := by
  unfold joinR
  rw [if_pos rfl, chain_mt hk]
  exact h.ch
theorem join_alt {S : ByteArray} {t : Tr} {P : Nat → Prop} {w : World} {v : Value} {L : List St} {wr : World} (h : KidsI S t P w t.n v L wr) (hk : t.k = 4) (hl : ¬ L.length < t.n) : joinR S 4 L.length (ith L) = mt (nx S) S.size t := by
  unfold joinR
  rw [if_neg (by omega), alt_mt hk]
  exact ext2 fun i j => (show (∃ p, p < L.length ∧ rel (nx S) S.size (ith L p) i j) ↔ _ from by
    rw [← h.al i j]
    exact ⟨Or.inl, fun q => q.elim id fun q => absurd q.1 hl⟩)
theorem join_opt {S : ByteArray} {t : Tr} {P : Nat → Prop} {w : World} {v : Value} {L : List St} {wr : World} (h : KidsI S t P w t.n v L wr) (hk : t.k = 4) (hl : L.length < t.n) : opt (joinR S 4 L.length (ith L)) = mt (nx S) S.size t := by
  rw [alt_mt hk]
  refine ext2 fun i j => ?_
  rw [← h.al i j]
  unfold joinR opt
  rw [if_neg (by omega)]
  exact ⟨fun q => q.elim Or.inl fun q => Or.inr ⟨hl, q⟩, fun q => q.elim Or.inl fun q => Or.inr q.2⟩
set_option maxRecDepth 100000 in
set_option maxHeartbeats 600000 in
theorem written_many (S : ByteArray) (k : Int) (hk : k = 3 ∨ k = 4) (s : Nat → Int) (lo hi : Int) (a : Option Addr) (n cap : Nat) (kid : Nat → Tr) (IH : ∀ i, i < n → WrOk S (kid i)) (w : World) (P : Nat → Prop) (hP : ∀ g, w.heap.size ≤ g → P g) (hL : Lives w w.heap.size (.node k s lo hi a n cap kid)) (hf : fitT (.node k s lo hi a n cap kid) = true) (hc : cnt (.node k s lo hi a n cap kid) ≤ 2000) (hz : sz (.node k s lo hi a n cap kid) ≠ 0) (hn : 2 ≤ n) :
    Calls Try.prog 19 #[nodeV k s lo hi (.slice a n cap)] w (WrP S (.node k s lo hi a n cap kid) P w) := by
  have hcap : n ≤ cap ∧ cap ≤ maxLen := ⟨hL.2.1, hL.2.2.1⟩
  obtain ⟨T, hT⟩ : ∃ T, T = Tr.node k s lo hi a n cap kid := ⟨_, rfl⟩
  have hTk : T.k = k := by rw [hT]; rfl
  have hTn : T.n = n := by rw [hT]; rfl
  have hIH : ∀ i, i < T.n → WrOk S (T.kid i) := by rw [hT]; exact IH
  rw [← hT] at hL hf hc hz ⊢
  have hval : T.val = nodeV k s lo hi (.slice a n cap) := by rw [hT]; rfl
  obtain ⟨Z, hZ⟩ : ∃ Z : Nat, Z = min 1000000 (sz T) := ⟨_, rfl⟩
  have hZ0 : Z ≠ 0 := by omega
  have HS : Hid (∀ o o', Calls Try.prog 30 #[nodeV k s lo hi (.slice a n cap)] ((w.alloc o).alloc o') fun e w' => e = .returned (.int .i64 (Z : Int)) ∧ Below ((w.alloc o).alloc o').heap.size ((w.alloc o).alloc o') w') := Lib.hid fun o o' => by
    have := size_any T ((w.alloc o).alloc o') (hL.now (alloc2_below w o o')) hf hc
    rw [hval, ← hZ] at this
    exact this
  have HCO : Hid (∀ w1, Below w.heap.size w w1 → w.heap.size + 2 ≤ w1.heap.size → Calls Try.prog 34 #[nodeV k s lo hi (.slice a n cap)] w1 fun e w' => ∃ v L, e = .returned v ∧ KidsI S T (fun g => P g ∧ g ≠ w.heap.size + 1) w1 T.n v L w') := Lib.hid fun w1 hb hs => by
    have := kidsOf_any S T hIH w1 (fun g => P g ∧ g ≠ w.heap.size + 1) ((hL.below hb).mono hb.size) hf hc (fun g hg => ⟨hP g (by omega), by omega⟩) (by omega)
    rw [hval] at this
    exact this
  have HJ : Hid (∀ w1 w2 v L, Below w.heap.size w w1 → w.heap.size + 2 ≤ w1.heap.size → KidsI S T (fun g => P g ∧ g ≠ w.heap.size + 1) w1 T.n v L w2 → ∃ g cp, v = .slice (some ⟨g, 0, none⟩) L.length cp ∧ L.length ≤ n ∧ L.length ≤ 9223372036854775807 ∧ Calls Try.prog 32 #[.int .i64 k, .slice (some ⟨g, 0, none⟩) L.length cp] w2 (Gives S w1.heap.size (fun g => P g ∧ g ≠ w.heap.size + 1) (joinR S k L.length (ith L)) w2)) := Lib.hid fun w1 w2 v L hb hs h => by
    have h1 := kids_pos h (by omega) hz
    obtain ⟨g, cp, hv, hK⟩ := h.row.krow h1 (fun g hg => ⟨hP g (by omega), by omega⟩)
    exact ⟨g, cp, hv, by have := h.len; omega, by have := h.len; have := hcap; unfold maxLen at this; omega, joinS_any S w1.heap.size _ k hk g 0 L.length cp (ith L) w2 hK h1 h.bel.size⟩
  have HPP : Hid (∀ w1 : World, w.heap.size + 2 ≤ w1.heap.size → ∀ g, w1.heap.size ≤ g → P g ∧ g ≠ w.heap.size + 1) := Lib.hid fun w1 hs g hg => ⟨hP g (by omega), by omega⟩
  have HR3 : Hid (k = 3 → ∀ w1 v L w2, KidsI S T (fun g => P g ∧ g ≠ w.heap.size + 1) w1 T.n v L w2 → joinR S k L.length (ith L) = mt (nx S) S.size T) := Lib.hid fun e w1 v L w2 h => by subst e; exact join_cat h hTk
  have HR4 : Hid (k = 4 → ∀ w1 v L w2, KidsI S T (fun g => P g ∧ g ≠ w.heap.size + 1) w1 T.n v L w2 → ¬ L.length < n → joinR S k L.length (ith L) = mt (nx S) S.size T) := Lib.hid fun e w1 v L w2 h hl => by subst e; exact join_alt h hTk (by rw [hTn]; exact hl)
  have HR5 : Hid (k = 4 → ∀ w1 v L w2, KidsI S T (fun g => P g ∧ g ≠ w.heap.size + 1) w1 T.n v L w2 → L.length < n → opt (joinR S k L.length (ith L)) = mt (nx S) S.size T) := Lib.hid fun e w1 v L w2 h hl => by subst e; exact join_opt h hTk (by rw [hTn]; exact hl)
  have HE : Hid (∀ w2 u, Below w.heap.size w w2 → w2.heap[w.heap.size + 1]? = some (.cells zrow 49 (0, 0)) → Built w.heap.size (fun g => P g ∧ g ≠ w.heap.size + 1) w2 u → rel (nx S) S.size u = mt (nx S) S.size T → u.k ≠ 1 → WrP S T P w (.returned u.val) (putU w2 (w.heap.size + 1) u)) := Lib.hid fun w2 u h1 h2 h3 h4 h5 =>
    wr_fin h1 h2 h3 h4 ⟨fun e => absurd e h5, fun e => absurd e hz⟩
  have hzz : ((Z : Int) == 0) = false := by simp; exact hZ0
  have hzn : (Z == 0) = false := by simp; exact hZ0
  have hzi : ¬ (Z : Int) = 0 := by omega
  have hnm : n ≤ 9223372036854775807 := by have := hcap; unfold maxLen at this; omega
  have HKK := Lib.hid hk
  have hk2 : (k == 2) = false := by simp; omega
  have hk5 : (k == 5) = false := by simp; omega
  clear hT hval hL hf hc hz hZ hZ0 hP IH hcap hTk hTn hIH hk
  go_enter Try.func19, Try.ntmps19
  go_wp2_with fail
  refine (HS.out _ _).mono ?_
  rintro e w1 ⟨rfl, hb1⟩
  obtain ⟨k0, k1, k2, k3⟩ := wr_boxes hb1
  have HK1 := Lib.hid k1
  have HK2 := Lib.hid k2
  have HC := Lib.hid (HCO.out w1 k2 k3)
  have HK0 := Lib.hid k0
  obtain ⟨b0, b1, b2, b3, b4, b5, b6, b7⟩ := cell8 (s := s) k0
  clear hb1 k0 k1 k2
  go_wp2_with fail
  refine HC.out.mono ?_
  rintro e w2 ⟨v, L, rfl, hC⟩
  obtain ⟨g, cp, rfl, hln, hlm, hJ⟩ := HJ.out w1 w2 v L HK2.out k3 hC
  have HJJ := Lib.hid hJ
  have HBL := Lib.hid hC.bel
  have HCC := Lib.hid hC
  clear hC hJ b0 b1 b2 b3 b4 b5 b6 b7
  obtain ⟨b0, b1, b2, b3, b4, b5, b6, b7⟩ := cell8 (s := s) ((HBL.out.block w.heap.size (by omega)).trans HK0.out)
  go_wp2_with fail
  refine HJJ.out.mono ?_
  rintro e w3 ⟨u, rfl, hu, hru, hku, hb3⟩
  have hs2 := HBL.out.size
  have hs3 := hb3.size
  have HB13 : Hid (Below w1.heap.size w1 w3) := Lib.hid (HBL.out.trans (hb3.mono (by omega)))
  have HBX := Lib.hid (fun w4 (h : Below w1.heap.size w1 w4) => cell8 (s := s) ((h.block w.heap.size (by omega)).trans HK0.out))
  have HJX : Hid (∀ w4, Below w1.heap.size w1 w4 → w4.heap[w.heap.size + 1]? = some (.cells zrow 49 (0, 0))) := Lib.hid (fun w4 (h : Below w1.heap.size w1 w4) => (h.block (w.heap.size + 1) (by omega)).trans HK1.out)
  have HB0 := Lib.hid (BoxI.start (S := S) (wr := w1) HB13.out hu hru hku)
  have hx1 : w.heap.size < w3.heap.size := by omega
  have hx2 : w.heap.size + 1 < w3.heap.size := by omega
  have hxn : ¬ w3.heap.size = w.heap.size := by omega
  have hxm : ¬ w.heap.size = w3.heap.size := by omega
  have hxo : ¬ w3.heap.size = w.heap.size + 1 := by omega
  have hxp : ¬ w.heap.size + 1 = w3.heap.size := by omega
  clear b0 b1 b2 b3 b4 b5 b6 b7 hu hru hku hb3
  obtain ⟨b0, b1, b2, b3, b4, b5, b6, b7⟩ := HBX.out w3 HB13.out
  rw [show u.val = stepV u.k u.s (.slice u.a u.n u.cap) (.map u.m) from rfl]
  have NOOPT : Hid (joinR S k L.length (ith L) = mt (nx S) S.size T → WrP S T P w (.returned u.val) (putU (w3.alloc (.cells (rowU u) 49)) (w.heap.size + 1) u)) := Lib.hid fun e =>
    HE.out _ u (HK2.out.trans (HB0.out.bel.mono (by omega))) (HJX.out _ HB0.out.bel) (((HB0.out.bt).imp (fun g hg => hg.1)).low (by omega)) (HB0.out.rl.trans e) HB0.out.nk
  have J1 := Lib.hid (HJX.out _ HB0.out.bel)
  have HR := Lib.hid (stored7 (z := z0) u.k u.s (.slice u.a u.n u.cap) (.map u.m) J1.out)
  rcases HKK.out with hk3 | hk4
  · have HF := Lib.hid (NOOPT.out (HR3.out hk3 w1 _ L w2 HCC.out))
    have hk4 : (k == 4) = false := by simp; omega
    clear hk3
    go_wp2_with (first | (refine store7 rfl _ _ rfl (w.heap.size + 1) u.k u.s u.a u.n u.cap u.m rfl rfl J1.out ?_; intro W hW; go_frame))
    subst hW
    exact bodyPost_ret (v := stepV u.k u.s (.slice u.a u.n u.cap) (.map u.m)) (ret7 (s := u.s) Try.results19 rfl HR.out) rfl HF.out
  · have hk4' : (k == 4) = true := by simp [hk4]
    have HK4 := Lib.hid hk4
    clear hk4
    by_cases hl : L.length < n
    · have hl' : (L.length : Int) < (n : Int) := by omega
      have HOE := Lib.hid (HR5.out HK4.out w1 _ L w2 HCC.out hl)
      have HO := Lib.hid (HB0.out.opt (HPP.out w1 k3))
      clear hl
      go_wp2_with fail
      refine HO.out.mono ?_
      rintro e w4 ⟨v, rfl, hx, HP⟩
      have HX := Lib.hid hx
      clear hx
      rw [show v.val = stepV v.k v.s (.slice v.a v.n v.cap) (.map v.m) from rfl]
      clear b0 b1 b2 b3 b4 b5 b6 b7
      go_wp2_with (first
        | (refine store7 rfl _ _ rfl w3.heap.size v.k v.s v.a v.n v.cap v.m rfl rfl HX.out ?_; intro W1 hW; have HB1 := Lib.hid (BoxI.eq hW HP); clear hW HP; obtain ⟨e0, e1, e2, e3, e4, e5, e6⟩ := cell7 (s := v.s) HB1.out.box; go_frame)
        | (refine store7 rfl _ _ rfl (w.heap.size + 1) v.k v.s v.a v.n v.cap v.m rfl rfl (HJX.out _ HB1.out.bel) ?_; intro W hW; go_frame))
      subst hW
      have HF : WrP S T P w (.returned v.val) (putU W1 (w.heap.size + 1) v) := HE.out _ v (HK2.out.trans (HB1.out.bel.mono (by omega))) (HJX.out _ HB1.out.bel) (((HB1.out.bt).imp (fun g hg => hg.1)).low (by omega)) (HB1.out.rl.trans HOE.out) HB1.out.nk
      exact bodyPost_ret (v := stepV v.k v.s (.slice v.a v.n v.cap) (.map v.m)) (ret7 (s := v.s) Try.results19 rfl (stored7 (z := z0) v.k v.s (.slice v.a v.n v.cap) (.map v.m) (HJX.out _ HB1.out.bel))) rfl HF
    · have HF := Lib.hid (NOOPT.out (HR4.out HK4.out w1 _ L w2 HCC.out hl))
      have hle : L.length = n := by omega
      rw [hle]
      clear hl hle hln hlm
      go_wp2_with (first | (refine store7 rfl _ _ rfl (w.heap.size + 1) u.k u.s u.a u.n u.cap u.m rfl rfl J1.out ?_; intro W hW; go_frame))
      subst hW
      exact bodyPost_ret (v := stepV u.k u.s (.slice u.a u.n u.cap) (.map u.m)) (ret7 (s := u.s) Try.results19 rfl HR.out) rfl HF.out
end Go.Proofs.Ytnfchlkdppblfaa
