/- Contract of written: the steps of a pattern match what it matches. -/
import Derived.Test.YtnfchlkdppblfaaEp
namespace Go.Proofs.Ytnfchlkdppblfaa
open Go.RowKit Go.Maps Go
/-- What written gives. -/
def WrP (S : ByteArray) (t : Tr) (P : Nat → Prop) (w : World) (e : Ending) (w' : World) : Prop :=
  ∃ u : St, e = .returned u.val ∧ Built w.heap.size P w' u ∧ rel (nx S) S.size u = mt (nx S) S.size t ∧ (u.k = 1 ↔ sz t = 0) ∧ Below w.heap.size w w'
abbrev zrow : Array Value := row7 0 z0 (.slice none 0 0) (.map none)
theorem wr_fin {S : ByteArray} {t : Tr} {P : Nat → Prop} {w w2 : World} {u : St} (hb : Below w.heap.size w w2) (hz : w2.heap[w.heap.size + 1]? = some (.cells zrow 49 (0, 0))) (hu : Built w.heap.size (fun g => P g ∧ g ≠ w.heap.size + 1) w2 u) (hr : rel (nx S) S.size u = mt (nx S) S.size t) (hk : u.k = 1 ↔ sz t = 0) :
    WrP S t P w (.returned u.val) (putU w2 (w.heap.size + 1) u) :=
  ⟨u, rfl, (hu.put (put7_grown _ _ _ _ _ _) (fun g hg => hg.2) hz).imp (fun g hg => hg.1), hr, hk, hb.trans (put7_below w2 (by omega) _ _ _ _)⟩
theorem wr_bytes {S : ByteArray} {P : Nat → Prop} {w : World} {s : Nat → Int} {lo hi : Int} {a : Option Addr} {n cap : Nat} {kid : Nat → Tr} (hs : Wf s) (o o' : Obj) (hn : n = 0) : WrP S (.node 2 s lo hi a n cap kid) P w (.returned (stepV 2 s (.slice none 0 0) (.map none))) ((w.alloc o).alloc o') := by
  refine ⟨.node 2 s none 0 0 none fun _ => .nul, rfl, ⟨⟨fun h => by omega, fun i h => by omega⟩, ⟨hs, Nat.le_refl _, Nat.zero_le _, fun h => by omega, fun i h => by omega⟩, ⟨Or.inr (Or.inl rfl), fun h => absurd rfl h, fun i h => by omega⟩, ⟨fun _ h => by (cases h), fun i j h1 h2 => by omega, fun i h => by omega⟩, ?_, ?_⟩, ?_, ?_, alloc2_below _ _ _⟩
  · rintro b (h | ⟨i, h, _⟩)
    · cases h
    · omega
  · rintro b (h | ⟨i, h, _⟩)
    · cases h
    · omega
  · rw [rel_byt rfl]
    exact ext2 fun i j => by simp [mt, St.s]
  · have : sz (.node 2 s lo hi a n cap kid) = 1 := by
      rw [sz_eq]
      have e1 : ownT (.node 2 s lo hi a n cap kid) = 1 := if_pos rfl
      have e2 : timT (.node 2 s lo hi a n cap kid) = 0 := (if_neg (show ¬ ((2 : Int) = 3 ∨ (2 : Int) = 4) by omega)).trans (if_neg (show ¬ (2 : Int) = 5 by omega))
      rw [e1, e2]; omega
    rw [this]
    simp [St.k]
/-- What is between: the pattern's box, the result's. -/
theorem wr_boxes {w w1 : World} {o : Obj} {o' : Obj} (hb : Below ((w.alloc o).alloc o').heap.size ((w.alloc o).alloc o') w1) : w1.heap[w.heap.size]? = some o ∧ w1.heap[w.heap.size + 1]? = some o' ∧ Below w.heap.size w w1 ∧ w.heap.size + 2 ≤ w1.heap.size := by
  have hs := hb.size
  simp at hs
  exact ⟨(hb.block _ (by simp <;> omega)).trans (heap_alloc2_old _ _ _), (hb.block _ (by simp)).trans (heap_alloc2_new _ _ _), (alloc2_below w _ _).trans (hb.mono (by simp <;> omega)), by omega⟩
theorem chain_mt {S : ByteArray} {t : Tr} (hk : t.k = 3) : mt (nx S) S.size t = chain (fun q => mt (nx S) S.size (t.kid q)) t.n := by
  cases t with
  | node k s lo hi a n cap kid => obtain rfl : k = 3 := hk; exact ext2 fun i j => by simp [mt, Tr.kid, Tr.n]
  | nul => simp [Tr.k] at hk
theorem alt_mt {S : ByteArray} {t : Tr} (hk : t.k = 4) : mt (nx S) S.size t = fun i j => ∃ q, q < t.n ∧ mt (nx S) S.size (t.kid q) i j := by
  cases t with
  | node k s lo hi a n cap kid => obtain rfl : k = 4 := hk; exact ext2 fun i j => by simp [mt, Tr.kid, Tr.n]
  | nul => simp [Tr.k] at hk
theorem rep_mt {S : ByteArray} {t : Tr} (hk : t.k = 5) : mt (nx S) S.size t = tms (mt (nx S) S.size (t.kid 0)) t.lo t.hi := by
  cases t with
  | node k s lo hi a n cap kid => obtain rfl : k = 5 := hk; exact ext2 fun i j => by simp [mt, Tr.kid, Tr.lo, Tr.hi]
  | nul => simp [Tr.k] at hk
set_option maxRecDepth 100000 in
set_option maxHeartbeats 4000000 in
theorem written_zero (S : ByteArray) (k : Int) (s : Nat → Int) (lo hi : Int) (a : Option Addr) (n cap : Nat) (kid : Nat → Tr) (w : World) (P : Nat → Prop) (hL : Lives w w.heap.size (.node k s lo hi a n cap kid)) (hf : fitT (.node k s lo hi a n cap kid) = true) (hc : cnt (.node k s lo hi a n cap kid) ≤ 2000) (hk : k ≠ 2) (hz : sz (.node k s lo hi a n cap kid) = 0) :
    Calls Try.prog 19 #[nodeV k s lo hi (.slice a n cap)] w (WrP S (.node k s lo hi a n cap kid) P w) := by
  obtain ⟨T, hT⟩ : ∃ T, T = Tr.node k s lo hi a n cap kid := ⟨_, rfl⟩
  rw [← hT] at hL hf hc hz ⊢
  have hval : T.val = nodeV k s lo hi (.slice a n cap) := by rw [hT]; rfl
  have HS : Hid (∀ o o', Calls Try.prog 30 #[nodeV k s lo hi (.slice a n cap)] ((w.alloc o).alloc o') fun e w' => e = .returned (.int .i64 0) ∧ Below ((w.alloc o).alloc o').heap.size ((w.alloc o).alloc o') w') := Lib.hid fun o o' => by
    have := size_any T ((w.alloc o).alloc o') (hL.now (alloc2_below w o o')) hf hc
    rw [hval, hz] at this
    exact this
  have HE : Hid (∀ w2 b, Below w.heap.size w w2 → w2.heap[w.heap.size + 1]? = some (.cells zrow 49 (0, 0)) → w.heap.size + 2 ≤ b → w2.heap[b]? = some (.map #[] 0) → WrP S T P w (.returned (empS b).val) (putU w2 (w.heap.size + 1) (empS b))) := Lib.hid fun w2 b h1 h2 h3 h4 =>
    wr_fin h1 h2 (emp_built (by omega) h4) (by rw [rel_emp rfl, mt_zero _ _ hf hz]) ⟨fun _ => hz, fun _ => rfl⟩
  have hk2 : (k == 2) = false := by simp [hk]
  clear hT hval hL hf hc hz
  go_enter Try.func19, Try.ntmps19
  go_wp2_with fail
  refine (HS.out _ _).mono ?_
  rintro e w1 ⟨rfl, hb1⟩
  obtain ⟨k0, k1, k2, k3⟩ := wr_boxes hb1
  have HK1 := Lib.hid k1
  have HK2 := Lib.hid k2
  clear hb1 k0 k1 k2
  go_wp2_with fail
  refine (newStep_any 1 none 0 0 _).mono ?_
  rintro e w2 ⟨rfl, hb2, hm2, hs2⟩
  have j1 : w2.heap[w.heap.size + 1]? = some (.cells zrow 49 (0, 0)) := (hb2.block _ (by omega)).trans HK1.out
  have HF := Lib.hid (HE.out w2 (w1.heap.size + 1) (HK2.out.trans (hb2.mono (by omega))) j1 (by omega) hm2)
  have HR := Lib.hid (fun v m => stored7 1 z0 v m j1)
  obtain ⟨f0, f1, f2, f3, f4, f5, f6⟩ := frozen7 (s := z0) j1
  obtain ⟨e0, e1, e2, e3, e4, e5, e6⟩ := cell7 (s := z0) j1
  clear hb2 hm2 hs2 j1
  go_wp2_with fail
  exact bodyPost_ret (v := stepV 1 z0 (.slice none 0 0) (.map (some (w1.heap.size + 1)))) (ret7 (s := z0) Try.results19 rfl (HR.out _ _)) rfl HF.out
set_option maxRecDepth 100000 in
set_option maxHeartbeats 4000000 in
theorem written_bytes (S : ByteArray) (s : Nat → Int) (lo hi : Int) (a : Option Addr) (n cap : Nat) (kid : Nat → Tr) (w : World) (P : Nat → Prop) (hs : Wf s) (hn : n = 0) :
    Calls Try.prog 19 #[nodeV 2 s lo hi (.slice a n cap)] w (WrP S (.node 2 s lo hi a n cap kid) P w) := by
  have HF := Lib.hid (fun o o' => wr_bytes (S := S) (P := P) (w := w) (lo := lo) (hi := hi) (a := a) (n := n) (cap := cap) (kid := kid) hs o o' hn)
  clear hn
  go_enter Try.func19, Try.ntmps19
  go_wp2_with fail
  exact bodyPost_ret (v := stepV 2 s (.slice none 0 0) (.map none)) (ret7 (s := s) Try.results19 rfl (heap_alloc2_new _ _ _)) rfl (HF.out _ _)
end Go.Proofs.Ytnfchlkdppblfaa
/- Contract of written: Reps, Cats and Alts; all patterns. -/
namespace Go.Proofs.Ytnfchlkdppblfaa
open Go.RowKit Go.Maps Go
theorem join_cps {S : ByteArray} {r : Nat → Nat → Prop} {lo hi : Int} {T : Nat} {kid : Nat → St} (h : ∀ p, p < T → rel (nx S) S.size (kid p) = cps r lo hi T p) (h0 : 0 ≤ lo) (hh : hi = -1 ∨ (lo ≤ hi ∧ 1 ≤ hi)) (hT : (T : Int) = max (max lo hi) 1) : joinR S 3 T kid = tms r lo hi := by
  unfold joinR
  rw [if_pos rfl, chain_congr (s := cps r lo hi T) h, chain_cps r h0 hh hT]
set_option maxRecDepth 100000 in
set_option maxHeartbeats 4000000 in
theorem written_rep (S : ByteArray) (s : Nat → Int) (lo hi : Int) (a : Option Addr) (cap : Nat) (kid : Nat → Tr) (IH : WrOk S (kid 0)) (w : World) (P : Nat → Prop) (hP : ∀ g, w.heap.size ≤ g → P g) (hL : Lives w w.heap.size (.node 5 s lo hi a 1 cap kid)) (hf : fitT (.node 5 s lo hi a 1 cap kid) = true) (hc : cnt (.node 5 s lo hi a 1 cap kid) ≤ 2000) (hz : sz (.node 5 s lo hi a 1 cap kid) ≠ 0) :
    Calls Try.prog 19 #[nodeV 5 s lo hi (.slice a 1 cap)] w (WrP S (.node 5 s lo hi a 1 cap kid) P w) := by
  obtain ⟨ga, off, rfl, hga, hk8⟩ := hL.2.2.2.1 (by omega)
  have hk80 := hk8 0 (by omega)
  rw [Nat.zero_mul, Nat.add_zero] at hk80
  have hcap : 1 ≤ cap ∧ cap ≤ maxLen := ⟨hL.2.1, hL.2.2.1⟩
  have hL0 := hL.2.2.2.2 0 (by omega)
  obtain ⟨T, hT⟩ : ∃ T, T = Tr.node 5 s lo hi (some ⟨ga, off, none⟩) 1 cap kid := ⟨_, rfl⟩
  have hfit := fitT_fits hf
  have hk1 : (1 : Nat) = (Tr.node 5 s lo hi (some ⟨ga, off, none⟩) 1 cap kid).n := rfl
  have hf0 : fitT (kid 0) = true := fitT_kid hf (i := 0) (show (0 : Nat) < 1 by omega)
  have hc0 : cnt (kid 0) ≤ 2000 := Nat.le_trans (cnt_kid (t := .node 5 s lo hi (some ⟨ga, off, none⟩) 1 cap kid) (i := 0) (show (0 : Nat) < 1 by omega)) hc
  have hcs := fits_cases hfit
  have hch := counts_hi hfit rfl
  simp only [Tr.k, Tr.n, Tr.lo, Tr.hi] at hcs hch
  have hz0 : sz (kid 0) ≠ 0 := fun e => hz (by
    have hs := sz_eq (.node 5 s lo hi (some ⟨ga, off, none⟩) 1 cap kid)
    have e1 : ownT (.node 5 s lo hi (some ⟨ga, off, none⟩) 1 cap kid) = 0 := if_neg (show ¬ (5 : Int) = 2 by omega)
    rw [e1] at hs
    have e2 : sumTo (fun i => sz ((Tr.node 5 s lo hi (some ⟨ga, off, none⟩) 1 cap kid).kid i)) (Tr.node 5 s lo hi (some ⟨ga, off, none⟩) 1 cap kid).n = 0 + sz (kid 0) := rfl
    rw [hs, e2, e]; simp)
  obtain ⟨TT, hTT⟩ : ∃ TT : Nat, (TT : Int) = max (max lo hi) 1 := ⟨(max (max lo hi) 1).toNat, by omega⟩
  rw [← hT] at hL hf hc hz ⊢
  have hval : T.val = nodeV 5 s lo hi (.slice (some ⟨ga, off, none⟩) 1 cap) := by rw [hT]; rfl
  obtain ⟨Z, hZ⟩ : ∃ Z : Nat, Z = min 1000000 (sz T) := ⟨_, rfl⟩
  have hZ0 : Z ≠ 0 := by omega
  have HS : Hid (∀ o o', Calls Try.prog 30 #[nodeV 5 s lo hi (.slice (some ⟨ga, off, none⟩) 1 cap)] ((w.alloc o).alloc o') fun e w' => e = .returned (.int .i64 (Z : Int)) ∧ Below ((w.alloc o).alloc o').heap.size ((w.alloc o).alloc o') w') := Lib.hid fun o o' => by
    have := size_any T ((w.alloc o).alloc o') (hL.now (alloc2_below w o o')) hf hc
    rw [hval, ← hZ] at this
    exact this
  have HCO : Hid (∀ w1, Below w.heap.size w w1 → w.heap.size + 2 ≤ w1.heap.size → Calls Try.prog 33 #[nodeV 5 s lo hi (.slice (some ⟨ga, off, none⟩) 1 cap)] w1 fun e w' => ∃ v L, e = .returned v ∧ CopI S (mt (nx S) S.size (kid 0)) lo hi TT (fun g => P g ∧ g ≠ w.heap.size + 1) (row8 5 s lo hi (.slice (some ⟨ga, off, none⟩) 1 cap)) w1 TT v L w') := Lib.hid fun w1 hb hs =>
    copiesOf_any S s lo hi ga off cap (kid 0) IH w1 _ (by omega) (hk80.below hga hb) ((hL0.below hb).mono hb.size) hf0 hc0 hz0 (fun g hg => ⟨hP g (by omega), by omega⟩) (by omega) (by omega) hcap TT hTT
  have HJ : Hid (∀ w1 w2 v L, Below w.heap.size w w1 → w.heap.size + 2 ≤ w1.heap.size → CopI S (mt (nx S) S.size (kid 0)) lo hi TT (fun g => P g ∧ g ≠ w.heap.size + 1) (row8 5 s lo hi (.slice (some ⟨ga, off, none⟩) 1 cap)) w1 TT v L w2 → ∃ g cp, v = .slice (some ⟨g, 0, none⟩) TT cp ∧ Calls Try.prog 32 #[.int .i64 3, .slice (some ⟨g, 0, none⟩) TT cp] w2 (Gives S w1.heap.size (fun g => P g ∧ g ≠ w.heap.size + 1) (mt (nx S) S.size T) w2)) := Lib.hid fun w1 w2 v L hb hs h => by
    obtain ⟨g, cp, hv, hK⟩ := h.row.krow (by have := h.len; omega) (fun g hg => ⟨hP g (by omega), by omega⟩)
    have hj := joinS_any S w1.heap.size _ 3 (Or.inl rfl) g 0 L.length cp (ith L) w2 hK (by have := h.len; omega) h.bel.size
    rw [h.len] at hj hv
    refine ⟨g, cp, hv, ?_⟩
    rw [join_cps (r := mt (nx S) S.size (kid 0)) (lo := lo) (hi := hi) h.rl (by omega) (by omega) hTT] at hj
    rw [hT, rep_mt rfl]
    exact hj
  have HE : Hid (∀ w2 u, Below w.heap.size w w2 → w2.heap[w.heap.size + 1]? = some (.cells zrow 49 (0, 0)) → Built w.heap.size (fun g => P g ∧ g ≠ w.heap.size + 1) w2 u → rel (nx S) S.size u = mt (nx S) S.size T → u.k ≠ 1 → WrP S T P w (.returned u.val) (putU w2 (w.heap.size + 1) u)) := Lib.hid fun w2 u h1 h2 h3 h4 h5 =>
    wr_fin h1 h2 h3 h4 ⟨fun e => absurd e h5, fun e => absurd e hz⟩
  have hzz : ((Z : Int) == 0) = false := by simp; exact hZ0
  have hzn : (Z == 0) = false := by simp; exact hZ0
  have hzi : ¬ (Z : Int) = 0 := by omega
  clear hT hval hL hf hc hz hZ hZ0 hP IH hk8 hk80 hcap hL0 hfit hk1 hf0 hc0 hcs hch hz0 hTT
  go_enter Try.func19, Try.ntmps19
  go_wp2_with fail
  refine (HS.out _ _).mono ?_
  rintro e w1 ⟨rfl, hb1⟩
  obtain ⟨k0, k1, k2, k3⟩ := wr_boxes hb1
  have HK1 := Lib.hid k1
  have HK2 := Lib.hid k2
  have HC := Lib.hid (HCO.out w1 k2 k3)
  obtain ⟨b0, b1, b2, b3, b4, b5, b6, b7⟩ := cell8 (s := s) k0
  clear hb1 k0 k1 k2
  go_wp2_with fail
  refine HC.out.mono ?_
  rintro e w2 ⟨v, L, rfl, hC⟩
  obtain ⟨g, cp, rfl, hJ⟩ := HJ.out w1 w2 v L HK2.out k3 hC
  have HJJ := Lib.hid hJ
  have HBL := Lib.hid hC.bel
  clear hC hJ
  go_wp2_with fail
  refine HJJ.out.mono ?_
  rintro e w3 ⟨u, rfl, hu, hru, hku, hb3⟩
  have hs2 := HBL.out.size
  have hs3 := hb3.size
  have j1 : w3.heap[w.heap.size + 1]? = some (.cells zrow 49 (0, 0)) := (hb3.block _ (by omega)).trans ((HBL.out.block _ (by omega)).trans HK1.out)
  have HF := Lib.hid (HE.out w3 u (HK2.out.trans ((HBL.out.mono (by omega)).trans (hb3.mono (by omega)))) j1 (hu.low (by omega)) hru hku)
  have HR := Lib.hid (stored7 u.k u.s (.slice u.a u.n u.cap) (.map u.m) j1)
  obtain ⟨f0, f1, f2, f3, f4, f5, f6⟩ := frozen7 (s := z0) j1
  obtain ⟨e0, e1, e2, e3, e4, e5, e6⟩ := cell7 (s := z0) j1
  clear hb3 hu hru hku j1 hs2 hs3
  rw [show u.val = stepV u.k u.s (.slice u.a u.n u.cap) (.map u.m) from rfl] at HF ⊢
  go_wp2_with fail
  exact bodyPost_ret (v := stepV u.k u.s (.slice u.a u.n u.cap) (.map u.m)) (ret7 (s := u.s) Try.results19 rfl HR.out) rfl HF.out
end Go.Proofs.Ytnfchlkdppblfaa
