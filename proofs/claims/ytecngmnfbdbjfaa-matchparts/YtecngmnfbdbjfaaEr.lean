/- Contract of written: the steps of a pattern match what it matches. -/
import Derived.Test.YtecngmnfbdbjfaaEp
namespace Go.Proofs.Ytecngmnfbdbjfaa
open Go.RowKit Go.Maps Go
/-- What written gives. -/
def WrP (S : ByteArray) (t : Tr) (P : Nat → Prop) (w : World) (e : Ending) (w' : World) : Prop :=
  ∃ u : St, e = .returned u.val ∧ Built w.heap.size P w' u ∧ rel (nx S) S.size u = mt (nx S) S.size t ∧ (u.k = 1 ↔ sz t = 0) ∧ Below w.heap.size w w'
abbrev zrow : Array Value := row7 0 z0 (.slice none 0 0) (.map none)
theorem wr_fin {S : ByteArray} {t : Tr} {P : Nat → Prop} {w w2 : World} {u : St} (hb : Below w.heap.size w w2) (hz : w2.heap[w.heap.size + 1]? = some (.cells zrow 51 (0, 0))) (hu : Built w.heap.size (fun g => P g ∧ g ≠ w.heap.size + 1) w2 u) (hr : rel (nx S) S.size u = mt (nx S) S.size t) (hk : u.k = 1 ↔ sz t = 0) :
    WrP S t P w (.returned u.val) (putU w2 (w.heap.size + 1) u) :=
  ⟨u, rfl, (hu.put (put7_grown _ _ _ _ _ _) (fun g hg => hg.2) hz).imp (fun g hg => hg.1), hr, hk, hb.trans (put7_below w2 (by omega) _ _ _ _)⟩
theorem wr_bytes {S : ByteArray} {P : Nat → Prop} {w : World} {s : Nat → Int} {lo hi : Int} {a : Option Addr} {n cap : Nat} {kid : Nat → Tr} (hs : Wf s) (o o' : Obj) (hn : n = 0) : WrP S (.node 2 s lo hi a n cap kid) P w (.returned (stepV 2 s (.slice none 0 0) (.map none))) ((w.alloc o).alloc o') := by
  refine ⟨.node 2 s none 0 0 none fun _ => .nul, rfl, ⟨⟨fun h => by omega, fun i h => by omega⟩, ⟨hs, Nat.le_refl _, Nat.zero_le _, fun h => by omega, fun i h => by omega⟩, ⟨Or.inr (Or.inl rfl), fun h => absurd rfl h, fun i h => by omega⟩, ⟨fun _ h => by (cases h), fun i j h1 h2 => by omega, fun i h => by omega⟩, ?_, ?_⟩, ?_, ?_, alloc2_below _ _ _⟩
  · rintro b (h | ⟨i, h, _⟩)
    · cases h
    · omega
  · rintro b (h | ⟨i, h, _⟩)
    · cases h
    · omega
  · rw [rel_byt rfl]
    exact ext2 fun i j => by simp [mt, St.s]
  · have : sz (.node 2 s lo hi a n cap kid) = 1 := by
      rw [sz_eq]
      have e1 : ownT (.node 2 s lo hi a n cap kid) = 1 := if_pos rfl
      have e2 : timT (.node 2 s lo hi a n cap kid) = 0 := (if_neg (show ¬ ((2 : Int) = 3 ∨ (2 : Int) = 4) by omega)).trans (if_neg (show ¬ (2 : Int) = 5 by omega))
      rw [e1, e2]; omega
    rw [this]
    simp [St.k]
/-- What is between: the pattern's box, the result's. -/
theorem wr_boxes {w w1 : World} {o : Obj} {o' : Obj} (hb : Below ((w.alloc o).alloc o').heap.size ((w.alloc o).alloc o') w1) : w1.heap[w.heap.size]? = some o ∧ w1.heap[w.heap.size + 1]? = some o' ∧ Below w.heap.size w w1 ∧ w.heap.size + 2 ≤ w1.heap.size := by
  have hs := hb.size
  simp at hs
  exact ⟨(hb.block _ (by simp <;> omega)).trans (heap_alloc2_old _ _ _), (hb.block _ (by simp)).trans (heap_alloc2_new _ _ _), (alloc2_below w _ _).trans (hb.mono (by simp <;> omega)), by omega⟩
theorem chain_mt {S : ByteArray} {t : Tr} (hk : t.k = 3) : mt (nx S) S.size t = chain (fun q => mt (nx S) S.size (t.kid q)) t.n := by
  cases t with
  | node k s lo hi a n cap kid => obtain rfl : k = 3 := hk; exact ext2 fun i j => by simp [mt, Tr.kid, Tr.n]
  | nul => simp [Tr.k] at hk
theorem alt_mt {S : ByteArray} {t : Tr} (hk : t.k = 4) : mt (nx S) S.size t = fun i j => ∃ q, q < t.n ∧ mt (nx S) S.size (t.kid q) i j := by
  cases t with
  | node k s lo hi a n cap kid => obtain rfl : k = 4 := hk; exact ext2 fun i j => by simp [mt, Tr.kid, Tr.n]
  | nul => simp [Tr.k] at hk
theorem rep_mt {S : ByteArray} {t : Tr} (hk : t.k = 5) : mt (nx S) S.size t = tms (mt (nx S) S.size (t.kid 0)) t.lo t.hi := by
  cases t with
  | node k s lo hi a n cap kid => obtain rfl : k = 5 := hk; exact ext2 fun i j => by simp [mt, Tr.kid, Tr.lo, Tr.hi]
  | nul => simp [Tr.k] at hk
set_option maxRecDepth 100000 in
set_option maxHeartbeats 4000000 in
theorem written_zero (S : ByteArray) (k : Int) (s : Nat → Int) (lo hi : Int) (a : Option Addr) (n cap : Nat) (kid : Nat → Tr) (w : World) (P : Nat → Prop) (hL : Lives w w.heap.size (.node k s lo hi a n cap kid)) (hf : fitT (.node k s lo hi a n cap kid) = true) (hc : cnt (.node k s lo hi a n cap kid) ≤ 2000) (hk : k ≠ 2) (hz : sz (.node k s lo hi a n cap kid) = 0) :
    Calls Try.prog 23 #[nodeV k s lo hi (.slice a n cap)] w (WrP S (.node k s lo hi a n cap kid) P w) := by
  obtain ⟨T, hT⟩ : ∃ T, T = Tr.node k s lo hi a n cap kid := ⟨_, rfl⟩
  rw [← hT] at hL hf hc hz ⊢
  have hval : T.val = nodeV k s lo hi (.slice a n cap) := by rw [hT]; rfl
  have HS : Hid (∀ o o', Calls Try.prog 34 #[nodeV k s lo hi (.slice a n cap)] ((w.alloc o).alloc o') fun e w' => e = .returned (.int .i64 0) ∧ Below ((w.alloc o).alloc o').heap.size ((w.alloc o).alloc o') w') := Lib.hid fun o o' => by
    have := size_any T ((w.alloc o).alloc o') (hL.now (alloc2_below w o o')) hf hc
    rw [hval, hz] at this
    exact this
  have HE : Hid (∀ w2 b, Below w.heap.size w w2 → w2.heap[w.heap.size + 1]? = some (.cells zrow 51 (0, 0)) → w.heap.size + 2 ≤ b → w2.heap[b]? = some (.map #[] 0) → WrP S T P w (.returned (empS b).val) (putU w2 (w.heap.size + 1) (empS b))) := Lib.hid fun w2 b h1 h2 h3 h4 =>
    wr_fin h1 h2 (emp_built (by omega) h4) (by rw [rel_emp rfl, mt_zero _ _ hf hz]) ⟨fun _ => hz, fun _ => rfl⟩
  have hk2 : (k == 2) = false := by simp [hk]
  clear hT hval hL hf hc hz
  go_enter Try.func23, Try.ntmps23
  go_wp2_with fail
  refine (HS.out _ _).mono ?_
  rintro e w1 ⟨rfl, hb1⟩
  obtain ⟨k0, k1, k2, k3⟩ := wr_boxes hb1
  have HK1 := Lib.hid k1
  have HK2 := Lib.hid k2
  clear hb1 k0 k1 k2
  go_wp2_with fail
  refine (newStep_any 1 none 0 0 _).mono ?_
  rintro e w2 ⟨rfl, hb2, hm2, hs2⟩
  have j1 : w2.heap[w.heap.size + 1]? = some (.cells zrow 51 (0, 0)) := (hb2.block _ (by omega)).trans HK1.out
  have HF := Lib.hid (HE.out w2 (w1.heap.size + 1) (HK2.out.trans (hb2.mono (by omega))) j1 (by omega) hm2)
  have HR := Lib.hid (fun v m => stored7 1 z0 v m j1)
  obtain ⟨f0, f1, f2, f3, f4, f5, f6⟩ := frozen7 (s := z0) j1
  obtain ⟨e0, e1, e2, e3, e4, e5, e6⟩ := cell7 (s := z0) j1
  clear hb2 hm2 hs2 j1
  go_wp2_with fail
  exact bodyPost_ret (v := stepV 1 z0 (.slice none 0 0) (.map (some (w1.heap.size + 1)))) (ret7 (s := z0) Try.results23 rfl (HR.out _ _)) rfl HF.out
set_option maxRecDepth 100000 in
set_option maxHeartbeats 4000000 in
theorem written_bytes (S : ByteArray) (s : Nat → Int) (lo hi : Int) (a : Option Addr) (n cap : Nat) (kid : Nat → Tr) (w : World) (P : Nat → Prop) (hs : Wf s) (hn : n = 0) :
    Calls Try.prog 23 #[nodeV 2 s lo hi (.slice a n cap)] w (WrP S (.node 2 s lo hi a n cap kid) P w) := by
  have HF := Lib.hid (fun o o' => wr_bytes (S := S) (P := P) (w := w) (lo := lo) (hi := hi) (a := a) (n := n) (cap := cap) (kid := kid) hs o o' hn)
  clear hn
  go_enter Try.func23, Try.ntmps23
  go_wp2_with fail
  exact bodyPost_ret (v := stepV 2 s (.slice none 0 0) (.map none)) (ret7 (s := s) Try.results23 rfl (heap_alloc2_new _ _ _)) rfl (HF.out _ _)
end Go.Proofs.Ytecngmnfbdbjfaa
