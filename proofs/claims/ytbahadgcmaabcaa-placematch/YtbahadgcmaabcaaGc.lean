/- The document's step of layer 5: what lies in memory; Empty, Bytes. -/
import Derived.Test.YtbahadgcmaabcaaGb
import Derived.Test.YtbahadgcmaabcaaBf
namespace Go.Proofs.Ytbahadgcmaabcaa
open Go.RowKit Go.Maps Go
/-- What step answers. -/
def StpE (S : ByteArray) (t : Tr) (P : Nat → Prop) (w : World) (e : Ending) (w' : World) : Prop := ∃ f, BRet w (S.size + 1) f e w' ∧ Tells S.size f (im (mt (nx S) S.size t) P)
/-- While step runs: the box of its pattern, the row of its answer. -/
structure SB (w : World) (t : Tr) (n : Nat) (fo : Nat → Bool) (W : World) : Prop where
  box : W.heap[w.heap.size]? = some (.cells (row8 t.k t.s t.lo t.hi (.slice t.a t.n t.cap)) 27 (0, 0))
  out : BBlk W (w.heap.size + 1) n fo
  bel : Below w.heap.size w W
theorem SB.below {w : World} {t : Tr} {n : Nat} {fo : Nat → Bool} {W W' : World} (h : SB w t n fo W) (hb : Below W.heap.size W W') : SB w t n fo W' :=
  ⟨(hb.block _ (Array.getElem?_eq_some_iff.1 h.box).1).trans h.box, (hb.block _ (Array.getElem?_eq_some_iff.1 h.out).1).trans h.out, h.bel.trans (hb.mono h.bel.size)⟩
theorem SB.set {w : World} {t : Tr} {n : Nat} {fo : Nat → Bool} {W : World} (h : SB w t n fo W) (i : Nat) (b : Bool) : SB w t n (fun q => if q = i then b else fo q) (W.setCell ⟨w.heap.size + 1, i, none⟩ (.bool b)) :=
  ⟨(Below.heap_setCell _ _ _ _ (by show w.heap.size ≠ w.heap.size + 1; omega)).trans h.box, h.out.set i b, h.bel.setCell (by show w.heap.size ≤ w.heap.size + 1; omega) _⟩
theorem SB.congr {w : World} {t : Tr} {n : Nat} {fo fo' : Nat → Bool} {W : World} (h : SB w t n fo W) (he : ∀ i, i < n → fo i = fo' i) : SB w t n fo' W := ⟨h.box, h.out.congr he, h.bel⟩
theorem SB.ret {w : World} {t : Tr} {n : Nat} {fo : Nat → Bool} {W : World} (h : SB w t n fo W) (hn : n ≤ maxLen) : BRet w n fo (.returned (.slice (some ⟨w.heap.size + 1, 0, none⟩) n n)) W :=
  ⟨_, _, rfl, Nat.le_refl _, hn, h.out.row, h.bel⟩
theorem SB.sz {w : World} {t : Tr} {n : Nat} {fo : Nat → Bool} {W : World} (h : SB w t n fo W) : w.heap.size + 1 < W.heap.size := (Array.getElem?_eq_some_iff.1 h.out).1
/-- The row is overwritten by another. -/
theorem SB.over {w : World} {t : Tr} {n : Nat} {fo f : Nat → Bool} {W W' : World} (h : SB w t n fo W) (hb : BBlk W' (w.heap.size + 1) n f) (hG : W.grownBy W' (some (w.heap.size + 1))) : SB w t n f W' := by
  have hs := h.sz
  exact ⟨(hG.block _ (by omega) (fun e => by have := Option.some.inj e; omega)).trans h.box, hb, h.bel.trans ((Below.refl w.heap.size W).grown hG h.bel.size fun k hk => by have := Option.some.inj hk; omega)⟩
theorem BRow.over {W W' : World} {g gn n : Nat} {f : Nat → Bool} (h : BRow W gn n f) (hb : BBlk W' g n f) (hG : W.grownBy W' (some g)) : BRow W' gn n f := by
  by_cases e : gn = g
  · subst e; exact hb.row
  · have hk := hG.block gn h.1 (fun q => e (Option.some.inj q))
    exact ⟨Nat.lt_of_lt_of_le h.1 hG.size, fun i hi => (World.cell?_of_block (a := ⟨gn, i, none⟩) hk).trans (h.2 i hi)⟩
theorem row_news {w : World} {g n : Nat} {f : Nat → Bool} (h : BRow w g n f) : ∀ j v, (boolsV f n)[j]? = some v → w.cell? ((⟨g, 0, none⟩ : Addr).add j) = some v := fun j v hv => by
  rw [Addr.add_lit, Nat.zero_add]
  have hj : j < n := by have := (List.getElem?_eq_some_iff.1 hv).1; rwa [boolsV_len] at this
  rw [boolsV_get f hj] at hv
  rw [h.2 j hj]; exact hv
set_option maxRecDepth 100000 in
theorem sizeB : (Try.prog.info? 4).map (·.size) = some 1 := by kernel_rfl
/-- 'copy' of a row of bools into a block of as many. -/
theorem wpList_copyB {w : World} {ops : Array Oper} {rest : List Oper} {o : Oper} {a : Act} {Q : Exit → Act → World → Prop} (hgd : o.guard = none) (d s : Operand) (dT sT : TypeId)
    (ho : o.op = .call { callee := .builtin .copy, args := #[d, s], argTypes := #[dT, sT] }) (hu : Try.prog.underlying dT = some (.slice 4)) (g n cd gs cs : Nat) (hd : a.eval d = .slice (some ⟨g, 0, none⟩) n cd) (hs : a.eval s = .slice (some ⟨gs, 0, none⟩) n cs)
    (fo f : Nat → Bool) (hg : BBlk w g n fo) (hr : BRow w gs n f) (h : ∀ w', BBlk w' g n f → w.grownBy w' (some g) → wpList Try.prog ops Q rest (a.put o.dst (goInt n)) w') : wpList Try.prog ops Q (o :: rest) a w := by
  refine wpList_copy_own hgd d s dT sT ho 4 hu sizeB g 0 n cd ⟨gs, 0, none⟩ n cs hd hs _ 4 hg (boolsV f n) (by rw [boolsV_len]; exact (Nat.min_self n).symm) (row_news hr) (by simp [boolsV_len]) (boolsV_one _ _) ?_
  rw [boolsV_len]
  refine h _ ?_ (⟨rfl, rfl, rfl, by simp [World.setRow], fun k _ hk => setRow_other w g k _ (fun e => hk (by rw [e]))⟩)
  have := setRow_heap w g _ ((boolsV fo n).toArray.toList.take 0 ++ (boolsV f n ++ (boolsV fo n).toArray.toList.drop (0 + n))).toArray _ _ hg
  unfold BBlk
  rw [this]
  simp [boolsV_len]
/-- The row is made. -/
theorem SB.made {w W : World} {t : Tr} {n : Nat} {z : Value} (hz : z.cells = #[.bool false]) (hown : W.ownsRow (w.heap.size + 1) 4 1 (.slice (some ⟨w.heap.size + 1, 0, none⟩) n n) n (madeCells z.cells (n * 1)).toList) (hg : (w.alloc (.cells (row8 t.k t.s t.lo t.hi (.slice t.a t.n t.cap)) 27)).grownBy W none) : SB w t n (fun _ => false) W := by
  have hb : Below (w.heap.size + 1) (w.alloc (.cells (row8 t.k t.s t.lo t.hi (.slice t.a t.n t.cap)) 27)) W := ⟨hg.os, hg.tape, hg.output, by simpa using hg.size, fun k hk => hg.block k (by simpa using hk) (fun e => by cases e)⟩
  exact ⟨(hb.block _ (by omega)).trans (heap_alloc_new _ _), made_blk hz hown, (alloc_below w _).trans (hb.mono (by omega))⟩
theorem mt_k1 {c : Nat → Int} {L : Nat} : ∀ {t : Tr}, t.k = 1 → mt c L t = fun i j => i = j
  | .node k s lo hi a n cap kid, h => by
    have h' : k = 1 := h
    funext i j; unfold mt; rw [if_pos h']
  | .nul, h => by cases h
theorem mt_k2 {c : Nat → Int} {L : Nat} : ∀ {t : Tr}, t.k = 2 → mt c L t = bytR c L t.s
  | .node k s lo hi a n cap kid, h => by
    have h' : k = 2 := h
    funext i j; unfold mt; rw [if_neg (by omega), if_pos h']; rfl
  | .nul, h => by cases h
set_option maxRecDepth 100000 in
set_option maxHeartbeats 2000000 in
theorem step_empty (S : ByteArray) (t : Tr) (P : Nat → Prop) (g cap : Nat) (f : Nat → Bool) (w : World) (hk : t.k = 1) (hS : S.size ≤ 10000) (_hc : S.size + 1 ≤ cap) (_hcm : cap ≤ maxLen) (hf : BRow w g (S.size + 1) f) (hT : Tells S.size f P) :
    Calls Try.prog 42 #[t.val, .string S, .slice (some ⟨g, 0, none⟩) (S.size + 1 : Nat) cap] w (StpE S t P w) := by
  obtain ⟨i0, hi, hz0, hz1, hz2⟩ := info_parts infoB
  have HFIN : Hid (∀ (W : World) , SB w t (S.size + 1) f W → StpE S t P w (.returned (.slice (some ⟨w.heap.size + 1, 0, none⟩) (S.size + 1 : Nat) (S.size + 1))) W) := Lib.hid fun W h => ⟨f, h.ret (by unfold maxLen; omega), by rw [mt_k1 hk, im_id]; exact hT⟩
  have HF := Lib.hid hf
  have hq : (t.k == 1) = true := by simp [hk]
  obtain ⟨n, hn⟩ : ∃ n, n = S.size + 1 := ⟨_, rfl⟩
  rw [← hn] at HF HFIN _hc ⊢
  have hn1 : 1 ≤ n := by omega
  have hn2 : n ≤ 10001 := by omega
  rw [show t.val = nodeV t.k t.s t.lo t.hi (.slice t.a t.n t.cap) from rfl]
  clear hk hf hT hn hS
  unfold maxLen at _hcm
  go_enter Try.func42, Try.ntmps42
  go_wp2_with (first
    | (at_make; refine wpList_make_full _ rfl _ _ 71 rfl (w.heap.size + 1) 4 i0 (.bool false) 1 Try.underlying71 hi hz0 hz1 .i64 .i64 _ _ n rfl rfl rfl rfl (by rw [hz2]; omega) (by unfold maxLen; omega) (by simp) ?_; intro w2 hown hgr; have HSB := Lib.hid (SB.made (z := .bool false) (t := t) rfl (by simpa using hown) hgr); clear hown hgr; have c0 := (cell8 (s := t.s) HSB.out.box).1)
    | (refine wpList_copyB rfl _ _ 71 71 rfl Try.underlying71 (w.heap.size + 1) n _ g _ rfl rfl _ f HSB.out.out (HF.out.below HSB.out.bel) ?_; intro w3 hg3 hb3; have HS3 := Lib.hid (HSB.out.over hg3 hb3); clear hg3 hb3))
  go_ret
  exact HFIN.out _ HS3.out
end Go.Proofs.Ytbahadgcmaabcaa
