/- The landed code's iterator over the lines of a specification. -/
import Derived.Test.YtnfchlkdppblfaaDoorCo
import Derived.RangeFuncNested
import Derived.RangeFuncBound
import Derived.RangeFuncCalls
import Derived.RangeFuncLeaves
import Derived.Shelf.Abstract
import Derived.Shelf.RegionOpen
import Derived.WalkKit
import Derived.OwnWalkIn
import Derived.TacticsInMore
import Derived.LoopNIn
import Derived.LoopIn
import Derived.Test.YtnfchlkdppblfaaDoorCn
namespace Go.Proofs.YtnfchlkdppblfaaDoor
open Go.RowKit Go Go.Shelf
attribute [local go_sem] Oper.semAt_some
theorem grown_of {w w' : World} (h : Below w.heap.size w w') : w.grownBy w' none := ⟨h.os, h.tape, h.output, h.size, fun k hk _ => h.block k hk⟩
theorem wpListIn_load42 {F : Fence} {n : Nat} {ops : Array Oper} {rest : List Oper} {o : Oper} {a : Act} {w : World} {Q : Exit → Act → World → Prop} (x : Operand) (ho : o.op = .load 46 x) (hgd : o.guard = none)
    (g off : Nat) (hx : a.eval x = .pointer (some ⟨g, off, none⟩)) (r : Rl) (hl : (loadCells ⟨g, off, none⟩ (row22 r).toList.length).run Tryd.prog w = .ok (row22 r).toList.toArray w)
    (h : wpListIn F n Tryd.prog ops Q rest (a.put o.dst (ruleV r)) w) : wpListIn F n Tryd.prog ops Q (o :: rest) a w := by
  refine wpListIn_plain hgd fun K hK => ?_
  unfold Oper.wpIn
  refine ⟨?_, ?_⟩
  · simp [Oper.about, ho]
  · rw [Oper.semAt_plain F _ _ (by rw [ho]; intro c hc'; cases hc'), exec_load42 (ρ := a.eval) (o := o) x ho g off hx r hl]
    exact hK _ _ h
set_option maxRecDepth 100000 in
theorem wpListIn_store42 {F : Fence} {n : Nat} {ops : Array Oper} {rest : List Oper} {o : Oper} {a : Act} {w : World} {c : Array Value} {Q : Exit → Act → World → Prop} (x v : Operand) (ho : o.op = .store 46 x v) (hd : o.dst = none) (hgd : o.guard = none)
    (n0 : Nat) (hx : a.eval x = .pointer (some ⟨n0, 0, none⟩)) (hn : n0 = w.heap.size) (hc : c.size = 22) (r : Rl) (hv : a.eval v = ruleV r)
    (h : wpListIn F n Tryd.prog ops Q rest a (w.alloc (.cells (row22 r) 46))) : wpListIn F n Tryd.prog ops Q (o :: rest) a (w.alloc (.cells c 46)) := by
  subst hn
  refine wpListIn_plain hgd fun K hK => ?_
  unfold Oper.wpIn
  refine ⟨?_, ?_⟩
  · simp [Oper.about, ho]
  · rw [Oper.semAt_plain F _ _ (by rw [ho]; intro c hc'; cases hc')]
    have hst := run_storeAt_new (P := Tryd.prog) w 46 c (row22 r) info42 (hc.trans rfl) (by simp [Value.oneCell'])
    unfold execOp
    simp only [ho, hx, hv, Sem.run_bind, Sem.run_pure, hst, Result.andThen_ok]
    exact hK _ _ (by rw [hd]; exact h)
/-- A line, none too long. -/
abbrev Ln := { x : List UInt8 // x.length ≤ 6000400 }
def lnV (x : Ln) : Array Value := #[.string ⟨x.1.toArray⟩]
def condLs (c : Nat → Cn) (j : Nat) : List (List UInt8) := (List.range j).map fun i => condT (c (i + 1))
def ruleLs (r : Nat → Rl) (c : Nat → Cn) (j : Nat) : List (List UInt8) := (List.range j).map fun i => ruleT (r i) c
def dftLs (d : Bool) : List (List UInt8) := if d = true then [] else [[37, 110, 111, 100, 101, 102, 97, 117, 108, 116]]
/-- The lines of a specification's text. -/
def linesT (s : Sp) : List (List UInt8) := condLs s.cs.c (s.cs.n - 1) ++ (dftLs s.dft ++ ([[37, 37]] ++ ruleLs s.rs.r s.cs.c s.rs.n))
theorem condLs_succ (c : Nat → Cn) (j : Nat) : condLs c (j + 1) = condLs c j ++ [condT (c (j + 1))] := by simp [condLs, List.range_succ]
theorem ruleLs_succ (r : Nat → Rl) (c : Nat → Cn) (j : Nat) : ruleLs r c (j + 1) = ruleLs r c j ++ [ruleT (r j) c] := by simp [ruleLs, List.range_succ]
theorem condT_len {c : Cn} (h : c.nm.size ≤ 12) : (condT c).length ≤ 15 := by unfold condT; rw [List.length_append, nmL_len]; simp; omega
theorem spec_parts {s : Sp} (h : specB s = true) : 1 ≤ s.cs.n ∧ s.cs.n ≤ 8 ∧ (∀ i, i < s.cs.n → (s.cs.c i).nm.size ≤ 12) ∧ s.rs.n ≤ 40 ∧ ∀ i, i < s.rs.n → ruleB (s.rs.r i) s.cs.n = true := by
  unfold specB condsB at h
  simp only [Bool.and_eq_true, decide_eq_true_eq] at h
  refine ⟨h.1.1, h.1.2.1, fun i hi => ?_, h.2.1, fun i hi => allTo_iff.1 h.2.2 i hi⟩
  have := allTo_iff.1 h.1.2.2.2 i hi
  simp only [Bool.and_eq_true] at this
  have h2 := this.1
  unfold nameB at h2
  simp only [Bool.and_eq_true, decide_eq_true_eq] at h2
  exact h2.2.1
/-- What a round keeps: what the specification leans on, and its box. -/
def KpB (n Bn : Nat) (W W' : World) : Prop := Below n W W' ∧ W'.heap[Bn]? = W.heap[Bn]?
theorem lt_of_some {w : World} {b : Nat} {o : Obj} (h : w.heap[b]? = some o) : b < w.heap.size := (Array.getElem?_eq_some_iff.1 h).1
theorem KpB.trans {n Bn : Nat} {A B C : World} (h : KpB n Bn A B) (k : KpB n Bn B C) : KpB n Bn A C := ⟨h.1.trans k.1, k.2.trans h.2⟩
theorem KpB.of {n Bn : Nat} {A B : World} (h : Below A.heap.size A B) (hn : n ≤ A.heap.size) (hb : Bn < A.heap.size) : KpB n Bn A B := ⟨h.mono hn, h.block _ hb⟩
theorem ruleT_len {r : Rl} {c : Nat → Cn} {n : Nat} (hr : ruleB r n = true) (hn : n ≤ 8) (hn1 : 1 ≤ n) (hnm : ∀ i, i < n → (c i).nm.size ≤ 12) : (ruleT r c).length ≤ 6000400 := by
  unfold ruleB at hr
  simp only [Bool.and_eq_true] at hr
  obtain ⟨hs, hac, hp⟩ := hr
  have hk : r.to.toNat < n := by
    unfold actB at hac
    split at hac
    · have := of_decide_eq_true hac; omega
    · split at hac
      · have := ixB_iff.1 hac; omega
      · cases hac
  have h1 := starts_len hs hn hnm
  have h2 := match_len hp
  have h3 := act_len (act := r.act) (l := nmL (c r.to.toNat)) (by rw [nmL_len]; exact hnm _ hk)
  unfold ruleT
  simp only [List.length_append, List.length_cons, List.length_nil]
  omega
set_option maxRecDepth 100000 in
set_option maxHeartbeats 12000000 in
theorem lines1_in (m : Nat) (hm : 1 ≤ m) (l Bn n₀ : Nat) (s : Sp) (J Jx : List Ln → World → Prop) (W : World) (hJ : AbidesFrom W.heap.size J)
    (hY : ∀ pre x W1, J pre W1 → pre.length < (linesT s).length → YieldAt Fence.wide (m - 1) Tryd.prog l (lnV x) W1 fun e W' =>
      (e = .returned (.bool true) ∧ J (pre ++ [x]) W' ∧ KpB n₀ Bn W1 W') ∨ (e = .returned (.bool false) ∧ Jx (pre ++ [x]) W'))
    (hBn : W.heap[Bn]? = some (.cells (row3 s) 38 (0, 0))) (hC : CsIn W n₀ s.cs) (hR : RsIn W n₀ s.rs) (hn0 : n₀ ≤ W.heap.size) (hs : specB s = true) (hSm : Sm s.rs) (h0 : J [] W) :
    CallsIn Fence.wide m Tryd.prog 54 #[.func (.yield l) #[] #[], .pointer (some ⟨Bn, 0, none⟩)] W fun e W' => (∃ v, e = .returned v) ∧
      ((∃ xs : List Ln, xs.map (·.1) = linesT s ∧ J xs W') ∨ (∃ pre, Jx pre W')) := by
  refine callsIn_of_wp Tryd.func54 rfl trivial ?_ rfl
  simp only [Tryd.ntmps54, List.size_toArray, List.length_cons, List.length_nil, Nat.reduceAdd, Nat.reduceSub, Array.replicate_succ, Array.replicate_zero, List.push_toArray, List.append_toArray, List.nil_append, List.cons_append]
  obtain ⟨⟨ka, kn, kc, kd⟩, dft, ⟨ra, rn, rc, rl⟩⟩ := s
  obtain ⟨hk1, hk8, hk12, hr40, hru⟩ := spec_parts hs
  have hkc := hC.1
  have hkm := hC.2.1
  obtain ⟨g, off, hga, hg, hca⟩ := hC.2.2.1 hk1
  dsimp only at hk1 hk8 hk12 hr40 hru hkc hkm hga hca
  unfold maxLen at hkm
  subst hga
  obtain ⟨c0, c1, c2⟩ := cell3 hBn
  dsimp only at c0 c1 c2
  have i1 : (1 : Int) ≤ (kn : Int) := by omega
  have i2 : (1 : Int) ≤ (kc : Int) := by omega
  have i3 : (kn : Int) ≤ (kc : Int) := by omega
  have i5 : 1 ≤ kc := by omega
  have HC := Lib.hid hC
  have HR := Lib.hid hR
  have HK12 := Lib.hid hk12
  have HRU := Lib.hid hru
  have HSM := Lib.hid hSm
  have HCA := Lib.hid hca
  have HJA := Lib.hid hJ
  have HYY := Lib.hid hY
  have HBN := Lib.hid hBn
  have hbW : Bn < W.heap.size := lt_of_some hBn
  clear hC hR hk12 hru hSm hca hJ hY hBn hs
  by_cases hc1 : kc = 1
  · obtain rfl : kn = 1 := by omega
    subst hc1
    gi_wp2
    clear c0 c1 c2
    gi_loopw [11] (fun i wr => ∃ (j : Nat) (pre : List Ln), j ≤ 1 - 1 ∧ i = .int .i64 j ∧ Hid (pre.map (·.1) = condLs kd j) ∧ Hid (J pre wr) ∧ Hid (KpB n₀ Bn W wr)) (fun i _ => 1 - 1 - (intOf i).toNat)
    case atStart => exact ⟨0, [], by omega, rfl, Lib.hid rfl, Lib.hid h0, Lib.hid ⟨Below.refl _ _, rfl⟩⟩
    case round =>
      obtain ⟨j, pre, hj, rfl, HPR, HJP, HKP⟩ := hrel
      have hwn : n₀ ≤ wr.heap.size := Nat.le_trans hn0 HKP.out.1.size
      have hwb : Bn < wr.heap.size := Nat.lt_of_lt_of_le hbW HKP.out.1.size
      by_cases hlt : j < 1 - 1
      · exfalso; omega
      · have hlt' : ¬ (j : Int) < ((1 - 1 : Nat) : Int) := by omega
        obtain rfl : j = 1 - 1 := by omega
        obtain ⟨c0, c1, c2⟩ := cell3 (HKP.out.2.trans HBN.out)
        dsimp only at c0 c1 c2
        have hpl : pre.length = 1 - 1 := by have := congrArg List.length HPR.out; simpa [condLs] using this
        cases dft
        · obtain ⟨fn, tmps, assign, body, hy, hRr⟩ := HYY.out pre ⟨[37, 110, 111, 100, 101, 102, 97, 117, 108, 116], by decide⟩ wr HJP.out (by unfold linesT; simp only [List.length_append, condLs, List.length_map, List.length_range, List.length_cons, List.length_nil, dftLs]; simp; omega)
          dsimp only [lnV] at hy
          gi_wp2
          refine hRr.mono ?_
          clear hy hRr
          rintro e W3 (⟨rfl, hJ3, hk3⟩ | ⟨rfl, hJx3⟩)
          · have HK3 := Lib.hid (HKP.out.trans hk3)
            obtain ⟨fn, tmps, assign, body, hy, hRr⟩ := HYY.out _ ⟨[37, 37], by decide⟩ W3 hJ3 (by unfold linesT; simp only [List.length_append, condLs, List.length_map, List.length_range, List.length_cons, List.length_nil, dftLs]; simp; omega)
            dsimp only [lnV] at hy
            gi_wp2
            refine hRr.mono ?_
            clear hy hRr c0 c1 c2
            rintro e W4 (⟨rfl, hJ4, hk4⟩ | ⟨rfl, hJx3⟩)
            · have HK4 := Lib.hid (HK3.out.trans hk4)
              have HJ4 := Lib.hid hJ4
              have HP4 : Hid (List.map (fun x : Ln => x.1) ((pre ++ [⟨[37, 110, 111, 100, 101, 102, 97, 117, 108, 116], by decide⟩]) ++ [⟨[37, 37], by decide⟩]) = condLs kd (1 - 1) ++ (dftLs false ++ [[37, 37]])) := Lib.hid (by rw [List.map_append, List.map_append, HPR.out]; simp [dftLs])
              clear hJ3 hk3 hJ4 hk4
              obtain ⟨c0, c1, c2⟩ := cell3 (HK4.out.2.trans HBN.out)
              dsimp only at c0 c1 c2
              gi_wp2
              clear c0 c1 c2
              gi_loopw [35] (fun i wz => ∃ (q : Nat) (pre2 : List Ln), q ≤ rn ∧ i = .int .i64 q ∧ Hid (pre2.map (·.1) = (condLs kd (1 - 1) ++ (dftLs false ++ [[37, 37]])) ++ ruleLs rl kd q) ∧ Hid (J pre2 wz) ∧ Hid (KpB n₀ Bn W wz)) (fun i _ => rn - (intOf i).toNat)
              case atStart => exact ⟨0, _, by omega, rfl, Lib.hid (by rw [HP4.out]; simp [ruleLs]), HJ4, HK4⟩
              case round =>
                obtain ⟨q, pre2, hq, rfl, HPQ, HJQ, HKQ⟩ := hrel
                by_cases hlq : q < rn
                · have hlq' : (q : Int) < (rn : Int) := by omega
                  obtain ⟨g2, off2, rfl, hg2, hA2⟩ := HR.out.2.2.1 (show 0 < rn by omega)
                  have hwn : n₀ ≤ wr.heap.size := Nat.le_trans hn0 HKQ.out.1.size
                  have hwb : Bn < wr.heap.size := Nat.lt_of_lt_of_le hbW HKQ.out.1.size
                  have HL1 : Hid ((loadCells ⟨g2, off2 + q * 22, none⟩ (row22 (rl q)).toList.length).run Tryd.prog wr = .ok (row22 (rl q)).toList.toArray wr) := Lib.hid (ldAt22 ((hA2 q hlq).below hg2 HKQ.out.1))
                  have HCL : Hid (∀ w1, Below wr.heap.size wr w1 → Calls Tryd.prog 56 #[ruleV (rl q), .slice (some ⟨g, off, none⟩) 1 1] w1 fun e w' => e = .returned (strV (ruleT (rl q) kd)) ∧ Below w1.heap.size w1 w') := Lib.hid fun w1 hb => ruleLine_any (rl q) ⟨some ⟨g, off, none⟩, 1, 1, kd⟩ w1 ((((HR.out.2.2.2 q hlq).below HKQ.out.1).mono hwn).now hb) (((HC.out.below HKQ.out.1).mono hwn).now hb) (HRU.out q hlq) (HSM.out q hlq).2 hk8 hk1 HK12.out
                  have HLX := Lib.hid (ruleT_len (HRU.out q hlq) hk8 hk1 HK12.out)
                  obtain ⟨r, hr⟩ : ∃ r, r = rl q := ⟨_, rfl⟩
                  rw [← hr] at HL1 HCL HLX
                  obtain ⟨X, hX⟩ : ∃ X, X = ruleT r kd := ⟨_, rfl⟩
                  rw [← hX] at HCL HLX
                  have HPN : Hid ((pre2 ++ [(⟨X, HLX.out⟩ : Ln)]).map (·.1) = (condLs kd (1 - 1) ++ (dftLs false ++ [[37, 37]])) ++ ruleLs rl kd (q + 1)) := Lib.hid (by rw [List.map_append, HPQ.out, ruleLs_succ, ← hr, ← hX, List.append_assoc]; rfl)
                  have HLN : Hid (pre2.length < (linesT ⟨⟨some ⟨g, off, none⟩, 1, 1, kd⟩, false, ⟨some ⟨g2, off2, none⟩, rn, rc, rl⟩⟩).length) := Lib.hid (by have := congrArg List.length HPQ.out; simp only [List.length_map, List.length_append, condLs, ruleLs, List.length_range, List.length_cons, List.length_nil] at this; unfold linesT condLs ruleLs; simp only [List.length_append, List.length_map, List.length_range, List.length_cons, List.length_nil]; omega)
                  have e0 : ∀ o, (wr.alloc o).cell? ⟨Bn, 0, none⟩ = some (.slice (some ⟨g, off, none⟩) 1 1) := fun o => (cell3 (s := ⟨⟨some ⟨g, off, none⟩, 1, 1, kd⟩, false, ⟨some ⟨g2, off2, none⟩, rn, rc, rl⟩⟩) (((alloc_below wr o).block _ hwb).trans (HKQ.out.2.trans HBN.out))).1
                  clear hr hX hA2
                  gi_wp2_with (first
                    | (refine wpListIn_load42 _ rfl rfl _ _ rfl r HL1.out ?_)
                    | (refine wpListIn_store42 _ _ rfl rfl rfl _ rfl rfl rfl r rfl ?_)
                    | (refine wpListIn_load42 _ rfl rfl _ _ rfl r (ld22 (heap_alloc_new wr _)) ?_)
                    | (refine ⟨trivial, ?_⟩; gi_at_call 56; refine (callsIn_wide.2 (HCL.out _ (alloc_below wr _))).mono ?_; rintro e w2 ⟨rfl, hb2⟩; obtain ⟨fn, tmps, assign, body, hy, hRr⟩ := HYY.out pre2 ⟨X, HLX.out⟩ w2 (HJA.out pre2 wr w2 none HJQ.out (grownBy_trans (World.grownBy_alloc wr _ none) (grown_of hb2)) (fun r e => by cases e)) HLN.out; dsimp only [lnV] at hy))
                  refine hRr.mono ?_
                  rintro e W3 (⟨rfl, hJ3, hk3⟩ | ⟨rfl, hJx3⟩)
                  · have HK3 := Lib.hid (HKQ.out.trans ((KpB.of (box_below hb2) hwn hwb).trans hk3))
                    gi_wp2
                    go_roundw
                    case rel => exact ⟨q + 1, _, by omega, by go_num, HPN, Lib.hid hJ3, HK3⟩
                    case measure => simp [intOf]; omega
                  · gi_wp2
                    refine bodyPost_ret (results_none rfl _ _ _) rfl ?_
                    exact ⟨⟨_, rfl⟩, .inr ⟨_, hJx3⟩⟩
                · have hlq' : ¬ (q : Int) < (rn : Int) := by omega
                  obtain rfl : q = rn := by omega
                  gi_wp2
                  go_end0
                  exact ⟨⟨_, rfl⟩, .inl ⟨pre2, HPQ.out.trans (by unfold linesT; simp only [List.append_assoc]), HJQ.out⟩⟩
            · gi_wp2
              refine bodyPost_ret (results_none rfl _ _ _) rfl ?_
              exact ⟨⟨_, rfl⟩, .inr ⟨_, hJx3⟩⟩
          · gi_wp2
            refine bodyPost_ret (results_none rfl _ _ _) rfl ?_
            exact ⟨⟨_, rfl⟩, .inr ⟨_, hJx3⟩⟩
        · obtain ⟨fn, tmps, assign, body, hy, hRr⟩ := HYY.out pre ⟨[37, 37], by decide⟩ wr HJP.out (by unfold linesT; simp only [List.length_append, condLs, List.length_map, List.length_range, List.length_cons, List.length_nil, dftLs]; simp; omega)
          dsimp only [lnV] at hy
          gi_wp2
          try (refine ⟨fun _ h => (by cases h), ?_⟩; gi_wp2)
          refine hRr.mono ?_
          clear hy hRr c0 c1 c2
          rintro e W4 (⟨rfl, hJ4, hk4⟩ | ⟨rfl, hJx3⟩)
          · have HK4 := Lib.hid (HKP.out.trans hk4)
            have HJ4 := Lib.hid hJ4
            have HP4 : Hid (List.map (fun x : Ln => x.1) (pre ++ [⟨[37, 37], by decide⟩]) = condLs kd (1 - 1) ++ (dftLs true ++ [[37, 37]])) := Lib.hid (by rw [List.map_append, HPR.out]; simp [dftLs])
            clear hJ4 hk4
            obtain ⟨c0, c1, c2⟩ := cell3 (HK4.out.2.trans HBN.out)
            dsimp only at c0 c1 c2
            gi_wp2
            clear c0 c1 c2
            gi_loopw [35] (fun i wz => ∃ (q : Nat) (pre2 : List Ln), q ≤ rn ∧ i = .int .i64 q ∧ Hid (pre2.map (·.1) = (condLs kd (1 - 1) ++ (dftLs true ++ [[37, 37]])) ++ ruleLs rl kd q) ∧ Hid (J pre2 wz) ∧ Hid (KpB n₀ Bn W wz)) (fun i _ => rn - (intOf i).toNat)
            case atStart => exact ⟨0, _, by omega, rfl, Lib.hid (by rw [HP4.out]; simp [ruleLs]), HJ4, HK4⟩
            case round =>
              obtain ⟨q, pre2, hq, rfl, HPQ, HJQ, HKQ⟩ := hrel
              by_cases hlq : q < rn
              · have hlq' : (q : Int) < (rn : Int) := by omega
                obtain ⟨g2, off2, rfl, hg2, hA2⟩ := HR.out.2.2.1 (show 0 < rn by omega)
                have hwn : n₀ ≤ wr.heap.size := Nat.le_trans hn0 HKQ.out.1.size
                have hwb : Bn < wr.heap.size := Nat.lt_of_lt_of_le hbW HKQ.out.1.size
                have HL1 : Hid ((loadCells ⟨g2, off2 + q * 22, none⟩ (row22 (rl q)).toList.length).run Tryd.prog wr = .ok (row22 (rl q)).toList.toArray wr) := Lib.hid (ldAt22 ((hA2 q hlq).below hg2 HKQ.out.1))
                have HCL : Hid (∀ w1, Below wr.heap.size wr w1 → Calls Tryd.prog 56 #[ruleV (rl q), .slice (some ⟨g, off, none⟩) 1 1] w1 fun e w' => e = .returned (strV (ruleT (rl q) kd)) ∧ Below w1.heap.size w1 w') := Lib.hid fun w1 hb => ruleLine_any (rl q) ⟨some ⟨g, off, none⟩, 1, 1, kd⟩ w1 ((((HR.out.2.2.2 q hlq).below HKQ.out.1).mono hwn).now hb) (((HC.out.below HKQ.out.1).mono hwn).now hb) (HRU.out q hlq) (HSM.out q hlq).2 hk8 hk1 HK12.out
                have HLX := Lib.hid (ruleT_len (HRU.out q hlq) hk8 hk1 HK12.out)
                obtain ⟨r, hr⟩ : ∃ r, r = rl q := ⟨_, rfl⟩
                rw [← hr] at HL1 HCL HLX
                obtain ⟨X, hX⟩ : ∃ X, X = ruleT r kd := ⟨_, rfl⟩
                rw [← hX] at HCL HLX
                have HPN : Hid ((pre2 ++ [(⟨X, HLX.out⟩ : Ln)]).map (·.1) = (condLs kd (1 - 1) ++ (dftLs true ++ [[37, 37]])) ++ ruleLs rl kd (q + 1)) := Lib.hid (by rw [List.map_append, HPQ.out, ruleLs_succ, ← hr, ← hX, List.append_assoc]; rfl)
                have HLN : Hid (pre2.length < (linesT ⟨⟨some ⟨g, off, none⟩, 1, 1, kd⟩, true, ⟨some ⟨g2, off2, none⟩, rn, rc, rl⟩⟩).length) := Lib.hid (by have := congrArg List.length HPQ.out; simp only [List.length_map, List.length_append, condLs, ruleLs, List.length_range, List.length_cons, List.length_nil] at this; unfold linesT condLs ruleLs; simp only [List.length_append, List.length_map, List.length_range, List.length_cons, List.length_nil]; omega)
                have e0 : ∀ o, (wr.alloc o).cell? ⟨Bn, 0, none⟩ = some (.slice (some ⟨g, off, none⟩) 1 1) := fun o => (cell3 (s := ⟨⟨some ⟨g, off, none⟩, 1, 1, kd⟩, true, ⟨some ⟨g2, off2, none⟩, rn, rc, rl⟩⟩) (((alloc_below wr o).block _ hwb).trans (HKQ.out.2.trans HBN.out))).1
                clear hr hX hA2
                gi_wp2_with (first
                  | (refine wpListIn_load42 _ rfl rfl _ _ rfl r HL1.out ?_)
                  | (refine wpListIn_store42 _ _ rfl rfl rfl _ rfl rfl rfl r rfl ?_)
                  | (refine wpListIn_load42 _ rfl rfl _ _ rfl r (ld22 (heap_alloc_new wr _)) ?_)
                  | (refine ⟨trivial, ?_⟩; gi_at_call 56; refine (callsIn_wide.2 (HCL.out _ (alloc_below wr _))).mono ?_; rintro e w2 ⟨rfl, hb2⟩; obtain ⟨fn, tmps, assign, body, hy, hRr⟩ := HYY.out pre2 ⟨X, HLX.out⟩ w2 (HJA.out pre2 wr w2 none HJQ.out (grownBy_trans (World.grownBy_alloc wr _ none) (grown_of hb2)) (fun r e => by cases e)) HLN.out; dsimp only [lnV] at hy))
                refine hRr.mono ?_
                rintro e W3 (⟨rfl, hJ3, hk3⟩ | ⟨rfl, hJx3⟩)
                · have HK3 := Lib.hid (HKQ.out.trans ((KpB.of (box_below hb2) hwn hwb).trans hk3))
                  gi_wp2
                  go_roundw
                  case rel => exact ⟨q + 1, _, by omega, by go_num, HPN, Lib.hid hJ3, HK3⟩
                  case measure => simp [intOf]; omega
                · gi_wp2
                  refine bodyPost_ret (results_none rfl _ _ _) rfl ?_
                  exact ⟨⟨_, rfl⟩, .inr ⟨_, hJx3⟩⟩
              · have hlq' : ¬ (q : Int) < (rn : Int) := by omega
                obtain rfl : q = rn := by omega
                gi_wp2
                go_end0
                exact ⟨⟨_, rfl⟩, .inl ⟨pre2, HPQ.out.trans (by unfold linesT; simp only [List.append_assoc]), HJQ.out⟩⟩
          · gi_wp2
            refine bodyPost_ret (results_none rfl _ _ _) rfl ?_
            exact ⟨⟨_, rfl⟩, .inr ⟨_, hJx3⟩⟩
  · gi_wp2
    clear c0 c1 c2
    gi_loopw [11] (fun i wr => ∃ (j : Nat) (pre : List Ln), j ≤ kn - 1 ∧ i = .int .i64 j ∧ Hid (pre.map (·.1) = condLs kd j) ∧ Hid (J pre wr) ∧ Hid (KpB n₀ Bn W wr)) (fun i _ => kn - 1 - (intOf i).toNat)
    case atStart => exact ⟨0, [], by omega, rfl, Lib.hid rfl, Lib.hid h0, Lib.hid ⟨Below.refl _ _, rfl⟩⟩
    case round =>
      obtain ⟨j, pre, hj, rfl, HPR, HJP, HKP⟩ := hrel
      have hwn : n₀ ≤ wr.heap.size := Nat.le_trans hn0 HKP.out.1.size
      have hwb : Bn < wr.heap.size := Nat.lt_of_lt_of_le hbW HKP.out.1.size
      by_cases hlt : j < kn - 1
      · have hlt' : (j : Int) < ((kn - 1 : Nat) : Int) := by omega
        have hat := (HCA.out (j + 1) (by omega)).below hg HKP.out.1
        rw [show off + (j + 1) * 2 = off + 2 + j * 2 by omega] at hat
        obtain ⟨c, hcc⟩ : ∃ c, c = kd (j + 1) := ⟨_, rfl⟩
        rw [← hcc] at hat
        obtain ⟨d0, d1⟩ := hat
        have HCD := Lib.hid (fun w1 => condLine_any c w1 (by rw [hcc]; exact HK12.out _ (by omega)))
        have HLX := Lib.hid (show (condT c).length ≤ 6000400 by have := condT_len (c := c) (by rw [hcc]; exact HK12.out _ (by omega)); omega)
        have HPN : Hid ((pre ++ [(⟨condT c, HLX.out⟩ : Ln)]).map (·.1) = condLs kd (j + 1)) := Lib.hid (by rw [List.map_append, HPR.out, condLs_succ, ← hcc]; rfl)
        have HLN : Hid (pre.length < (linesT ⟨⟨some ⟨g, off, none⟩, kn, kc, kd⟩, dft, ⟨ra, rn, rc, rl⟩⟩).length) := Lib.hid (by have := congrArg List.length HPR.out; simp only [List.length_map, condLs, List.length_range] at this; unfold linesT condLs; simp only [List.length_append, List.length_map, List.length_range, List.length_cons]; omega)
        clear hcc
        gi_wp2_with (first | (refine ⟨trivial, ?_⟩; gi_at_call 55; refine (callsIn_wide.2 (HCD.out _)).mono ?_; rintro e w2 ⟨rfl, hb2⟩; obtain ⟨fn, tmps, assign, body, hy, hRr⟩ := HYY.out pre ⟨condT c, HLX.out⟩ w2 (HJA.out pre wr w2 none HJP.out (grownBy_trans (World.grownBy_alloc wr _ none) (grown_of hb2)) (fun r e => by cases e)) HLN.out; dsimp only [lnV] at hy))
        refine hRr.mono ?_
        rintro e W3 (⟨rfl, hJ3, hk3⟩ | ⟨rfl, hJx3⟩)
        · have HK3 := Lib.hid (HKP.out.trans ((KpB.of (box_below hb2) hwn hwb).trans hk3))
          gi_wp2
          go_roundw
          case rel => exact ⟨j + 1, _, by omega, by go_num, HPN, Lib.hid hJ3, HK3⟩
          case measure => simp [intOf]; omega
        · gi_wp2
          refine bodyPost_ret (results_none rfl _ _ _) rfl ?_
          exact ⟨⟨_, rfl⟩, .inr ⟨_, hJx3⟩⟩
      · have hlt' : ¬ (j : Int) < ((kn - 1 : Nat) : Int) := by omega
        obtain rfl : j = kn - 1 := by omega
        obtain ⟨c0, c1, c2⟩ := cell3 (HKP.out.2.trans HBN.out)
        dsimp only at c0 c1 c2
        have hpl : pre.length = kn - 1 := by have := congrArg List.length HPR.out; simpa [condLs] using this
        cases dft
        · obtain ⟨fn, tmps, assign, body, hy, hRr⟩ := HYY.out pre ⟨[37, 110, 111, 100, 101, 102, 97, 117, 108, 116], by decide⟩ wr HJP.out (by unfold linesT; simp only [List.length_append, condLs, List.length_map, List.length_range, List.length_cons, List.length_nil, dftLs]; simp; omega)
          dsimp only [lnV] at hy
          gi_wp2
          refine hRr.mono ?_
          clear hy hRr
          rintro e W3 (⟨rfl, hJ3, hk3⟩ | ⟨rfl, hJx3⟩)
          · have HK3 := Lib.hid (HKP.out.trans hk3)
            obtain ⟨fn, tmps, assign, body, hy, hRr⟩ := HYY.out _ ⟨[37, 37], by decide⟩ W3 hJ3 (by unfold linesT; simp only [List.length_append, condLs, List.length_map, List.length_range, List.length_cons, List.length_nil, dftLs]; simp; omega)
            dsimp only [lnV] at hy
            gi_wp2
            refine hRr.mono ?_
            clear hy hRr c0 c1 c2
            rintro e W4 (⟨rfl, hJ4, hk4⟩ | ⟨rfl, hJx3⟩)
            · have HK4 := Lib.hid (HK3.out.trans hk4)
              have HJ4 := Lib.hid hJ4
              have HP4 : Hid (List.map (fun x : Ln => x.1) ((pre ++ [⟨[37, 110, 111, 100, 101, 102, 97, 117, 108, 116], by decide⟩]) ++ [⟨[37, 37], by decide⟩]) = condLs kd (kn - 1) ++ (dftLs false ++ [[37, 37]])) := Lib.hid (by rw [List.map_append, List.map_append, HPR.out]; simp [dftLs])
              clear hJ3 hk3 hJ4 hk4
              obtain ⟨c0, c1, c2⟩ := cell3 (HK4.out.2.trans HBN.out)
              dsimp only at c0 c1 c2
              gi_wp2
              clear c0 c1 c2
              gi_loopw [35] (fun i wz => ∃ (q : Nat) (pre2 : List Ln), q ≤ rn ∧ i = .int .i64 q ∧ Hid (pre2.map (·.1) = (condLs kd (kn - 1) ++ (dftLs false ++ [[37, 37]])) ++ ruleLs rl kd q) ∧ Hid (J pre2 wz) ∧ Hid (KpB n₀ Bn W wz)) (fun i _ => rn - (intOf i).toNat)
              case atStart => exact ⟨0, _, by omega, rfl, Lib.hid (by rw [HP4.out]; simp [ruleLs]), HJ4, HK4⟩
              case round =>
                obtain ⟨q, pre2, hq, rfl, HPQ, HJQ, HKQ⟩ := hrel
                by_cases hlq : q < rn
                · have hlq' : (q : Int) < (rn : Int) := by omega
                  obtain ⟨g2, off2, rfl, hg2, hA2⟩ := HR.out.2.2.1 (show 0 < rn by omega)
                  have hwn : n₀ ≤ wr.heap.size := Nat.le_trans hn0 HKQ.out.1.size
                  have hwb : Bn < wr.heap.size := Nat.lt_of_lt_of_le hbW HKQ.out.1.size
                  have HL1 : Hid ((loadCells ⟨g2, off2 + q * 22, none⟩ (row22 (rl q)).toList.length).run Tryd.prog wr = .ok (row22 (rl q)).toList.toArray wr) := Lib.hid (ldAt22 ((hA2 q hlq).below hg2 HKQ.out.1))
                  have HCL : Hid (∀ w1, Below wr.heap.size wr w1 → Calls Tryd.prog 56 #[ruleV (rl q), .slice (some ⟨g, off, none⟩) kn kc] w1 fun e w' => e = .returned (strV (ruleT (rl q) kd)) ∧ Below w1.heap.size w1 w') := Lib.hid fun w1 hb => ruleLine_any (rl q) ⟨some ⟨g, off, none⟩, kn, kc, kd⟩ w1 ((((HR.out.2.2.2 q hlq).below HKQ.out.1).mono hwn).now hb) (((HC.out.below HKQ.out.1).mono hwn).now hb) (HRU.out q hlq) (HSM.out q hlq).2 hk8 hk1 HK12.out
                  have HLX := Lib.hid (ruleT_len (HRU.out q hlq) hk8 hk1 HK12.out)
                  obtain ⟨r, hr⟩ : ∃ r, r = rl q := ⟨_, rfl⟩
                  rw [← hr] at HL1 HCL HLX
                  obtain ⟨X, hX⟩ : ∃ X, X = ruleT r kd := ⟨_, rfl⟩
                  rw [← hX] at HCL HLX
                  have HPN : Hid ((pre2 ++ [(⟨X, HLX.out⟩ : Ln)]).map (·.1) = (condLs kd (kn - 1) ++ (dftLs false ++ [[37, 37]])) ++ ruleLs rl kd (q + 1)) := Lib.hid (by rw [List.map_append, HPQ.out, ruleLs_succ, ← hr, ← hX, List.append_assoc]; rfl)
                  have HLN : Hid (pre2.length < (linesT ⟨⟨some ⟨g, off, none⟩, kn, kc, kd⟩, false, ⟨some ⟨g2, off2, none⟩, rn, rc, rl⟩⟩).length) := Lib.hid (by have := congrArg List.length HPQ.out; simp only [List.length_map, List.length_append, condLs, ruleLs, List.length_range, List.length_cons, List.length_nil] at this; unfold linesT condLs ruleLs; simp only [List.length_append, List.length_map, List.length_range, List.length_cons, List.length_nil]; omega)
                  have e0 : ∀ o, (wr.alloc o).cell? ⟨Bn, 0, none⟩ = some (.slice (some ⟨g, off, none⟩) kn kc) := fun o => (cell3 (s := ⟨⟨some ⟨g, off, none⟩, kn, kc, kd⟩, false, ⟨some ⟨g2, off2, none⟩, rn, rc, rl⟩⟩) (((alloc_below wr o).block _ hwb).trans (HKQ.out.2.trans HBN.out))).1
                  clear hr hX hA2
                  gi_wp2_with (first
                    | (refine wpListIn_load42 _ rfl rfl _ _ rfl r HL1.out ?_)
                    | (refine wpListIn_store42 _ _ rfl rfl rfl _ rfl rfl rfl r rfl ?_)
                    | (refine wpListIn_load42 _ rfl rfl _ _ rfl r (ld22 (heap_alloc_new wr _)) ?_)
                    | (refine ⟨trivial, ?_⟩; gi_at_call 56; refine (callsIn_wide.2 (HCL.out _ (alloc_below wr _))).mono ?_; rintro e w2 ⟨rfl, hb2⟩; obtain ⟨fn, tmps, assign, body, hy, hRr⟩ := HYY.out pre2 ⟨X, HLX.out⟩ w2 (HJA.out pre2 wr w2 none HJQ.out (grownBy_trans (World.grownBy_alloc wr _ none) (grown_of hb2)) (fun r e => by cases e)) HLN.out; dsimp only [lnV] at hy))
                  refine hRr.mono ?_
                  rintro e W3 (⟨rfl, hJ3, hk3⟩ | ⟨rfl, hJx3⟩)
                  · have HK3 := Lib.hid (HKQ.out.trans ((KpB.of (box_below hb2) hwn hwb).trans hk3))
                    gi_wp2
                    go_roundw
                    case rel => exact ⟨q + 1, _, by omega, by go_num, HPN, Lib.hid hJ3, HK3⟩
                    case measure => simp [intOf]; omega
                  · gi_wp2
                    refine bodyPost_ret (results_none rfl _ _ _) rfl ?_
                    exact ⟨⟨_, rfl⟩, .inr ⟨_, hJx3⟩⟩
                · have hlq' : ¬ (q : Int) < (rn : Int) := by omega
                  obtain rfl : q = rn := by omega
                  gi_wp2
                  go_end0
                  exact ⟨⟨_, rfl⟩, .inl ⟨pre2, HPQ.out.trans (by unfold linesT; simp only [List.append_assoc]), HJQ.out⟩⟩
            · gi_wp2
              refine bodyPost_ret (results_none rfl _ _ _) rfl ?_
              exact ⟨⟨_, rfl⟩, .inr ⟨_, hJx3⟩⟩
          · gi_wp2
            refine bodyPost_ret (results_none rfl _ _ _) rfl ?_
            exact ⟨⟨_, rfl⟩, .inr ⟨_, hJx3⟩⟩
        · obtain ⟨fn, tmps, assign, body, hy, hRr⟩ := HYY.out pre ⟨[37, 37], by decide⟩ wr HJP.out (by unfold linesT; simp only [List.length_append, condLs, List.length_map, List.length_range, List.length_cons, List.length_nil, dftLs]; simp; omega)
          dsimp only [lnV] at hy
          gi_wp2
          try (refine ⟨fun _ h => (by cases h), ?_⟩; gi_wp2)
          refine hRr.mono ?_
          clear hy hRr c0 c1 c2
          rintro e W4 (⟨rfl, hJ4, hk4⟩ | ⟨rfl, hJx3⟩)
          · have HK4 := Lib.hid (HKP.out.trans hk4)
            have HJ4 := Lib.hid hJ4
            have HP4 : Hid (List.map (fun x : Ln => x.1) (pre ++ [⟨[37, 37], by decide⟩]) = condLs kd (kn - 1) ++ (dftLs true ++ [[37, 37]])) := Lib.hid (by rw [List.map_append, HPR.out]; simp [dftLs])
            clear hJ4 hk4
            obtain ⟨c0, c1, c2⟩ := cell3 (HK4.out.2.trans HBN.out)
            dsimp only at c0 c1 c2
            gi_wp2
            clear c0 c1 c2
            gi_loopw [35] (fun i wz => ∃ (q : Nat) (pre2 : List Ln), q ≤ rn ∧ i = .int .i64 q ∧ Hid (pre2.map (·.1) = (condLs kd (kn - 1) ++ (dftLs true ++ [[37, 37]])) ++ ruleLs rl kd q) ∧ Hid (J pre2 wz) ∧ Hid (KpB n₀ Bn W wz)) (fun i _ => rn - (intOf i).toNat)
            case atStart => exact ⟨0, _, by omega, rfl, Lib.hid (by rw [HP4.out]; simp [ruleLs]), HJ4, HK4⟩
            case round =>
              obtain ⟨q, pre2, hq, rfl, HPQ, HJQ, HKQ⟩ := hrel
              by_cases hlq : q < rn
              · have hlq' : (q : Int) < (rn : Int) := by omega
                obtain ⟨g2, off2, rfl, hg2, hA2⟩ := HR.out.2.2.1 (show 0 < rn by omega)
                have hwn : n₀ ≤ wr.heap.size := Nat.le_trans hn0 HKQ.out.1.size
                have hwb : Bn < wr.heap.size := Nat.lt_of_lt_of_le hbW HKQ.out.1.size
                have HL1 : Hid ((loadCells ⟨g2, off2 + q * 22, none⟩ (row22 (rl q)).toList.length).run Tryd.prog wr = .ok (row22 (rl q)).toList.toArray wr) := Lib.hid (ldAt22 ((hA2 q hlq).below hg2 HKQ.out.1))
                have HCL : Hid (∀ w1, Below wr.heap.size wr w1 → Calls Tryd.prog 56 #[ruleV (rl q), .slice (some ⟨g, off, none⟩) kn kc] w1 fun e w' => e = .returned (strV (ruleT (rl q) kd)) ∧ Below w1.heap.size w1 w') := Lib.hid fun w1 hb => ruleLine_any (rl q) ⟨some ⟨g, off, none⟩, kn, kc, kd⟩ w1 ((((HR.out.2.2.2 q hlq).below HKQ.out.1).mono hwn).now hb) (((HC.out.below HKQ.out.1).mono hwn).now hb) (HRU.out q hlq) (HSM.out q hlq).2 hk8 hk1 HK12.out
                have HLX := Lib.hid (ruleT_len (HRU.out q hlq) hk8 hk1 HK12.out)
                obtain ⟨r, hr⟩ : ∃ r, r = rl q := ⟨_, rfl⟩
                rw [← hr] at HL1 HCL HLX
                obtain ⟨X, hX⟩ : ∃ X, X = ruleT r kd := ⟨_, rfl⟩
                rw [← hX] at HCL HLX
                have HPN : Hid ((pre2 ++ [(⟨X, HLX.out⟩ : Ln)]).map (·.1) = (condLs kd (kn - 1) ++ (dftLs true ++ [[37, 37]])) ++ ruleLs rl kd (q + 1)) := Lib.hid (by rw [List.map_append, HPQ.out, ruleLs_succ, ← hr, ← hX, List.append_assoc]; rfl)
                have HLN : Hid (pre2.length < (linesT ⟨⟨some ⟨g, off, none⟩, kn, kc, kd⟩, true, ⟨some ⟨g2, off2, none⟩, rn, rc, rl⟩⟩).length) := Lib.hid (by have := congrArg List.length HPQ.out; simp only [List.length_map, List.length_append, condLs, ruleLs, List.length_range, List.length_cons, List.length_nil] at this; unfold linesT condLs ruleLs; simp only [List.length_append, List.length_map, List.length_range, List.length_cons, List.length_nil]; omega)
                have e0 : ∀ o, (wr.alloc o).cell? ⟨Bn, 0, none⟩ = some (.slice (some ⟨g, off, none⟩) kn kc) := fun o => (cell3 (s := ⟨⟨some ⟨g, off, none⟩, kn, kc, kd⟩, true, ⟨some ⟨g2, off2, none⟩, rn, rc, rl⟩⟩) (((alloc_below wr o).block _ hwb).trans (HKQ.out.2.trans HBN.out))).1
                clear hr hX hA2
                gi_wp2_with (first
                  | (refine wpListIn_load42 _ rfl rfl _ _ rfl r HL1.out ?_)
                  | (refine wpListIn_store42 _ _ rfl rfl rfl _ rfl rfl rfl r rfl ?_)
                  | (refine wpListIn_load42 _ rfl rfl _ _ rfl r (ld22 (heap_alloc_new wr _)) ?_)
                  | (refine ⟨trivial, ?_⟩; gi_at_call 56; refine (callsIn_wide.2 (HCL.out _ (alloc_below wr _))).mono ?_; rintro e w2 ⟨rfl, hb2⟩; obtain ⟨fn, tmps, assign, body, hy, hRr⟩ := HYY.out pre2 ⟨X, HLX.out⟩ w2 (HJA.out pre2 wr w2 none HJQ.out (grownBy_trans (World.grownBy_alloc wr _ none) (grown_of hb2)) (fun r e => by cases e)) HLN.out; dsimp only [lnV] at hy))
                refine hRr.mono ?_
                rintro e W3 (⟨rfl, hJ3, hk3⟩ | ⟨rfl, hJx3⟩)
                · have HK3 := Lib.hid (HKQ.out.trans ((KpB.of (box_below hb2) hwn hwb).trans hk3))
                  gi_wp2
                  go_roundw
                  case rel => exact ⟨q + 1, _, by omega, by go_num, HPN, Lib.hid hJ3, HK3⟩
                  case measure => simp [intOf]; omega
                · gi_wp2
                  refine bodyPost_ret (results_none rfl _ _ _) rfl ?_
                  exact ⟨⟨_, rfl⟩, .inr ⟨_, hJx3⟩⟩
              · have hlq' : ¬ (q : Int) < (rn : Int) := by omega
                obtain rfl : q = rn := by omega
                gi_wp2
                go_end0
                exact ⟨⟨_, rfl⟩, .inl ⟨pre2, HPQ.out.trans (by unfold linesT; simp only [List.append_assoc]), HJQ.out⟩⟩
          · gi_wp2
            refine bodyPost_ret (results_none rfl _ _ _) rfl ?_
            exact ⟨⟨_, rfl⟩, .inr ⟨_, hJx3⟩⟩
end Go.Proofs.YtnfchlkdppblfaaDoor
/- Contract of the landed code's Print of specifications. -/
namespace Go.Proofs.YtnfchlkdppblfaaDoor
open Go.RowKit Go Go.Shelf
attribute [local go_sem] Oper.semAt_some
/-- The text of lines: each with its end. -/
def flatLn : List (List UInt8) → List UInt8
  | [] => []
  | x :: l => (x ++ [10]) ++ flatLn l
theorem flatLn_append : ∀ (l m : List (List UInt8)), flatLn (l ++ m) = flatLn l ++ flatLn m
  | [], m => rfl
  | x :: l, m => by show (x ++ [10]) ++ flatLn (l ++ m) = _; rw [flatLn_append l m]; simp [flatLn]
def textT (s : Sp) : List UInt8 := flatLn (linesT s)
theorem flat_len : ∀ (l : List Ln), (flatLn (l.map (·.1))).length ≤ l.length * 6000401
  | [] => by simp [flatLn]
  | x :: l => by
    have h1 := flat_len l
    have h2 := x.2
    show ((x.1 ++ ([10] : List UInt8)) ++ flatLn (l.map fun y : Ln => y.1)).length ≤ _
    simp only [List.length_append, List.length_cons, List.length_nil] at h1 ⊢
    omega
theorem isB_kept {B b : Nat} {bs : List Value} {W W' : World} {row : Option Nat} (h : Lib.IsBuilderF 63 5 B b bs W) (hg : W.grownBy W' row) (hr : ∀ r, row = some r → ∃ o : Obj, W.heap[r]? = some o ∧ o.isCells = false) : Lib.IsBuilderF 63 5 B b bs W' := by
  have key : ∀ p, Lib.BuilderAtF 63 5 B b p bs W → Lib.BuilderAtF 63 5 B b p bs W' := by
    rintro p ⟨hB, v, hb, hown, hne⟩
    refine ⟨hB, v, (hg.block b (lt_of_some hb) fun e => ?_).trans hb, hown.kept hg ?_, hne⟩
    · obtain ⟨o, ho, hc⟩ := hr b e.symm
      rw [hb] at ho; cases ho; cases hc
    · cases hv : v.ownBlock with
      | none => exact Or.inl rfl
      | some g =>
        refine Or.inr fun e => ?_
        obtain ⟨o, ho, hc⟩ := hr g e.symm
        obtain ⟨c, fz, hh⟩ := Lib.ownsRowF_kind hown g hv
        rw [hh] at ho; cases ho; cases hc
  exact h.imp (key _) (key _)
theorem keeps_of {b : Nat} {W W' : World} {p v : Value} {fr : Nat × Nat} (ho : Lib.OthersKept 5 (some b) W W') (hs : W.heap.size ≤ W'.heap.size) (hb : W.heap[b]? = some (.cells #[p, v] 63 fr)) : KeepsOthers W W' :=
  ⟨hs, fun k o hk hc => ho k o hk (fun e => by cases e; rw [hb] at hk; cases hk; cases hc) (fun c fz e => by rw [e] at hc; cases hc)⟩
theorem lines_any (s : Sp) (w : World) : Calls Tryd.prog 29 #[specV s] w fun e w' => e = .returned (.func (.func 54) #[] #[.pointer (some ⟨w.heap.size, 0, none⟩)]) ∧ w' = w.alloc (.cells (row3 s) 38) := by
  obtain ⟨⟨ka, kn, kc, kd⟩, dft, ⟨ra, rn, rc, rl⟩⟩ := s
  go_enter Tryd.func29, Tryd.ntmps29
  go_wp2
  go_ret
  exact ⟨rfl, rfl⟩
theorem lines_stops (m : Nat) (hm : 1 ≤ m) (s : Sp) (n₀ Bn : Nat) (w0 : World) (hBn : w0.heap[Bn]? = some (.cells (row3 s) 38 (0, 0))) (hC : CsIn w0 n₀ s.cs) (hR : RsIn w0 n₀ s.rs) (hn0 : n₀ ≤ w0.heap.size) (hs : specB s = true) (hSm : Sm s.rs) :
    SeqStopsK Fence.wide m Tryd.prog 54 #[.pointer (some ⟨Bn, 0, none⟩)] lnV (KpB n₀ Bn) (fun xs => xs.map (·.1) = linesT s) (fun _ => True) (linesT s).length w0 := by
  intro l J Jx W hW hJ _ hY h0
  refine (lines1_in m hm l Bn n₀ s J Jx W hJ hY ((hW.block _ (lt_of_some hBn)).trans hBn) (hC.below (hW.mono hn0)) (hR.below (hW.mono hn0)) (Nat.le_trans hn0 hW.size) hs hSm h0).mono ?_
  rintro e W' ⟨h1, h2 | ⟨pre, h2⟩⟩
  · exact ⟨h1, Or.inl h2⟩
  · exact ⟨h1, Or.inr ⟨pre, trivial, h2⟩⟩
/-- What Print tells. -/
def spprintV (s : Sp) : Value := if specB s = true then .tuple #[strV (textT s), .int .i64 0] else .tuple #[.string ⟨#[]⟩, .int .i64 1]
set_option maxRecDepth 100000 in
set_option maxHeartbeats 4000000 in
theorem spprint_any (s : Sp) (w : World) (h : SpIn w s) (hc : Sm s.rs) : Calls Tryd.prog 11 #[specV s] w fun e w' => e = .returned (spprintV s) ∧ Below w.heap.size w w' := by
  have HRI : Hid (∀ o w1, Bx w o w1 → Calls Tryd.prog 26 #[specV s] w1 fun e w' => e = .returned (.bool (specB s)) ∧ Bx w o w') := Lib.hid fun o w1 hb => (spright_any s w1 (h.now hb.out) hc).mono fun e w' q => ⟨q.1, hb.to q.2⟩
  refine (callsIn_wide (n := 3)).1 ?_
  refine callsIn_of_wp_marks Tryd.func11 rfl trivial ?_ rfl
  simp only [Tryd.ntmps11, List.size_toArray, List.length_cons, List.length_nil, Nat.reduceAdd, Nat.reduceSub, Array.replicate_succ, Array.replicate_zero, List.push_toArray, List.append_toArray, List.nil_append, List.cons_append]
  have HLI : Hid (∀ w1, Calls Tryd.prog 29 #[specV s] w1 fun e w' => e = .returned (.func (.func 54) #[] #[.pointer (some ⟨w1.heap.size, 0, none⟩)]) ∧ w' = w1.alloc (.cells (row3 s) 38)) := Lib.hid fun w1 => lines_any s w1
  obtain ⟨b0, hb0⟩ : ∃ x, x = specB s := ⟨_, rfl⟩
  rw [← hb0] at HRI
  unfold spprintV
  rw [← hb0]
  have HB0 := Lib.hid hb0
  clear hb0
  cases b0
  · clear HB0
    gi_wp2_with (first | (refine ⟨trivial, ?_⟩; gi_at_call 26; refine (callsIn_wide.2 (HRI.out _ _ (Bx.refl _ _))).mono ?_; rintro e w1 ⟨rfl, hb1⟩))
    exact ⟨_, results_tmp2 rfl _ _ _, rfl, hb1.out⟩
  · have HSM := Lib.hid hc
    have HSP := Lib.hid h
    clear h hc
    obtain ⟨⟨ka, kn, kc, kd⟩, dft, ⟨ra, rn, rc, rl⟩⟩ := s
    gi_wp2_with (first
      | (refine ⟨trivial, ?_⟩; gi_at_call 26; refine (callsIn_wide.2 (HRI.out _ _ (Bx.refl _ _))).mono ?_; rintro e w1 ⟨rfl, hb1⟩; obtain ⟨c0, c1, c2⟩ := cell3 (s := ⟨⟨ka, kn, kc, kd⟩, dft, ⟨ra, rn, rc, rl⟩⟩) (box_kept hb1); have e0 := fun o => (cell3 (s := ⟨⟨ka, kn, kc, kd⟩, dft, ⟨ra, rn, rc, rl⟩⟩) (box_kept (Bx.to hb1 (alloc_below w1 o)))))
      | (refine ⟨trivial, ?_⟩; gi_at_call 29; refine (callsIn_wide.2 (HLI.out _)).mono ?_; rintro e w2 ⟨rfl, rfl⟩))
    obtain ⟨W0, hW0⟩ : ∃ W0, W0 = (w1.alloc (.cells #[.pointer none, .slice none 0 0] 63)).alloc (.cells (row3 ⟨⟨ka, kn, kc, kd⟩, dft, ⟨ra, rn, rc, rl⟩⟩) 38) := ⟨_, rfl⟩
    have hBn : W0.heap[w1.heap.size + 1]? = some (.cells (row3 ⟨⟨ka, kn, kc, kd⟩, dft, ⟨ra, rn, rc, rl⟩⟩) 38 (0, 0)) := by rw [hW0]; exact (Bx2.refl w1 _ _).two
    have hbu : W0.heap[w1.heap.size]? = some (.cells #[.pointer none, .slice none 0 0] 63 (0, 0)) := by rw [hW0]; exact (Bx2.refl w1 _ _).one
    have hsz : W0.heap.size = w1.heap.size + 2 := by rw [hW0]; simp
    have hbW : Below w.heap.size w W0 := by rw [hW0]; exact hb1.out.trans ((alloc2_below w1 _ _).mono hb1.out.size)
    have hsw := hb1.out.size
    have HI0 : Lib.IsBuilderF 63 5 w1.heap.size w1.heap.size (Lib.byteCells []) W0 := Or.inl ⟨Nat.le_refl _, .slice none 0 0, hbu, World.ownsRowF_nil _ _ _ _, by simp [Value.ownBlock]⟩
    have hIo : OwnFrom W0.heap.size (fun (pre : List Ln) W => Lib.IsBuilderF 63 5 w1.heap.size w1.heap.size (Lib.byteCells (flatLn (pre.map (·.1)))) W ∧ Below w.heap.size w W ∧ W.heap[w1.heap.size + 1]? = some (.cells (row3 ⟨⟨ka, kn, kc, kd⟩, dft, ⟨ra, rn, rc, rl⟩⟩) 38 (0, 0))) := fun s A B row hs hg hr => ⟨isB_kept hs.1 hg (fun r e => (hr r e).2), (ownFrom_below (β := List Ln) (n₀ := w.heap.size) (B := W0.heap.size) (w₀ := w) (Nat.le_refl _) (by omega)) s A B row hs.2.1 hg hr, (hg.block _ (lt_of_some hs.2.2) fun e => by obtain ⟨_, o, ho, hc⟩ := hr _ e.symm; rw [hs.2.2] at ho; cases ho; cases hc).trans hs.2.2⟩
    clear c0 c1 c2 e0 hb1
    try rw [← hW0]
    refine wpIn_rangeFunc_ownF rfl (by omega) (gf := 54) (lb := #[.pointer (some ⟨w1.heap.size + 1, 0, none⟩)]) rfl trivial (enters_of Tryd.func54 (by kernel_rfl) rfl)
      (lines_stops 2 (by omega) ⟨⟨ka, kn, kc, kd⟩, dft, ⟨ra, rn, rc, rl⟩⟩ w.heap.size (w1.heap.size + 1) W0 hBn (HSP.out.1.below hbW) (HSP.out.2.below hbW) (by omega) HB0.out.symm HSM.out)
      KpB.trans ?kb (Below.refl _ _) (fun _ => rfl)
      (fun pre W => Lib.IsBuilderF 63 5 w1.heap.size w1.heap.size (Lib.byteCells (flatLn (pre.map (·.1)))) W ∧ Below w.heap.size w W ∧ W.heap[w1.heap.size + 1]? = some (.cells (row3 ⟨⟨ka, kn, kc, kd⟩, dft, ⟨ra, rn, rc, rl⟩⟩) 38 (0, 0))) (fun _ _ _ => False)
      hIo (fun _ _ _ _ _ h _ _ => h) ⟨HI0, hbW, hBn⟩
      (fun x => { tmps := #[specV ⟨⟨ka, kn, kc, kd⟩, dft, ⟨ra, rn, rc, rl⟩⟩, .pointer (some ⟨w.heap.size, 0, none⟩), .string ⟨#[]⟩, .int .i64 0, .pointer (some ⟨w1.heap.size, 0, none⟩), .string ⟨x.1.toArray⟩, .agg #[.slice ka kn kc, .bool dft, .slice ra rn rc], .bool true, .bool false, .agg #[.slice ka kn kc, .bool dft, .slice ra rn rc], .func (.func 54) #[] #[.pointer (some ⟨w1.heap.size + 1, 0, none⟩)], .string ⟨x.1.toArray⟩, undef, undef, undef, undef], defers := [] }) ?assign ?body ?done ?stop
    case kb => intro W l o o' hl hh hc hw; exact ⟨belowK_b (w := W0) (by omega) W l o o' hl hh hc hw, World.putObj_heap_other (by omega)⟩
    case assign =>
      intro l x W K hK
      dsimp only [lnV]
      gi_wp2
      exact hK
    case body =>
      rintro l pre x W ⟨hB, hbel, hbn⟩ hlen
      have hp := spec_parts HB0.out.symm
      have hl58 : (linesT ⟨⟨ka, kn, kc, kd⟩, dft, ⟨ra, rn, rc, rl⟩⟩).length ≤ 60 := by
        have h1 := hp.2.1
        have h2 := hp.2.2.2.1
        dsimp only at h1 h2
        unfold linesT condLs ruleLs dftLs
        simp only [List.length_append, List.length_map, List.length_range, List.length_cons, List.length_nil]
        split <;> simp <;> omega
      have hfl := flat_len pre
      have hx := x.2
      have hp60 : pre.length * 6000401 ≤ 60 * 6000401 := Nat.mul_le_mul_right _ (by omega)
      obtain ⟨p, v, hpv⟩ : ∃ p v, W.heap[w1.heap.size]? = some (.cells #[p, v] 63 (0, 0)) := by
        rcases hB with ⟨_, v, q, _⟩ | ⟨_, v, q, _⟩
        · exact ⟨_, _, q⟩
        · exact ⟨_, _, q⟩
      have HWS := Lib.hid (Tryd.Builder_WriteString_k w1.heap.size w1.heap.size _ ⟨x.1.toArray⟩ W hB (by rw [Lib.byteCells_length]; show _ + x.1.toArray.size ≤ _; rw [List.size_toArray]; omega) (by have := lt_of_some hpv; omega))
      have HWB := Lib.hid (fun W2 (hB2 : Lib.BuilderAtF 63 5 w1.heap.size w1.heap.size (.pointer (some ⟨w1.heap.size, 0, none⟩)) (Lib.byteCells (flatLn (pre.map fun y : Ln => y.1)) ++ Lib.strCells ⟨x.1.toArray⟩) W2) => Tryd.Builder_WriteByte_k w1.heap.size w1.heap.size _ 10 W2 (Or.inr hB2) (by rw [List.length_append, Lib.byteCells_length, Lib.strCells_length]; show _ + x.1.toArray.size + 1 ≤ _; rw [List.size_toArray]; omega) (by have := hB2.lt; omega))
      gi_wp2_with (first
        | (refine ⟨trivial, ?_⟩; gi_at_call 30; refine (CallsIn.inRound l (callsIn_wide.2 HWS.out)).mono ?_; rintro e W2 ⟨rfl, hB2, hb2, ho2⟩)
        | (refine ⟨trivial, ?_⟩; gi_at_call 31; refine (CallsIn.inRound l (callsIn_wide.2 (HWB.out W2 hB2))).mono ?_; rintro e W3 ⟨rfl, hB3, hb3, ho3⟩))
      obtain ⟨_, v2, hpv2, _⟩ := id hB2
      have hbn2 := ho2 _ _ hbn (fun e => by have := Option.some.inj e; omega) (fun c fz e => by cases e)
      have hbn3 := ho3 _ _ hbn2 (fun e => by have := Option.some.inj e; omega) (fun c fz e => by cases e)
      have hcl : (Lib.byteCells (flatLn (pre.map fun y : Ln => y.1)) ++ Lib.strCells ⟨x.1.toArray⟩) ++ [Value.int .u8 10] = Lib.byteCells (flatLn ((pre ++ [x]).map fun y : Ln => y.1)) := by rw [List.map_append, flatLn_append]; simp [Lib.byteCells, Lib.strCells, flatLn]
      rw [hcl] at hB3
      have hbb : Below w.heap.size W W3 := (hb2.mono (by omega)).trans (hb3.mono (by omega))
      exact ⟨(keeps_of ho2 hb2.size hpv).trans (keeps_of ho3 hb3.size hpv2), ⟨hbb, hbn3.trans hbn.symm⟩, Or.inr hB3, hbel.trans hbb, hbn3⟩
    case done =>
      rintro D ys W hD hS ⟨hB, hbel, hbn⟩ hK
      obtain ⟨p, v, hpv⟩ : ∃ p v, W.heap[w1.heap.size]? = some (.cells #[p, v] 63 (0, 0)) := by
        rcases hB with ⟨_, v, q, _⟩ | ⟨_, v, q, _⟩
        · exact ⟨_, _, q⟩
        · exact ⟨_, _, q⟩
      have hS' : flatLn (ys.map fun y : Ln => y.1) = textT ⟨⟨ka, kn, kc, kd⟩, dft, ⟨ra, rn, rc, rl⟩⟩ := by unfold textT; rw [← hS]
      rw [hS'] at hB
      have HST := Lib.hid (Tryd.Builder_String_any_k w1.heap.size w1.heap.size (textT ⟨⟨ka, kn, kc, kd⟩, dft, ⟨ra, rn, rc, rl⟩⟩) W hB (by have := lt_of_some hpv; omega))
      obtain ⟨TX, hTX⟩ : ∃ T, T = textT ⟨⟨ka, kn, kc, kd⟩, dft, ⟨ra, rn, rc, rl⟩⟩ := ⟨_, rfl⟩
      rw [← hTX] at HST
      have HTX := Lib.hid hTX
      clear hTX hB hS hS'
      gi_wp2_with (first | (refine ⟨trivial, ?_⟩; gi_at_call 32; refine (callsIn_wide.2 HST.out).mono ?_; rintro e W2 ⟨rfl, hB2, hb2, ho2⟩))
      have hK2 := ho2 _ _ hK (fun e => by have := Option.some.inj e; rw [this, hpv] at hK; cases hK) (fun c fz e => by cases e)
      refine ⟨by simp, .inl ⟨_, _, rfl, run_takeDeferred hK2, ?_⟩⟩
      exact ⟨_, results_tmp2 rfl _ _ _, (by rw [← HTX.out]; rfl), (hbel.trans (hb2.mono (by omega))).trans (belowK_b (w := w) (Nat.le_refl _) W2 D _ _ (by omega) hK2 rfl rfl)⟩
    case stop =>
      rintro D c pre W _ _ h _
      exact h.elim
end Go.Proofs.YtnfchlkdppblfaaDoor
