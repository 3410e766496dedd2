/- Contracts of the landed code's null, enclosed and like, for any pattern. -/
import Derived.Test.YtbahadgcmaabcaaP
import Derived.StillTailTactics
import Derived.Deep.LoopGhost
namespace Go.Proofs.Ytbahadgcmaabcaa
open Go.RowKit
/-- Does a kid of that kind stand in brackets? -/
def enclB (k kind : Int) : Bool := if kind = 5 then decide (k = 3) || (decide (k = 5) || decide (k = 4)) else if kind = 3 then decide (k = 4) else false
/-- Does a pattern match the empty text? -/
def nullT : Tr → Bool
  | .node k _ lo _ _ n _ kid => if k = 1 then true else if k = 4 then anyTo (fun i => nullT (kid i)) n else if k = 5 then decide (lo = 0) || allTo (fun i => nullT (kid i)) n else if k = 3 then allTo (fun i => nullT (kid i)) n else false
  | .nul => false
/-- Are two patterns, their kids aside, the same? -/
def likeB (t u : Tr) : Bool := decide (t.k = u.k) && (eqS t.s u.s && (decide (t.lo = u.lo) && (decide (t.hi = u.hi) && decide (t.n = u.n))))
theorem eqS_any (s s' : Nat → Int) {b : Bool} (h : eqS s s' = b) (w : World) : Sem.run Try.prog (binOp .eql 24 (SV s) (SV s')) w = .ok (.bool b) w := (eql24 s s' w).trans (by rw [h])
theorem alloc2_below (w : World) (o o' : Obj) : Below w.heap.size w ((w.alloc o).alloc o') := (alloc_below w o).alloc (by simp) _
end Go.Proofs.Ytbahadgcmaabcaa
/- Contracts of the landed code's weight and branch.leave. -/
namespace Go.Proofs.Ytbahadgcmaabcaa
open Go.RowKit
abbrev two (a b : Int) : Value := .tuple #[.int .i64 a, .int .i64 b]
/-- How often a Rep counts. -/
def repM (lo hi : Int) : Nat := (max (max lo hi) 1).toNat
set_option maxRecDepth 100000 in
set_option maxHeartbeats 1000000 in
theorem weight_bytes (s : Nat → Int) (lo hi : Int) (v : Value) (w : World) :
    Calls Try.prog 53 #[nodeV 2 s lo hi v] w fun e w' => e = .returned (two 1 0) ∧ Below w.heap.size w w' := by
  go_enter Try.func53, Try.ntmps53
  go_wp2
  go_ret2
  exact ⟨rfl, alloc_below _ _⟩
set_option maxRecDepth 100000 in
set_option maxHeartbeats 1000000 in
theorem weight_many (k : Int) (hk : k = 3 ∨ k = 4) (s : Nat → Int) (lo hi : Int) (v : Value) (w : World) :
    Calls Try.prog 53 #[nodeV k s lo hi v] w fun e w' => e = .returned (two 0 1) ∧ Below w.heap.size w w' := by
  rcases hk with rfl | rfl
  all_goals
    go_enter Try.func53, Try.ntmps53
    go_wp2
    go_ret2
    exact ⟨rfl, alloc_below _ _⟩
set_option maxRecDepth 100000 in
set_option maxHeartbeats 1000000 in
theorem weight_empty (s : Nat → Int) (lo hi : Int) (v : Value) (w : World) :
    Calls Try.prog 53 #[nodeV 1 s lo hi v] w fun e w' => e = .returned (two 0 0) ∧ Below w.heap.size w w' := by
  go_enter Try.func53, Try.ntmps53
  go_wp2
  go_ret2
  exact ⟨rfl, alloc_below _ _⟩
theorem two_eq {a b c d : Int} (h : a = c) (h' : b = d) : Ending.returned (two a b) = .returned (two c d) := by rw [h, h']
set_option maxRecDepth 100000 in
set_option maxHeartbeats 1000000 in
theorem weight_rep (s : Nat → Int) (lo hi : Int) (h1 : lo ≤ 20) (h2 : hi ≤ 20) (v : Value) (w : World) :
    Calls Try.prog 53 #[nodeV 5 s lo hi v] w fun e w' => e = .returned (two 0 (repM lo hi)) ∧ Below w.heap.size w w' := by
  by_cases ha : lo ≤ hi
  · by_cases hb : 1 ≤ hi
    · have HX := Lib.hid (show ((repM lo hi : Nat) : Int) = hi by unfold repM; omega)
      have hc : hi ≤ 1000000 := by omega
      go_enter Try.func53, Try.ntmps53
      go_wp2_with fail
      go_quiet (fail)
      go_wp2
      all_goals
        go_ret2
        exact ⟨two_eq rfl (by have := HX.out; omega), below_drewN (alloc_below _ _) _⟩
    · have HX := Lib.hid (show ((repM lo hi : Nat) : Int) = 1 by unfold repM; omega)
      go_enter Try.func53, Try.ntmps53
      go_wp2_with fail
      go_quiet (fail)
      go_wp2
      all_goals
        go_ret2
        exact ⟨two_eq rfl (by have := HX.out; omega), below_drewN (alloc_below _ _) _⟩
  · by_cases hb : 1 ≤ lo
    · have HX := Lib.hid (show ((repM lo hi : Nat) : Int) = lo by unfold repM; omega)
      have hc : lo ≤ 1000000 := by omega
      go_enter Try.func53, Try.ntmps53
      go_wp2_with fail
      go_quiet (fail)
      go_wp2
      all_goals
        go_ret2
        exact ⟨two_eq rfl (by have := HX.out; omega), below_drewN (alloc_below _ _) _⟩
    · have HX := Lib.hid (show ((repM lo hi : Nat) : Int) = 1 by unfold repM; omega)
      go_enter Try.func53, Try.ntmps53
      go_wp2_with fail
      go_quiet (fail)
      go_wp2
      all_goals
        go_ret2
        exact ⟨two_eq rfl (by have := HX.out; omega), below_drewN (alloc_below _ _) _⟩
theorem info57 : (Try.prog.info? 80).map (fun i => (i.zero, i.size, i.bytes)) = some (some (.agg #[.slice none 0 0, .int .i64 0]), 2, 32) := by kernel_rfl
theorem grownBy_refl (w : World) (row : Option Nat) : w.grownBy w row := ⟨rfl, rfl, rfl, Nat.le_refl _, fun _ _ _ => rfl⟩
theorem grownBy_trans {a b c : World} {row : Option Nat} (h : a.grownBy b row) (k : b.grownBy c row) : a.grownBy c row :=
  ⟨k.os.trans h.os, k.tape.trans h.tape, k.output.trans h.output, Nat.le_trans h.size k.size, fun i hi hn => (k.block i (Nat.lt_of_lt_of_le hi h.size) hn).trans (h.block i hi hn)⟩
set_option maxRecDepth 100000 in
set_option maxHeartbeats 1000000 in
theorem leave_one (a : Option Addr) (cap : Nat) (m : Int) (v : Value) (w : World) :
    Calls Try.prog 52 #[.agg #[.slice a 1 cap, .int .i64 m], v] w fun e w' => e = .returned v ∧ ∃ o, w' = w.alloc o := by
  go_enter Try.func52, Try.ntmps52
  go_wp2
  go_ret
  exact ⟨rfl, _, rfl⟩
/-- An append in a region that draws its order. -/
theorem step_append_own {w : World} {ops : Array Oper} {o : Oper} {a : Act} {K : Act → World → Prop} {Q : Exit → Act → World → Prop} {X : Prop} (hgd : o.guard = none) (s x : Operand) (t : TypeId)
    (ho : o.op = .call { callee := .builtin .append, args := #[s, x], argTypes := #[t, t] })
    (base : Nat) (e : TypeId) (i : TypeInfo) (z : Value) (size bytes : Nat) (ht : Try.prog.underlying t = some (.slice e)) (hi : Try.prog.info? e = some i) (hz : i.zero = some z)
    (hsize : i.size = size) (hby : i.bytes = bytes) (hzs : z.cells.size = size) (hsz : 0 < size)
    (v : Value) (n : Nat) (xs : List Value) (hs : a.eval s = v) (hown : w.ownsRow base e size v n xs)
    (ad : Addr) (m c : Nat) (news : List Value) (hx : a.eval x = .slice (some ad) m c) (hl : news.length = m * size) (hnews : ∀ j u, news[j]? = some u → w.cell? (ad.add j) = some u) (h1 : ∀ u ∈ news, u.oneCell' = true)
    (h63 : n + m ≤ maxLen) (hbytes : (n + m) * bytes ≤ 140737488355328) (hbase : base ≤ w.heap.size)
    (h : ∀ v' w', w'.ownsRow base e size v' (n + m) (xs ++ news) → w.grownBy w' v.ownBlock → (v' = .slice none 0 0 ↔ v = .slice none 0 0 ∧ m = 0) → K (a.put o.dst v') w') :
    if Region.wanted o (yielded ops a.tmps) = true then Oper.wp Try.prog o a w K Q else X := by
  have hw : Region.wanted o (yielded ops a.tmps) = true := by simp [Region.wanted, hgd]
  rw [if_pos hw]
  exact wp_append_own w s x t ho base e i z size bytes ht hi hz hsize hby hzs hsz v n xs hs hown ad m c news hx hl hnews h1 h63 hbytes hbase h
theorem grownBy_drew (w : World) (row : Option Nat) : w.grownBy w.drew row := ⟨rfl, rfl, rfl, Nat.le_refl _, fun _ _ _ => rfl⟩
/-- A box of two cells stays, whatever row is appended to. -/
theorem keep2 {wq w1 : World} {p e : Nat} {v0 v1 : Value} {row : Option Nat} (h : wq.heap[p]? = some (.cells #[v0, v1] e (0, 0))) (hg : wq.grownBy w1 row) (hne : some p ≠ row) : w1.cell? ⟨p, 0, none⟩ = some v0 ∧ w1.cell? ⟨p, 1, none⟩ = some v1 := by
  have hp : p < wq.heap.size := by
    rcases Nat.lt_or_ge p wq.heap.size with q | q
    · exact q
    · rw [Array.getElem?_eq_none q] at h; cases h
  have h' := (hg.block p hp hne).trans h
  exact ⟨cell_of_row w1 p 0 _ _ _ h', cell_of_row w1 p 1 _ _ _ h'⟩
set_option maxRecDepth 100000 in
set_option maxHeartbeats 1000000 in
theorem leave_more (g off n cap : Nat) (m : Int) (base L : Nat) (xs : List Value) (v : Value) (w : World) (hn : 2 ≤ n) (hcap : n ≤ cap) (hL : L ≤ 5000) (hbase : base ≤ w.heap.size)
    (hown : w.ownsRow base 80 2 v L xs) :
    Calls Try.prog 52 #[.agg #[.slice (some ⟨g, off, none⟩) n cap, .int .i64 m], v] w fun e w' => ∃ v', e = .returned v' ∧ w'.ownsRow base 80 2 v' (L + 1) (xs ++ [.slice (some ⟨g, off + 8, none⟩) (n - 1) (cap - 1), .int .i64 m]) ∧ w.grownBy w' v.ownBlock := by
  obtain ⟨i0, hi, hz0, hz1, hz2⟩ := info_parts info57
  have hn1 : ((n : Int) == 1) = false := by simp; omega
  have hc1 : ¬ cap = 1 := by omega
  have i1 : (1 : Int) ≤ (n : Int) := by omega
  have i2 : (1 : Int) ≤ (cap : Int) := by omega
  have i3 : (n : Int) ≤ (cap : Int) := by omega
  have i4 : 1 ≤ n := by omega
  have i5 : 1 ≤ cap := by omega
  go_enter Try.func52, Try.ntmps52
  go_wp2_with fail
  have HK := Lib.hid (heap_alloc_new w (.cells #[.slice (some ⟨g, off, none⟩) n cap, .int .i64 m] 80))
  have hO := hown.alloc (.cells #[.slice (some ⟨g, off, none⟩) n cap, .int .i64 m] 80)
  have HG := Lib.hid (World.grownBy_alloc w (.cells #[.slice (some ⟨g, off, none⟩) n cap, .int .i64 m] 80) v.ownBlock)
  have hne : some w.heap.size ≠ v.ownBlock := fun e => by have := (hown.lt _ e.symm).2; omega
  have hbq : base ≤ (w.alloc (.cells #[.slice (some ⟨g, off, none⟩) n cap, .int .i64 m] 80)).heap.size := by simp; omega
  generalize hwq : w.alloc (.cells #[.slice (some ⟨g, off, none⟩) n cap, .int .i64 m] 80) = wq at *
  clear hwq
  obtain ⟨c0, c1⟩ := keep2 HK.out (grownBy_refl wq v.ownBlock) hne
  generalize w.heap.size = p at *
  go_region_held3 (fun w' => w'.cell? ⟨p, 0, none⟩ = some (.slice (some ⟨g, off, none⟩) n cap) ∧ w'.cell? ⟨p, 1, none⟩ = some (.int .i64 m))
    (first | exact keep2 HK.out (grownBy_refl _ _) hne | exact keep2 HK.out (grownBy_drew _ _) hne | exact keep2 HK.out (grownBy_trans (grownBy_drew _ _) (World.grownBy_alloc _ _ _)) hne | exact keep2 HK.out (grownBy_trans (grownBy_trans (grownBy_drew _ _) (World.grownBy_alloc _ _ _)) hgrow) hne)
    (first
      | (refine step_append_own (by rfl) (.tmp 10) (.tmp 17) 81 (by rfl) base 80 i0 _ 2 32 Try.underlying81 hi hz0 hz1 hz2 rfl (by omega) v L xs (by rfl) (World.ownsRow.alloc (w := wq.drew) hO _) ⟨wq.heap.size, 0, none⟩ 1 1 [.slice (some ⟨g, off + 8, none⟩) (n - 1) (cap - 1), .int .i64 m] (by rfl) (by rfl) (World.news_of_block (cs := #[.slice (some ⟨g, off + 8, none⟩) (n - 1) (cap - 1), .int .i64 m]) (t := 80) (fr := (0, 0)) (heap_alloc_new wq.drew _)) (by simp [Value.oneCell']) (by unfold maxLen; omega) (by omega) (by simp; omega) ?_; intro v1 w1 hown1 hgrow hnil))
  go_wp2
  go_ret
  exact ⟨_, rfl, hown1, grownBy_trans HG.out (grownBy_trans (grownBy_trans (grownBy_drew _ _) (World.grownBy_alloc _ _ _)) hgrow)⟩
end Go.Proofs.Ytbahadgcmaabcaa
