/- Contracts of math/bits.Mul64, Mul and slices.Repeat: so many copies of one pattern. -/
import Derived.Test.YtbahadgcmaabcaaJf
import Derived.Test.YtbahadgcmaabcaaMd
import Derived.Laws.CopyRow
namespace Go.Proofs.Ytbahadgcmaabcaa
open Go.RowKit Go
set_option maxRecDepth 100000 in
set_option maxHeartbeats 4000000 in
theorem mul64_any (n : Nat) (hn : n ≤ 20) (w : World) : Calls Try.prog 73 #[.int .u64 1, .int .u64 (n : Int)] w fun e w' => e = .returned (.tuple #[.int .u64 0, .int .u64 (n : Int)]) ∧ w = w' := by
  have hc : n = 0 ∨ n = 1 ∨ n = 2 ∨ n = 3 ∨ n = 4 ∨ n = 5 ∨ n = 6 ∨ n = 7 ∨ n = 8 ∨ n = 9 ∨ n = 10 ∨ n = 11 ∨ n = 12 ∨ n = 13 ∨ n = 14 ∨ n = 15 ∨ n = 16 ∨ n = 17 ∨ n = 18 ∨ n = 19 ∨ n = 20 := by omega
  rcases hc with rfl | rfl | rfl | rfl | rfl | rfl | rfl | rfl | rfl | rfl | rfl | rfl | rfl | rfl | rfl | rfl | rfl | rfl | rfl | rfl | rfl
  all_goals
    clear hn
    go_enter Try.func73, Try.ntmps73
    go_wp2
    go_ret2
    exact ⟨rfl, rfl⟩
set_option maxRecDepth 100000 in
theorem mul_any (n : Nat) (hn : n ≤ 20) (w : World) : Calls Try.prog 71 #[.int .u64 1, .int .u64 (n : Int)] w fun e w' => e = .returned (.tuple #[.int .u64 0, .int .u64 (n : Int)]) ∧ w = w' := by
  go_enter Try.func71, Try.ntmps71
  go_wp2_with (go_at_call 73; refine (mul64_any n hn _).mono ?_; rintro e w' ⟨rfl, rfl⟩)
  go_ret2
  exact ⟨rfl, rfl⟩
/-- 'copy' of k patterns into a row of patterns. -/
theorem run_copy8 (w : World) (ty : TypeId) (g o dLen dCap : Nat) (a : Addr) (sLen sCap k : Nat) (cur : Array Value) (cs : List Value) (hk : k = Nat.min sLen dLen) (hl : cs.length = k * 8)
    (hg : w.heap[g]? = some (.cells cur 27 (0, 0))) (hsrc : ∀ j v, cs[j]? = some v → w.cell? (a.add j) = some v) (hfit : o + cs.length ≤ cur.size) (h1 : ∀ v ∈ cs, v.oneCell' = true) :
    (Builtin.copy_ #[25, 25] ty #[.slice (some ⟨g, o, none⟩) dLen dCap, .slice (some a) sLen sCap]).run Try.prog w = .ok (goInt k) (w.setRow g (cur.toList.take o ++ cs ++ cur.toList.drop (o + cs.length)).toArray) := by
  have h2 := run_loadCells_list (P := Try.prog) w a cs hsrc
  have hst := run_storeCells_at Try.prog g o 27 cs 0 cur w hg (by simpa using hfit) h1
  obtain ⟨i, hi, _, hs, _⟩ := info_parts info27
  rw [hl] at h2
  simp [Builtin.copy_, run_underlying Try.underlying25, Builtin.lenOf, Builtin.firstCells, sizeOf, typeInfo, hi, hs, ← hk, h2, hst]
/-- The same, said of a row of the call's own of which the first c patterns are known. -/
theorem run_copy_own8 {w : World} {base g c N : Nat} {xs : List Value} (h : w.ownsRow base 27 8 (.slice (some ⟨g, 0, none⟩) c N) c xs) (ty : TypeId) (o dLen dCap : Nat) (a : Addr) (sLen sCap k : Nat) (cs : List Value) (ho : o = c * 8) (hk : k = Nat.min sLen dLen) (hl : cs.length = k * 8)
    (hsrc : ∀ j v, cs[j]? = some v → w.cell? (a.add j) = some v) (hfit : c + k ≤ N) (h1 : ∀ v ∈ cs, v.oneCell' = true) :
    ∃ w', (Builtin.copy_ #[25, 25] ty #[.slice (some ⟨g, o, none⟩) dLen dCap, .slice (some a) sLen sCap]).run Try.prog w = .ok (goInt k) w' ∧ w'.ownsRow base 27 8 (.slice (some ⟨g, 0, none⟩) (c + k) N) (c + k) (xs ++ cs) ∧ w.grownBy w' (some g) ∧ w'.heap.size = w.heap.size := by
  obtain ⟨hx, ⟨hv, _⟩ | ⟨g', cap, cur, hv, hb, hg, h2, h3, h4, h5⟩⟩ := h
  · cases hv
  · injection hv with ha hn hc
    injection ha with ha
    injection ha with ha _ _
    subst ha hc ho
    refine ⟨_, run_copy8 w ty g (c * 8) dLen dCap a sLen sCap k cur cs hk hl hg hsrc (by rw [h4, hl]; omega) h1, ⟨by rw [List.length_append, hx, hl]; omega, Or.inr ⟨g, N, _, rfl, hb, setRow_heap w g cur _ _ _ hg, hfit, h3, ?_, ?_⟩⟩, ⟨rfl, rfl, rfl, by simp [World.setRow], fun q _ hq => setRow_other w g q _ (fun e => hq (by rw [e]))⟩, by simp [World.setRow]⟩
    · simp [hl, h4]; omega
    · rw [h5, List.append_assoc, ← List.append_assoc]
      rw [List.take_append_of_le_length (by rw [List.length_append, hx, hl]; omega)]
      rw [List.take_of_length_le (by rw [List.length_append, hx, hl]; omega)]
theorem wpList_copy8 {ops : Array Oper} {rest : List Oper} {op : Oper} {a : Act} {w : World} {Q : Exit → Act → World → Prop} (hgd : op.guard = none) (d s : Operand) (hop : op.op = .call { callee := .builtin .copy, args := #[d, s], argTypes := #[25, 25] }) {base g c N : Nat} {xs : List Value} (h : w.ownsRow base 27 8 (.slice (some ⟨g, 0, none⟩) c N) c xs)
    (o dLen dCap : Nat) (ad : Addr) (sLen sCap k : Nat) (cs : List Value) (hd : a.eval d = .slice (some ⟨g, o, none⟩) dLen dCap) (hs : a.eval s = .slice (some ad) sLen sCap) (ho : o = c * 8) (hk : k = Nat.min sLen dLen) (hl : cs.length = k * 8) (hsrc : ∀ j v, cs[j]? = some v → w.cell? (ad.add j) = some v) (hfit : c + k ≤ N) (h1 : ∀ v ∈ cs, v.oneCell' = true)
    (hK : ∀ w', w'.ownsRow base 27 8 (.slice (some ⟨g, 0, none⟩) (c + k) N) (c + k) (xs ++ cs) → w.grownBy w' (some g) → w'.heap.size = w.heap.size → wpList Try.prog ops Q rest (a.put op.dst (goInt k)) w') : wpList Try.prog ops Q (op :: rest) a w :=
  wpList_plain hgd fun K hK' => by
    obtain ⟨w', hr, k1, k2, k3⟩ := run_copy_own8 h op.type o dLen dCap ad sLen sCap k cs ho hk hl hsrc hfit h1
    unfold Oper.wp execOp
    simp only [hop, resolve, invoke, builtin, Sem.run_bind, Sem.run_pure, Result.andThen_ok, List.map_toArray, List.map_cons, List.map_nil, hd, hs, hr]
    exact hK' _ _ (hK w' k1 k2 k3)
theorem step_copy8 {ops : Array Oper} {op : Oper} {a : Act} {w : World} {K : Act → World → Prop} {Q : Exit → Act → World → Prop} {E : Prop} (hgd : op.guard = none) (d s : Operand) (hop : op.op = .call { callee := .builtin .copy, args := #[d, s], argTypes := #[25, 25] }) {base g c N : Nat} {xs : List Value} (h : w.ownsRow base 27 8 (.slice (some ⟨g, 0, none⟩) c N) c xs)
    (o dLen dCap : Nat) (ad : Addr) (sLen sCap k : Nat) (cs : List Value) (hd : a.eval d = .slice (some ⟨g, o, none⟩) dLen dCap) (hs : a.eval s = .slice (some ad) sLen sCap) (ho : o = c * 8) (hk : k = Nat.min sLen dLen) (hl : cs.length = k * 8) (hsrc : ∀ j v, cs[j]? = some v → w.cell? (ad.add j) = some v) (hfit : c + k ≤ N) (h1 : ∀ v ∈ cs, v.oneCell' = true)
    (hK : ∀ w', w'.ownsRow base 27 8 (.slice (some ⟨g, 0, none⟩) (c + k) N) (c + k) (xs ++ cs) → w.grownBy w' (some g) → w'.heap.size = w.heap.size → K (a.put op.dst (goInt k)) w') :
    if Region.wanted op (yielded ops a.tmps) = true then Oper.wp Try.prog op a w K Q else E := by
  have hw : Region.wanted op (yielded ops a.tmps) = true := by simp [Region.wanted, hgd]
  rw [if_pos hw]
  obtain ⟨w', hr, k1, k2, k3⟩ := run_copy_own8 h op.type o dLen dCap ad sLen sCap k cs ho hk hl hsrc hfit h1
  unfold Oper.wp execOp
  simp only [hop, resolve, invoke, builtin, Sem.run_bind, Sem.run_pure, Result.andThen_ok, List.map_toArray, List.map_cons, List.map_nil, hd, hs, hr]
  exact hK w' k1 k2 k3
theorem repl_flat (t : Tr) (c k : Nat) : flatT (List.replicate c t) ++ flatT (List.replicate k t) = flatT (List.replicate (c + k) t) := by
  rw [← flatT_append, List.replicate_append_replicate]
theorem repl_len (t : Tr) (c : Nat) : (flatT (List.replicate c t)).length = c * 8 := by rw [flatT_len, List.length_replicate]
theorem own_cut8 {w : World} {base g n N c : Nat} {xs : List Value} (h : w.ownsRow base 27 8 (.slice (some ⟨g, 0, none⟩) n N) n xs) (hc : c ≤ n) : w.ownsRow base 27 8 (.slice (some ⟨g, 0, none⟩) c N) c (xs.take (c * 8)) := by
  obtain ⟨hx, ⟨hv, _⟩ | ⟨g', cap, cur, hv, hb, hg, h2, h3, h4, h5⟩⟩ := h
  · cases hv
  · injection hv with ha hn hcap
    injection ha with ha
    injection ha with ha _ _
    subst ha hcap
    refine ⟨by rw [List.length_take, hx]; omega, Or.inr ⟨g, N, cur, rfl, hb, hg, by omega, h3, h4, ?_⟩⟩
    rw [← h5, List.take_take, Nat.min_eq_left (by omega)]
/-- The first copies are there. -/
theorem repl_news {w : World} {g0 : Nat} {t : Tr} {k : Nat} (hk : k ≤ 1) (h : w.heap[g0]? = some (.cells (row8 t.k t.s t.lo t.hi (.slice t.a t.n t.cap)) 27 (0, 0))) : ∀ j v, (flatT (List.replicate k t))[j]? = some v → w.cell? ((⟨g0, 0, none⟩ : Addr).add j) = some v := fun j v hv => by
  have hk' : k = 0 ∨ k = 1 := by omega
  rcases hk' with rfl | rfl
  · simp [flatT] at hv
  · rw [show List.replicate 1 t = [t] by rfl, flatT_one] at hv
    exact World.news_of_block h j v hv
/-- Copies that are there may be read again. -/
theorem own_news {w : World} {base g m N : Nat} {t : Tr} {k : Nat} (hk : k ≤ m) (h : w.ownsRow base 27 8 (.slice (some ⟨g, 0, none⟩) m N) m (flatT (List.replicate m t))) : ∀ j v, (flatT (List.replicate k t))[j]? = some v → w.cell? ((⟨g, 0, none⟩ : Addr).add j) = some v := fun j v hv => by
  refine h.cells (g := g) rfl j v ?_
  have e : m = k + (m - k) := by omega
  rw [e, ← repl_flat, List.getElem?_append_left (List.getElem?_eq_some_iff.1 hv).1]
  exact hv
end Go.Proofs.Ytbahadgcmaabcaa
/- Contract of slices.Repeat: so many copies of one pattern. -/
namespace Go.Proofs.Ytbahadgcmaabcaa
open Go.RowKit Go
set_option maxRecDepth 100000 in
set_option maxHeartbeats 4000000 in
theorem repeat_any (t : Tr) (g0 N : Nat) (w : World) (hN : N ≤ 20) (hg0 : w.heap[g0]? = some (.cells (row8 t.k t.s t.lo t.hi (.slice t.a t.n t.cap)) 27 (0, 0))) :
    Calls Try.prog 69 #[.slice (some ⟨g0, 0, none⟩) 1 1, .int .i64 (N : Int)] w fun e w' => ∃ v, e = .returned v ∧ w'.ownsRow w.heap.size 27 8 v N (flatT (List.replicate N t)) ∧ Below w.heap.size w w' := by
  obtain ⟨i0, hi, hz0, hz1, hz2⟩ := info_parts info27
  have HNE := Lib.hid hg0
  have hn1 : (N : Int) ≤ 20 := by omega
  clear hg0
  go_enter Try.func69, Try.ntmps69
  go_wp2_with (first
    | (go_at_call 71; refine (mul_any N hN _).mono ?_; rintro e w' ⟨rfl, rfl⟩)
    | (at_make; refine wpList_make_full _ rfl _ _ 25 rfl w.heap.size 27 i0 _ 8 Try.underlying25 hi hz0 hz1 .i64 .i64 _ _ N rfl rfl rfl rfl (by rw [hz2]; omega) (by unfold maxLen; omega) (by simp) ?_; intro w1 hown hgr; have HO1 := Lib.hid (own_cut8 hown (Nat.zero_le N)); have HB1 := Lib.hid ((Below.refl w.heap.size w).grown hgr (Nat.le_refl _) (fun k hk => by cases hk)); clear hown hgr)
    | (refine wpList_copy8 rfl (.tmp 31) (.tmp 32) rfl HO1.out 0 N N ⟨g0, 0, none⟩ 1 1 (Nat.min 1 N) (flatT (List.replicate (Nat.min 1 N) t)) rfl rfl (by simp) rfl (repl_len _ _) (repl_news (Nat.min_le_left _ _) ((HB1.out.block _ (lt_heap HNE.out)).trans HNE.out)) (by have : Nat.min 1 N ≤ N := Nat.min_le_right 1 N; omega) (flatT_one_cell _) ?_; intro w2 hown2 hgr2 hsz2; have HO2 : Hid (w2.ownsRow w.heap.size 27 8 (.slice (some ⟨w.heap.size, 0, none⟩) (Nat.min 1 N) N) (Nat.min 1 N) (flatT (List.replicate (Nat.min 1 N) t))) := Lib.hid (by simpa using hown2); have HB2 := Lib.hid (HB1.out.grown hgr2 HB1.out.size fun k hk => by cases hk; exact Nat.le_refl _); clear hown2 hgr2 hsz2))
  go_loopw [8] (fun c wr => ∃ m : Nat, m ≤ N ∧ (m = 0 → N = 0) ∧ c = .int .i64 m ∧ Hid (wr.ownsRow w.heap.size 27 8 (.slice (some ⟨w.heap.size, 0, none⟩) m N) m (flatT (List.replicate m t))) ∧ Below w.heap.size w wr) (fun c _ => N - (intOf c).toNat)
  case atStart => exact ⟨Nat.min 1 N, Nat.min_le_right 1 N, (fun h => by rcases Nat.lt_or_ge N 1 with q | q; omega; have e : Nat.min 1 N = 1 := Nat.min_eq_left q; omega), rfl, HO2, HB2.out⟩
  case round =>
    obtain ⟨m, hm, hm0, rfl, HO, hb⟩ := hrel
    by_cases hlt : m < N
    · have hlt' : (m : Int) < (N : Int) := by omega
      have hne : ¬ N = m := by omega
      have hm1 : 1 ≤ m := by omega
      have q1 : (0 : Int) ≤ (m : Int) := by omega
      have q2 : (m : Int) ≤ (N : Int) := by omega
      have HB := Lib.hid hb
      obtain ⟨k, hk⟩ : ∃ k, k = Nat.min m (N - m) := ⟨_, rfl⟩
      have k1 : k ≤ m := by rw [hk]; exact Nat.min_le_left _ _
      have k2 : m + k ≤ N := by have : k ≤ N - m := by rw [hk]; exact Nat.min_le_right _ _
                                omega
      have k3 : 1 ≤ k := by
        rcases Nat.le_total m (N - m) with q | q
        · have : k = m := by rw [hk]; exact Nat.min_eq_left q
          omega
        · have : k = N - m := by rw [hk]; exact Nat.min_eq_right q
          omega
      have HKK := Lib.hid hk
      have HN1 := Lib.hid (own_news k1 (show World.ownsRow wr.drew _ _ _ _ _ _ from HO.out))
      have e9 : IntKind.i64.wrap ((m : Int) + (k : Int)) = (m : Int) + (k : Int) := IntWalk.i64_in _ (by omega)
      clear hm0 hb hk
      go_wp2_with fail
      go_region_law
        (first
          | (go_frame; refine step_copy8 (by rfl) (.tmp 41) (.tmp 44) (by rfl) (show World.ownsRow wr.drew _ _ _ _ _ _ from HO.out) (m * 8) (N - m) (N - m) ⟨w.heap.size, 0, none⟩ m N k (flatT (List.replicate k t)) (by rfl) (by rfl) rfl HKK.out (repl_len _ _) HN1.out k2 (flatT_one_cell _) ?_; intro w4 hown4 hgr4 hsz4))
      all_goals
        have HO4 : Hid (w4.ownsRow w.heap.size 27 8 (.slice (some ⟨w.heap.size, 0, none⟩) (m + k) N) (m + k) (flatT (List.replicate (m + k) t))) := Lib.hid (by rw [← repl_flat]; exact hown4)
        have HB4 := Lib.hid (HB.out.drew.grown hgr4 HB.out.size fun k hk => by cases hk; exact Nat.le_refl _)
        clear hown4 hgr4 hsz4
        go_frame
        go_roundw
        case rel => first | exact ⟨m + k, by omega, by omega, by go_num, HO4, HB4.out⟩ | ((repeat apply Exists.intro); refine ⟨?rl, rfl⟩; exact ⟨m + k, by omega, by omega, by go_num, HO4, HB4.out⟩)
        case measure => simp [intOf]; omega
    · obtain rfl : m = N := by omega
      have HB := Lib.hid hb
      clear hm0 hb
      go_wp2
      go_ret
      exact ⟨_, rfl, HO.out, HB.out⟩
end Go.Proofs.Ytbahadgcmaabcaa
