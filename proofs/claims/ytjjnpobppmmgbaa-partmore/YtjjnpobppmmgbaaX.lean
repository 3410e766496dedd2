/- What PartMore needs of sets: turned about, a part of them, and each with its complement. -/
import Derived.Test.YtjjnpobppmmgbaaT
import Derived.Test.YtjjnpobppmmgbaaU
namespace Go.Proofs.Ytjjnpobppmmgbaa
open Go.RowKit
theorem alike_append (fs gs : List (Nat → Int)) (a b : Nat) : alike (fs ++ gs) a b = (alike fs a b && alike gs a b) := by simp [alike]
theorem alike_rot (fs : List (Nat → Int)) (k : Nat) : alike (fs.drop k ++ fs.take k) = alike fs := by
  funext a b
  rw [alike_append, Bool.and_comm, ← alike_append, List.take_append_drop]
theorem alike_part {fs : List (Nat → Int)} (k : Nat) {a b : Nat} (h : alike fs a b = true) : alike (fs.take k) a b = true := by
  rw [← List.take_append_drop k fs, alike_append] at h
  exact (Bool.and_eq_true_iff.1 h).1
/-- A set's complement, as the document makes it. -/
def notF (f : Nat → Int) : Nat → Int := accAll fun b => !hasI f b
theorem alike_not (fs : List (Nat → Int)) (a b : Nat) (ha : a < 256) (hb : b < 256) : alike (fs ++ fs.map notF) a b = alike fs a b := by
  rw [alike_append]
  have : alike (fs.map notF) a b = alike fs a b := by
    unfold alike
    rw [List.all_map]
    refine congrArg fs.all (funext fun f => ?_)
    have h1 : hasI (notF f) a = !hasI f a := hasI_acc _ (by omega) (by omega)
    have h2 : hasI (notF f) b = !hasI f b := hasI_acc _ (by omega) (by omega)
    show (hasI (notF f) a == hasI (notF f) b) = (hasI f a == hasI f b)
    rw [h1, h2]
    cases hasI f a <;> cases hasI f b <;> rfl
  rw [this, Bool.and_self]
theorem getF_take {fs : List (Nat → Int)} {k i : Nat} (h : i < k) : getF (fs.take k) i = getF fs i := by
  unfold getF
  rw [List.getD_eq_getElem?_getD, List.getD_eq_getElem?_getD, List.getElem?_take, if_pos h]
theorem getF_at {fs : List (Nat → Int)} {i : Nat} (h : i < fs.length) : fs[i] = getF fs i := by
  unfold getF
  rw [List.getD_eq_getElem?_getD, List.getElem?_eq_getElem h]; rfl
theorem take_map_succ {fs : List (Nat → Int)} {i : Nat} (h : i < fs.length) : (fs.take (i + 1)).map notF = (fs.take i).map notF ++ [notF (getF fs i)] := by
  rw [List.take_succ_eq_append_getElem h, List.map_append, getF_at h]; rfl
theorem flat4_drop (fs : List (Nat → Int)) : ∀ k, flat4 (fs.drop k) = (flat4 fs).drop (k * 4) := by
  intro k
  induction k generalizing fs with
  | zero => rw [List.drop_zero, Nat.zero_mul, List.drop_zero]
  | succ k ih =>
    cases fs with
    | nil => simp [flat4]
    | cons f r =>
      rw [List.drop_succ_cons, ih, show (k + 1) * 4 = k * 4 + 4 by omega]
      simp [flat4]
theorem flat4_take (fs : List (Nat → Int)) : ∀ k, flat4 (fs.take k) = (flat4 fs).take (k * 4) := by
  intro k
  induction k generalizing fs with
  | zero => simp [flat4]
  | succ k ih =>
    cases fs with
    | nil => simp [flat4]
    | cons f r =>
      have := ih r
      rw [List.take_succ_cons, show (k + 1) * 4 = k * 4 + 4 by omega]
      simp [flat4] at this ⊢
      exact this
theorem one_flat (fs : List (Nat → Int)) : ∀ u ∈ flat4 fs, u.oneCell' = true := by
  intro u hu
  simp [flat4] at hu
  obtain ⟨f, _, h | h | h | h⟩ := hu <;> subst h <;> rfl
/-- The cells of a row of sets, from the k-th set on, and up to it. -/
theorem news_drop {w : World} {g k : Nat} {fs : List (Nat → Int)} (h : ∀ j u, (flat4 fs)[j]? = some u → w.cell? ⟨g, j, none⟩ = some u) : ∀ j u, (flat4 (fs.drop k))[j]? = some u → w.cell? ((⟨g, k * 4, none⟩ : Addr).add j) = some u := by
  intro j u hj
  rw [WideShapes.add_plain]
  rw [flat4_drop, List.getElem?_drop] at hj
  exact h _ _ hj
theorem news_take {w : World} {g k : Nat} {fs : List (Nat → Int)} (h : ∀ j u, (flat4 fs)[j]? = some u → w.cell? ⟨g, j, none⟩ = some u) : ∀ j u, (flat4 (fs.take k))[j]? = some u → w.cell? ((⟨g, 0, none⟩ : Addr).add j) = some u := by
  intro j u hj
  rw [WideShapes.add_plain, Nat.zero_add]
  rw [flat4_take, List.getElem?_take] at hj
  split at hj
  · exact h _ _ hj
  · cases hj
/-- Where a slice that is cut at k begins: at its end it keeps the old place. -/
def cutAt (g cap k : Nat) : Addr := if cap = k then ⟨g, 0, none⟩ else ⟨g, k * 4, none⟩
theorem slice_if (g cap k m c : Nat) : Value.slice (if cap = k then some ⟨g, 0, none⟩ else some ⟨g, k * 4, none⟩) m c = .slice (some (cutAt g cap k)) m c := by
  unfold cutAt; split <;> rfl
theorem news_cut {w : World} {g cap k n : Nat} {fs : List (Nat → Int)} (hn : fs.length = n) (hc : n ≤ cap) (h : ∀ j u, (flat4 fs)[j]? = some u → w.cell? ⟨g, j, none⟩ = some u) : ∀ j u, (flat4 (fs.drop k))[j]? = some u → w.cell? ((cutAt g cap k).add j) = some u := by
  intro j u hj
  unfold cutAt
  by_cases e : cap = k
  · rw [List.drop_of_length_le (by omega)] at hj
    simp [flat4] at hj
  · rw [if_neg e]; exact news_drop h j u hj
theorem sets_take {w : World} {g cap k : Nat} {fs : List (Nat → Int)} (hg : g < w.heap.size) (hk : k ≤ fs.length) (hl : fs.length ≤ 1000) (h : ∀ j u, (flat4 fs)[j]? = some u → w.cell? ⟨g, j, none⟩ = some u) :
    SetsAt w (.slice (some ⟨g, 0, none⟩) k cap) (fs.take k) := by
  have e : (fs.take k).length = k := by rw [List.length_take]; omega
  refine ⟨_, cap, by rw [e], by omega, fun _ => ⟨g, 0, rfl, hg, fun i hi j hj => ?_⟩⟩
  rw [e] at hi
  rw [Nat.zero_add, getF_take hi]
  exact h _ _ (flat4_get fs i j (by omega) hj)
theorem split_rot {w : World} {base n k : Nat} {v : Value} {fs : List (Nat → Int)} (hn : fs.length = n) (hk : k ≤ n) (hl : n ≤ 1000) (h : w.ownsRow base 36 4 v (0 + (n - k) + k) (([] ++ flat4 (fs.drop k)) ++ flat4 (fs.take k))) :
    Calls Try.prog 14 #[v] w (GivesSplit w (alike fs)) := by
  have e : (fs.drop k ++ fs.take k).length = 0 + (n - k) + k := by rw [List.length_append, List.length_drop, List.length_take]; omega
  rw [List.nil_append, ← flat4_append, ← e] at h
  have := split_any _ _ _ (sets_of_row h (by omega))
  rwa [alike_rot] at this
/-- All of them, behind none. -/
theorem split_all {w : World} {base k : Nat} {v : Value} {fs : List (Nat → Int)} (hn : fs.length = k) (hl : k ≤ 1000) (h : w.ownsRow base 36 4 v (0 + 0 + k) (([] ++ []) ++ flat4 fs)) :
    Calls Try.prog 14 #[v] w (GivesSplit w (alike fs)) := by
  subst hn
  rw [List.nil_append, List.nil_append, Nat.zero_add] at h
  exact split_any _ _ _ (sets_of_row h (by omega))
/-- append on a slice of the call's own, as one step of a region that draws. -/
theorem step_append_own {w : World} {ops : Array Oper} {o : Oper} {a : Act} {K : Act → World → Prop} {Q : Exit → Act → World → Prop} {X : Prop} (hgd : o.guard = none) (s x : Operand) (t : TypeId)
    (ho : o.op = .call { callee := .builtin .append, args := #[s, x], argTypes := #[t, t] })
    (base : Nat) (e : TypeId) (i : TypeInfo) (z : Value) (size bytes : Nat) (ht : Try.prog.underlying t = some (.slice e)) (hi : Try.prog.info? e = some i) (hz : i.zero = some z)
    (hsize : i.size = size) (hby : i.bytes = bytes) (hzs : z.cells.size = size) (hsz : 0 < size)
    (v : Value) (n : Nat) (xs : List Value) (hs : a.eval s = v) (hown : w.ownsRow base e size v n xs)
    (ad : Addr) (m c : Nat) (news : List Value) (hx : a.eval x = .slice (some ad) m c) (hl : news.length = m * size) (hnews : ∀ j u, news[j]? = some u → w.cell? (ad.add j) = some u) (h1 : ∀ u ∈ news, u.oneCell' = true)
    (h63 : n + m ≤ maxLen) (hbytes : (n + m) * bytes ≤ 140737488355328) (hbase : base ≤ w.heap.size)
    (h : ∀ v' w', w'.ownsRow base e size v' (n + m) (xs ++ news) → w.grownBy w' v.ownBlock → (v' = .slice none 0 0 ↔ v = .slice none 0 0 ∧ m = 0) → K (a.put o.dst v') w') :
    if Region.wanted o (yielded ops a.tmps) = true then Oper.wp Try.prog o a w K Q else X := by
  have hw : Region.wanted o (yielded ops a.tmps) = true := by simp [Region.wanted, hgd]
  rw [if_pos hw]
  exact wp_append_own w s x t ho base e i z size bytes ht hi hz hsize hby hzs hsz v n xs hs hown ad m c news hx hl hnews h1 h63 hbytes hbase h
end Go.Proofs.Ytjjnpobppmmgbaa
