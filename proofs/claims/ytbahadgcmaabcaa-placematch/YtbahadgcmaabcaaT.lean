/- Patterns: trees that lie in memory; what is right of them, by layer 3's table; contracts of the landed code's plain, counts, repeated. -/
import Derived.Test.YtbahadgcmaabcaaD
namespace Go.Proofs.Ytbahadgcmaabcaa
open Go.RowKit
/-- A pattern, with the place of its kids: kind, set, the two numbers, where the kids lie, how many they are, what room there is, and the kids ('nul': none at all, which stands in no memory). -/
inductive Tr where
  | node (k : Int) (s : Nat → Int) (lo hi : Int) (a : Option Addr) (n cap : Nat) (kid : Nat → Tr)
  | nul
namespace Tr
def k : Tr → Int | .node k _ _ _ _ _ _ _ => k | .nul => 0
def s : Tr → Nat → Int | .node _ s _ _ _ _ _ _ => s | .nul => fun _ => 0
def lo : Tr → Int | .node _ _ lo _ _ _ _ _ => lo | .nul => 0
def hi : Tr → Int | .node _ _ _ hi _ _ _ _ => hi | .nul => 0
def a : Tr → Option Addr | .node _ _ _ _ a _ _ _ => a | .nul => none
def n : Tr → Nat | .node _ _ _ _ _ n _ _ => n | .nul => 0
def cap : Tr → Nat | .node _ _ _ _ _ _ cap _ => cap | .nul => 0
def kid : Tr → Nat → Tr | .node _ _ _ _ _ _ _ kid => kid | .nul => fun _ => .nul
end Tr
abbrev nodeV (k : Int) (s : Nat → Int) (lo hi : Int) (v : Value) : Value := .agg #[.int .i64 k, .int .u64 (s 0), .int .u64 (s 1), .int .u64 (s 2), .int .u64 (s 3), .int .i64 lo, .int .i64 hi, v]
abbrev row8 (k : Int) (s : Nat → Int) (lo hi : Int) (v : Value) : Array Value := #[.int .i64 k, .int .u64 (s 0), .int .u64 (s 1), .int .u64 (s 2), .int .u64 (s 3), .int .i64 lo, .int .i64 hi, v]
/-- A pattern's value. -/
def Tr.val (t : Tr) : Value := nodeV t.k t.s t.lo t.hi (.slice t.a t.n t.cap)
/-- A pattern's eight cells. -/
def At8 (w : World) (g o : Nat) (t : Tr) : Prop :=
  w.cell? ⟨g, o, none⟩ = some (.int .i64 t.k) ∧ w.cell? ⟨g, o + 1, none⟩ = some (.int .u64 (t.s 0)) ∧ w.cell? ⟨g, o + 2, none⟩ = some (.int .u64 (t.s 1)) ∧ w.cell? ⟨g, o + 3, none⟩ = some (.int .u64 (t.s 2)) ∧
    w.cell? ⟨g, o + 4, none⟩ = some (.int .u64 (t.s 3)) ∧ w.cell? ⟨g, o + 5, none⟩ = some (.int .i64 t.lo) ∧ w.cell? ⟨g, o + 6, none⟩ = some (.int .i64 t.hi) ∧ w.cell? ⟨g, o + 7, none⟩ = some (.slice t.a t.n t.cap)
/-- All the kids lie in memory, in blocks below B. -/
def Lives (w : World) (B : Nat) : Tr → Prop
  | .node _ s _ _ a n cap kid => Wf s ∧ n ≤ cap ∧ cap ≤ maxLen ∧ (0 < n → ∃ g off, a = some ⟨g, off, none⟩ ∧ g < B ∧ ∀ i, i < n → At8 w g (off + i * 8) (kid i)) ∧ ∀ i, i < n → Lives w B (kid i)
  | .nul => False
theorem At8.below {w w' : World} {B g o : Nat} {t : Tr} (h : At8 w g o t) (hg : g < B) (hb : Below B w w') : At8 w' g o t := by
  obtain ⟨h0, h1, h2, h3, h4, h5, h6, h7⟩ := h
  exact ⟨(hb.cell (p := ⟨g, _, none⟩) hg).trans h0, (hb.cell (p := ⟨g, _, none⟩) hg).trans h1, (hb.cell (p := ⟨g, _, none⟩) hg).trans h2, (hb.cell (p := ⟨g, _, none⟩) hg).trans h3, (hb.cell (p := ⟨g, _, none⟩) hg).trans h4, (hb.cell (p := ⟨g, _, none⟩) hg).trans h5, (hb.cell (p := ⟨g, _, none⟩) hg).trans h6, (hb.cell (p := ⟨g, _, none⟩) hg).trans h7⟩
theorem Lives.below {w w' : World} {B : Nat} (hb : Below B w w') : ∀ {t : Tr}, Lives w B t → Lives w' B t
  | .node _ _ _ _ _ _ _ kid, ⟨hs, h1, h2, hc, hk⟩ => ⟨hs, h1, h2, fun hp => by obtain ⟨g, off, ha, hg, hc⟩ := hc hp; exact ⟨g, off, ha, hg, fun i hi => (hc i hi).below hg hb⟩, fun i hi => Lives.below hb (t := kid i) (hk i hi)⟩
  | .nul, h => False.elim h
theorem Lives.mono {w : World} {B B' : Nat} (hb : B ≤ B') : ∀ {t : Tr}, Lives w B t → Lives w B' t
  | .node _ _ _ _ _ _ _ kid, ⟨hs, h1, h2, hc, hk⟩ => ⟨hs, h1, h2, fun hp => by obtain ⟨g, off, ha, hg, hc⟩ := hc hp; exact ⟨g, off, ha, Nat.lt_of_lt_of_le hg hb, hc⟩, fun i hi => Lives.mono hb (t := kid i) (hk i hi)⟩
  | .nul, h => False.elim h
/-- For all, for some of the numbers below n. -/
def allTo (p : Nat → Bool) : Nat → Bool
  | 0 => true
  | n + 1 => allTo p n && p n
def anyTo (p : Nat → Bool) : Nat → Bool
  | 0 => false
  | n + 1 => anyTo p n || p n
theorem allTo_iff {p : Nat → Bool} : ∀ {n : Nat}, allTo p n = true ↔ ∀ i, i < n → p i = true
  | 0 => by simp [allTo]
  | n + 1 => by
    rw [allTo, Bool.and_eq_true, allTo_iff]
    constructor
    · intro ⟨h, h'⟩ i hi
      rcases Nat.lt_or_ge i n with q | q
      · exact h i q
      · rw [show i = n by omega]; exact h'
    · exact fun h => ⟨fun i hi => h i (by omega), h n (by omega)⟩
theorem allTo_not {p : Nat → Bool} {n i : Nat} (hi : i < n) (h : p i = false) : allTo p n = false := by
  cases q : allTo p n
  · rfl
  · rw [allTo_iff.1 q i hi] at h; cases h
theorem anyTo_iff {p : Nat → Bool} : ∀ {n : Nat}, anyTo p n = true ↔ ∃ i, i < n ∧ p i = true
  | 0 => by simp [anyTo]
  | n + 1 => by
    rw [anyTo, Bool.or_eq_true, anyTo_iff]
    constructor
    · intro h
      rcases h with ⟨i, hi, h⟩ | h
      · exact ⟨i, by omega, h⟩
      · exact ⟨n, by omega, h⟩
    · intro ⟨i, hi, h⟩
      rcases Nat.lt_or_ge i n with q | q
      · exact Or.inl ⟨i, q, h⟩
      · exact Or.inr (by rw [show n = i by omega]; exact h)
theorem anyTo_yes {p : Nat → Bool} {n i : Nat} (hi : i < n) (h : p i = true) : anyTo p n = true := anyTo_iff.2 ⟨i, hi, h⟩
/-- The empty set. -/
abbrev z0 : Nat → Int := fun _ => 0
def plainB (s : Nat → Int) (lo hi : Int) : Bool := eqS s z0 && (decide (lo = 0) && decide (hi = 0))
def countsB (lo hi : Int) : Bool := decide (0 ≤ lo) && (decide (lo ≤ 20) && (decide (hi = -1) || (decide (max lo 1 ≤ hi) && decide (hi ≤ 20))))
theorem eqS_z (s : Nat → Int) {b : Bool} (h : eqS s z0 = b) (w : World) : Sem.run Try.prog (binOp .eql 24 (SV s) (.agg #[.int .u64 0, .int .u64 0, .int .u64 0, .int .u64 0])) w = .ok (.bool b) w := (eql24 s z0 w).trans (by rw [h])
set_option maxRecDepth 100000 in
set_option maxHeartbeats 400000 in
theorem plain_any (k : Int) (s : Nat → Int) (lo hi : Int) (v : Value) (w : World) :
    Calls Try.prog 64 #[nodeV k s lo hi v] w fun e w' => e = .returned (.bool (plainB s lo hi)) ∧ Below w.heap.size w w' := by
  cases he : eqS s z0
  · have HX := Lib.hid (show plainB s lo hi = false by simp [plainB, he])
    have hq := eqS_z s he
    clear he
    go_enter Try.func64, Try.ntmps64
    go_wp2
    go_ret
    exact ⟨ret_bool HX.out.symm, (Below.refl _ _).alloc (Nat.le_refl _) _⟩
  · have hq := eqS_z s he
    by_cases hl : lo = 0
    · by_cases hh : hi = 0
      · have HX := Lib.hid (show plainB s lo hi = true by simp [plainB, he, hl, hh])
        clear he
        subst hl hh
        go_enter Try.func64, Try.ntmps64
        go_wp2
        go_ret
        exact ⟨ret_bool HX.out.symm, (Below.refl _ _).alloc (Nat.le_refl _) _⟩
      · have HX := Lib.hid (show plainB s lo hi = false by simp [plainB, hh])
        have hh' : (hi == 0) = false := by simp [hh]
        clear he
        subst hl
        go_enter Try.func64, Try.ntmps64
        go_wp2
        go_ret
        exact ⟨ret_bool HX.out.symm, (Below.refl _ _).alloc (Nat.le_refl _) _⟩
    · have HX := Lib.hid (show plainB s lo hi = false by simp [plainB, hl])
      have hl' : (lo == 0) = false := by simp [hl]
      clear he
      go_enter Try.func64, Try.ntmps64
      go_wp2
      go_ret
      exact ⟨ret_bool HX.out.symm, (Below.refl _ _).alloc (Nat.le_refl _) _⟩
set_option maxRecDepth 100000 in
set_option maxHeartbeats 400000 in
theorem counts_any (k : Int) (s : Nat → Int) (lo hi : Int) (v : Value) (w : World) :
    Calls Try.prog 65 #[nodeV k s lo hi v] w fun e w' => e = .returned (.bool (countsB lo hi)) ∧ Below w.heap.size w w' := by
  by_cases h0 : lo < 0
  · have HX := Lib.hid (show countsB lo hi = false by simp only [countsB, decide_eq_false (show ¬ 0 ≤ lo by omega), Bool.false_and])
    go_enter Try.func65, Try.ntmps65
    go_wp2
    go_ret
    exact ⟨ret_bool HX.out.symm, (Below.refl _ _).alloc (Nat.le_refl _) _⟩
  · by_cases h1 : 20 < lo
    · have HX := Lib.hid (show countsB lo hi = false by simp only [countsB, decide_eq_false (show ¬ lo ≤ 20 by omega), Bool.false_and, Bool.and_false])
      go_enter Try.func65, Try.ntmps65
      go_wp2
      go_ret
      exact ⟨ret_bool HX.out.symm, (Below.refl _ _).alloc (Nat.le_refl _) _⟩
    · by_cases h2 : hi = -1
      · have HX := Lib.hid (show countsB lo hi = true by simp [countsB, h2]; omega)
        subst h2
        go_enter Try.func65, Try.ntmps65
        go_wp2
        go_ret
        exact ⟨ret_bool HX.out.symm, (Below.refl _ _).alloc (Nat.le_refl _) _⟩
      · have h2' : (hi == -1) = false := by simp [h2]
        by_cases h5 : lo = 0
        · subst h5
          by_cases h3 : 1 ≤ hi
          · by_cases h4 : hi ≤ 20
            · have HX := Lib.hid (show countsB 0 hi = true by simp [countsB]; omega)
              go_enter Try.func65, Try.ntmps65
              go_wp2
              go_ret
              exact ⟨ret_bool HX.out.symm, (Below.refl _ _).alloc (Nat.le_refl _) _⟩
            · have HX := Lib.hid (show countsB 0 hi = false by cases hq : countsB 0 hi; rfl; simp [countsB] at hq; omega)
              go_enter Try.func65, Try.ntmps65
              go_wp2
              go_ret
              exact ⟨ret_bool HX.out.symm, (Below.refl _ _).alloc (Nat.le_refl _) _⟩
          · have HX := Lib.hid (show countsB 0 hi = false by cases hq : countsB 0 hi; rfl; simp [countsB] at hq; omega)
            go_enter Try.func65, Try.ntmps65
            go_wp2
            go_ret
            exact ⟨ret_bool HX.out.symm, (Below.refl _ _).alloc (Nat.le_refl _) _⟩
        · have h6 : 1 ≤ lo := by omega
          by_cases h3 : lo ≤ hi
          · by_cases h4 : hi ≤ 20
            · have HX := Lib.hid (show countsB lo hi = true by simp [countsB]; omega)
              go_enter Try.func65, Try.ntmps65
              go_wp2
              go_ret
              exact ⟨ret_bool HX.out.symm, (Below.refl _ _).alloc (Nat.le_refl _) _⟩
            · have HX := Lib.hid (show countsB lo hi = false by cases hq : countsB lo hi; rfl; simp [countsB] at hq; omega)
              go_enter Try.func65, Try.ntmps65
              go_wp2
              go_ret
              exact ⟨ret_bool HX.out.symm, (Below.refl _ _).alloc (Nat.le_refl _) _⟩
          · have HX := Lib.hid (show countsB lo hi = false by cases hq : countsB lo hi; rfl; simp [countsB] at hq; omega)
            go_enter Try.func65, Try.ntmps65
            go_wp2
            go_ret
            exact ⟨ret_bool HX.out.symm, (Below.refl _ _).alloc (Nat.le_refl _) _⟩
/-- Has a kid the kind? -/
def repB (t : Tr) : Bool := anyTo (fun i => decide ((t.kid i).k = t.k)) t.n
theorem cell8 {w : World} {g : Nat} {k : Int} {s : Nat → Int} {lo hi : Int} {v : Value} {e : Nat} (h : w.heap[g]? = some (.cells (row8 k s lo hi v) e (0, 0))) :
    w.cell? ⟨g, 0, none⟩ = some (.int .i64 k) ∧ w.cell? ⟨g, 1, none⟩ = some (.int .u64 (s 0)) ∧ w.cell? ⟨g, 2, none⟩ = some (.int .u64 (s 1)) ∧ w.cell? ⟨g, 3, none⟩ = some (.int .u64 (s 2)) ∧
    w.cell? ⟨g, 4, none⟩ = some (.int .u64 (s 3)) ∧ w.cell? ⟨g, 5, none⟩ = some (.int .i64 lo) ∧ w.cell? ⟨g, 6, none⟩ = some (.int .i64 hi) ∧ w.cell? ⟨g, 7, none⟩ = some v :=
  ⟨cell_of_row w g 0 _ _ _ h, cell_of_row w g 1 _ _ _ h, cell_of_row w g 2 _ _ _ h, cell_of_row w g 3 _ _ _ h, cell_of_row w g 4 _ _ _ h, cell_of_row w g 5 _ _ _ h, cell_of_row w g 6 _ _ _ h, cell_of_row w g 7 _ _ _ h⟩
set_option maxRecDepth 100000 in
set_option maxHeartbeats 1000000 in
theorem repeated_any (k : Int) (s : Nat → Int) (lo hi : Int) (a : Option Addr) (n cap : Nat) (kid : Nat → Tr) (w : World) (hm : n ≤ maxLen) (h : Hid (0 < n → ∃ g off, a = some ⟨g, off, none⟩ ∧ g < w.heap.size ∧ ∀ i, i < n → At8 w g (off + i * 8) (kid i))) :
    Calls Try.prog 66 #[nodeV k s lo hi (.slice a n cap)] w fun e w' => e = .returned (.bool (anyTo (fun i => decide ((kid i).k = k)) n)) ∧ Below w.heap.size w w' := by
  unfold maxLen at hm
  go_enter Try.func66, Try.ntmps66
  go_wp2
  go_loopw [8] (fun c wr => ∃ j : Nat, j ≤ n ∧ c = .int .i64 j ∧ Hid (anyTo (fun i => decide ((kid i).k = k)) j = false) ∧ wr.heap[w.heap.size]? = some (.cells (row8 k s lo hi (.slice a n cap)) 66 (0, 0)) ∧ w.heap.size + 1 ≤ wr.heap.size ∧ Below w.heap.size w wr) (fun c _ => n - (intOf c).toNat)
  case atStart => exact ⟨0, by omega, rfl, Lib.hid rfl, heap_alloc_new _ _, by simp, (Below.refl _ _).alloc (Nat.le_refl _) _⟩
  case round =>
    obtain ⟨j, hj, rfl, HA, hr, hs, hb⟩ := hrel
    by_cases hlt : j < n
    · obtain ⟨g, off, rfl, hg, hc⟩ := h.out (by omega)
      have d0 : ∀ o, (wr.alloc o).cell? ⟨w.heap.size, 0, none⟩ = some (.int .i64 k) := fun o => (((Below.refl wr.heap.size wr).alloc (Nat.le_refl _) o).cell (p := ⟨w.heap.size, 0, none⟩) (show w.heap.size < wr.heap.size by omega)).trans (cell8 hr).1
      have HR := Lib.hid hr
      have hA := (hc j hlt).below hg hb
      obtain ⟨k1, hk1⟩ : ∃ k1, k1 = (kid j).k := ⟨_, rfl⟩
      have HK := Lib.hid (show anyTo (fun i => decide ((kid i).k = k)) (j + 1) = (anyTo (fun i => decide ((kid i).k = k)) j || decide (k1 = k)) by rw [hk1]; rfl)
      have HY := Lib.hid (fun (q : k1 = k) => anyTo_yes (p := fun i => decide ((kid i).k = k)) hlt (decide_eq_true (by rw [← hk1]; exact q)))
      obtain ⟨c0, c1, c2, c3, c4, c5, c6, c7⟩ := hA
      rw [← hk1] at c0
      clear hr hc hk1
      by_cases hk : k1 = k
      · have HZ := Lib.hid (HY.out hk)
        subst hk
        go_wp2
        go_ret
        exact ⟨ret_bool HZ.out.symm, hb.alloc (by omega) _⟩
      · have HZ := Lib.hid (show anyTo (fun i => decide ((kid i).k = k)) (j + 1) = false by rw [HK.out, HA.out, decide_eq_false hk]; rfl)
        go_wp2
        go_roundw
        case rel => exact ⟨j + 1, by omega, by go_num, HZ, (Below.heap_alloc _ _ _ (by omega)).trans HR.out, by simp; omega, hb.alloc (by omega) _⟩
        case measure => simp [intOf]; omega
    · obtain rfl : n = j := by omega
      go_wp2
      go_ret
      exact ⟨ret_bool HA.out.symm, hb⟩
end Go.Proofs.Ytbahadgcmaabcaa
