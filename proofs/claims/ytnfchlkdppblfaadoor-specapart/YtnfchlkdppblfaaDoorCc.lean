/- The landed code's Name (carried over), isIndex; Go's slices.Index, Contains, Equal at []int. -/
import Derived.Test.YtnfchlkdppblfaaDoorUs
namespace Go.Proofs.YtnfchlkdppblfaaDoor
open Go.RowKit
def digC (c : Int) : Bool := decide (48 ≤ c) && decide (c ≤ 57)
def letC (c : Int) : Bool := (decide (97 ≤ c) && decide (c ≤ 122)) || (decide (65 ≤ c) && decide (c ≤ 90))
theorem digC_yes {c : Int} (h : digC c = true) : 48 ≤ c ∧ c ≤ 57 := by simpa [digC] using h
theorem digC_no {c : Int} (h : digC c = false) : c < 48 ∨ 57 < c := by
  by_cases h1 : 48 ≤ c
  · by_cases h2 : c ≤ 57
    · simp [digC, h1, h2] at h
    · omega
  · omega
set_option maxRecDepth 100000 in
theorem isDigit_any (c : Int) (w : World) : Calls Tryd.prog 88 #[.int .i64 c] w fun e w' => e = .returned (.bool (digC c)) ∧ w = w' := by
  by_cases h1 : 48 ≤ c
  · by_cases h2 : c ≤ 57
    · have HX := Lib.hid (show digC c = true by simp [digC, h1, h2])
      go_enter Tryd.func88, Tryd.ntmps88
      go_wp2
      go_ret
      exact ⟨ret_bool HX.out.symm, rfl⟩
    · have HX := Lib.hid (show digC c = false by simp [digC, h2])
      go_enter Tryd.func88, Tryd.ntmps88
      go_wp2
      go_ret
      exact ⟨ret_bool HX.out.symm, rfl⟩
  · have HX := Lib.hid (show digC c = false by simp [digC, h1])
    go_enter Tryd.func88, Tryd.ntmps88
    go_wp2
    go_ret
    exact ⟨ret_bool HX.out.symm, rfl⟩
set_option maxRecDepth 100000 in
theorem isLetter_any (c : Int) (w : World) : Calls Tryd.prog 89 #[.int .i64 c] w fun e w' => e = .returned (.bool (letC c)) ∧ w = w' := by
  obtain ⟨h, hh⟩ : ∃ b, b = letC c := ⟨_, rfl⟩
  rw [← hh]
  by_cases h1 : 97 ≤ c
  · by_cases h2 : c ≤ 122
    · obtain rfl : h = true := by simp [hh, letC, h1, h2]
      clear hh
      go_enter Tryd.func89, Tryd.ntmps89
      go_wp2
      go_ret
      exact ⟨rfl, rfl⟩
    · obtain rfl : h = false := by rw [hh]; simp [letC]; omega
      have h3 : 65 ≤ c := by omega
      have h4 : ¬ c ≤ 90 := by omega
      clear hh
      go_enter Tryd.func89, Tryd.ntmps89
      go_wp2
      go_ret
      exact ⟨rfl, rfl⟩
  · by_cases h3 : 65 ≤ c
    · by_cases h4 : c ≤ 90
      · obtain rfl : h = true := by simp [hh, letC, h3, h4]
        clear hh
        go_enter Tryd.func89, Tryd.ntmps89
        go_wp2
        go_ret
        exact ⟨rfl, rfl⟩
      · obtain rfl : h = false := by rw [hh]; simp [letC]; omega
        clear hh
        go_enter Tryd.func89, Tryd.ntmps89
        go_wp2
        go_ret
        exact ⟨rfl, rfl⟩
    · obtain rfl : h = false := by rw [hh]; simp [letC]; omega
      clear hh
      go_enter Tryd.func89, Tryd.ntmps89
      go_wp2
      go_ret
      exact ⟨rfl, rfl⟩
theorem wrap_u8 (b : UInt8) : wrap64 (b.toNat : Int) = (b.toNat : Int) := IntWalk.wrap64_in _ (by have := b.toNat_lt; omega)
/-- The byte at a place; -1: there is none. -/
def nx (S : ByteArray) (i : Nat) : Int := if h : i < S.size then (S[i].toNat : Int) else -1
theorem nx_in {S : ByteArray} {i : Nat} (h : i < S.size) : nx S i = (S[i].toNat : Int) := by unfold nx; rw [dif_pos h]
theorem nx_out {S : ByteArray} {i : Nat} (h : ¬ i < S.size) : nx S i = -1 := by unfold nx; rw [dif_neg h]
theorem nx_ge {S : ByteArray} {i : Nat} : -1 ≤ nx S i ∧ nx S i < 256 := by
  by_cases h : i < S.size
  · rw [nx_in h]; have := S[i].toNat_lt; omega
  · rw [nx_out h]; omega
theorem nx_lt {S : ByteArray} {i : Nat} (h : nx S i ≠ -1) : i < S.size := by
  by_cases q : i < S.size
  · exact q
  · exact absurd (nx_out q) h
def nmC (c : Int) : Bool := decide (c = 95) || (letC c || digC c)
def nameB (s : ByteArray) : Bool := decide (1 ≤ s.size) && (decide (s.size ≤ 12) && (!digC (nx s 0) && allTo (fun k => nmC (nx s k)) s.size))
theorem size_list (s : ByteArray) : s.toList.length = s.size := by rw [ByteArray.toList_eq, Array.length_toList]; rfl
set_option maxRecDepth 100000 in
set_option maxHeartbeats 2000000 in
theorem name_any (s : ByteArray) (w : World) (hs : s.size ≤ maxLen) : Calls Tryd.prog 68 #[.string s] w fun e w' => e = .returned (.bool (nameB s)) ∧ w = w' := by
  unfold maxLen at hs
  obtain ⟨R, hR⟩ : ∃ R, R = nameB s := ⟨_, rfl⟩
  rw [← hR]
  unfold nameB at hR
  have HE := Lib.hid hR
  clear hR
  by_cases h1 : 1 ≤ s.size
  · have e0 : s.toList.isEmpty = false := by
      have := size_list s
      cases q : s.toList with
      | nil => rw [q] at this; simp at this; omega
      | cons a l => rfl
    by_cases h2 : s.size ≤ 12
    · have i2 : ¬ (12 : Int) < (s.size : Int) := by omega
      have i1 : (0 : Int) < (s.size : Int) := by omega
      have i0 : 0 < s.size := by omega
      obtain ⟨x, hx⟩ : ∃ x, x = nx s 0 := ⟨_, rfl⟩
      have hwx : wrap64 ((s[0].toNat : Nat) : Int) = x := by rw [wrap_u8, hx, nx_in i0]
      rw [← hx] at HE
      clear hx
      cases hd : digC x
      · have HD := Lib.hid hd
        have HP := Lib.hid (show R = allTo (fun k => nmC (nx s k)) s.size by rw [HE.out]; simp [h1, h2, hd])
        clear hd
        go_enter Tryd.func68, Tryd.ntmps68
        go_wp2_with (go_at_call 88; refine (isDigit_any _ _).mono ?_; rintro e w' ⟨rfl, rfl⟩; rw [HD.out])
        clear hwx
        go_loop [20] (fun v => ∃ k : Nat, k ≤ s.size ∧ v = .int .i64 k ∧ Hid (allTo (fun k => nmC (nx s k)) k = true)) (fun v => s.size - (intOf v).toNat)
        case atStart => exact ⟨0, by omega, rfl, Lib.hid rfl⟩
        case round =>
          obtain ⟨k, hk, rfl, HA⟩ := hrel
          by_cases hlt : k < s.size
          · obtain ⟨y, hy⟩ : ∃ y, y = nx s k := ⟨_, rfl⟩
            have hwy : wrap64 ((s[k].toNat : Nat) : Int) = y := by rw [wrap_u8, hy, nx_in hlt]
            have HS := Lib.hid (show allTo (fun k => nmC (nx s k)) (k + 1) = nmC y by rw [allTo, HA.out, ← hy]; rfl)
            have HF := Lib.hid (fun (q : nmC y = false) => allTo_not (p := fun k => nmC (nx s k)) hlt (by show nmC (nx s k) = false; rw [← hy]; exact q))
            clear hy
            by_cases g1 : y = 95
            · have HT := Lib.hid (show nmC y = true by simp [nmC, g1])
              subst g1
              go_wp2
              go_round
              case rel => exact ⟨k + 1, by omega, by go_num, Lib.hid (HS.out.trans HT.out)⟩
              case measure => simp [intOf]; omega
            · have g1' : (y != 95) = true := by simp [g1]
              cases g2 : letC y
              · cases g3 : digC y
                · have HT := Lib.hid (HF.out (by simp [nmC, g1, g2, g3]))
                  have G2 := Lib.hid g2
                  have G3 := Lib.hid g3
                  clear g2 g3
                  go_wp2_with (first | (go_at_call 89; refine (isLetter_any _ _).mono ?_; rintro e w' ⟨rfl, rfl⟩; rw [G2.out]) | (go_at_call 88; refine (isDigit_any _ _).mono ?_; rintro e w' ⟨rfl, rfl⟩; rw [G3.out]))
                  go_ret
                  exact ⟨ret_bool (by rw [HP.out, HT.out]), rfl⟩
                · have HT := Lib.hid (show nmC y = true by simp [nmC, g3])
                  have G2 := Lib.hid g2
                  have G3 := Lib.hid g3
                  clear g2 g3
                  go_wp2_with (first | (go_at_call 89; refine (isLetter_any _ _).mono ?_; rintro e w' ⟨rfl, rfl⟩; rw [G2.out]) | (go_at_call 88; refine (isDigit_any _ _).mono ?_; rintro e w' ⟨rfl, rfl⟩; rw [G3.out]))
                  go_round
                  case rel => exact ⟨k + 1, by omega, by go_num, Lib.hid (HS.out.trans HT.out)⟩
                  case measure => simp [intOf]; omega
              · have HT := Lib.hid (show nmC y = true by simp [nmC, g2])
                have G2 := Lib.hid g2
                clear g2
                go_wp2_with (first | (go_at_call 89; refine (isLetter_any _ _).mono ?_; rintro e w' ⟨rfl, rfl⟩; rw [G2.out]))
                go_round
                case rel => exact ⟨k + 1, by omega, by go_num, Lib.hid (HS.out.trans HT.out)⟩
                case measure => simp [intOf]; omega
          · obtain rfl : s.size = k := by omega
            go_wp2
            go_ret
            exact ⟨ret_bool (by rw [HP.out, HA.out]), rfl⟩
      · have HD := Lib.hid hd
        have HP := Lib.hid (show R = false by rw [HE.out]; simp [hd])
        clear hd
        go_enter Tryd.func68, Tryd.ntmps68
        go_wp2_with (go_at_call 88; refine (isDigit_any _ _).mono ?_; rintro e w' ⟨rfl, rfl⟩; rw [HD.out])
        go_ret
        exact ⟨ret_bool HP.out.symm, rfl⟩
    · have HP := Lib.hid (show R = false by rw [HE.out]; simp [h2])
      have i2 : (12 : Int) < (s.size : Int) := by omega
      go_enter Tryd.func68, Tryd.ntmps68
      go_wp2
      go_ret
      exact ⟨ret_bool HP.out.symm, rfl⟩
  · have HP := Lib.hid (show R = false by rw [HE.out]; simp [h1])
    have e0 : s.toList.isEmpty = true := by
      have := size_list s
      cases q : s.toList with
      | nil => rfl
      | cons a l => rw [q] at this; simp at this; omega
    go_enter Tryd.func68, Tryd.ntmps68
    go_wp2
    go_ret
    exact ⟨ret_bool HP.out.symm, rfl⟩
/-- Is a number an index? -/
def ixB (i n : Int) : Bool := decide (0 ≤ i) && decide (i < n)
theorem ixB_iff {i n : Int} : ixB i n = true ↔ 0 ≤ i ∧ i < n := by simp [ixB]
set_option maxRecDepth 100000 in
theorem isIndex_any (i n : Int) (w : World) : Calls Tryd.prog 33 #[.int .i64 i, .int .i64 n] w fun e w' => e = .returned (.bool (ixB i n)) ∧ w' = w := by
  obtain ⟨b, hb⟩ : ∃ b, b = ixB i n := ⟨_, rfl⟩
  rw [← hb]
  unfold ixB at hb
  by_cases h0 : 0 ≤ i
  · by_cases h1 : i < n
    · obtain rfl : b = true := by rw [hb, decide_eq_true h0, decide_eq_true h1]; rfl
      clear hb
      go_enter Tryd.func33, Tryd.ntmps33
      go_wp2
      go_ret
      exact ⟨rfl, rfl⟩
    · obtain rfl : b = false := by rw [hb, decide_eq_false h1, Bool.and_false]
      clear hb
      go_enter Tryd.func33, Tryd.ntmps33
      go_wp2
      go_ret
      exact ⟨rfl, rfl⟩
  · obtain rfl : b = false := by rw [hb, decide_eq_false h0, Bool.false_and]
    clear hb
    go_enter Tryd.func33, Tryd.ntmps33
    go_wp2
    go_ret
    exact ⟨rfl, rfl⟩
/-- Is a number among those of a row? -/
def hasN (f : Nat → Int) (v : Int) (n : Nat) : Bool := anyTo (fun i => decide (f i = v)) n
set_option maxRecDepth 100000 in
set_option maxHeartbeats 1000000 in
theorem index_any (a : Option Addr) (n cap : Nat) (f : Nat → Int) (v : Int) (w : World) (h : IntsIn w w.heap.size a n cap f) :
    Calls Tryd.prog 58 #[.slice a n cap, .int .i64 v] w fun e w' => ∃ r : Int, e = .returned (.int .i64 r) ∧ decide (0 ≤ r) = hasN f v n ∧ w' = w := by
  have hm := h.1
  have hm2 := h.2.1
  unfold maxLen at hm2
  have H := Lib.hid h.2.2.1
  clear h
  go_enter Tryd.func58, Tryd.ntmps58
  go_wp2
  go_loopw [8] (fun c wr => ∃ j : Nat, j ≤ n ∧ c = .int .i64 j ∧ Hid (hasN f v j = false) ∧ wr = w) (fun c _ => n - (intOf c).toNat)
  case atStart => exact ⟨0, by omega, rfl, Lib.hid rfl, rfl⟩
  case round =>
    obtain ⟨j, hj, rfl, HA, hw⟩ := hrel
    subst hw
    by_cases hlt : j < n
    · obtain ⟨g, off, rfl, hg, hc⟩ := H.out (by omega)
      have c0 := hc j hlt
      obtain ⟨x, hx⟩ : ∃ x, x = f j := ⟨_, rfl⟩
      rw [← hx] at c0
      have HX := Lib.hid hx
      clear hc hx
      by_cases hk : v = x
      · have HZ := Lib.hid (anyTo_yes (p := fun i => decide (f i = v)) hlt (decide_eq_true (HX.out.symm.trans hk.symm)))
        subst hk
        go_wp2
        go_ret
        exact ⟨_, rfl, by unfold hasN; rw [HZ.out]; simp, rfl⟩
      · have hk' : (v == x) = false := by simp [hk]
        have HZ := Lib.hid (show hasN f v (j + 1) = false by
          show (hasN f v j || decide (f j = v)) = false
          rw [HA.out, decide_eq_false (fun q => hk (by rw [HX.out, q]))]; rfl)
        go_wp2
        go_roundw
        case rel => exact ⟨j + 1, by omega, by go_num, HZ, trivial⟩
        case measure => simp [intOf]; omega
    · obtain rfl : n = j := by omega
      go_wp2
      go_ret
      exact ⟨_, rfl, by rw [HA.out]; rfl, rfl⟩
set_option maxRecDepth 100000 in
theorem contains_any (a : Option Addr) (n cap : Nat) (f : Nat → Int) (v : Int) (w : World) (h : IntsIn w w.heap.size a n cap f) :
    Calls Tryd.prog 34 #[.slice a n cap, .int .i64 v] w fun e w' => e = .returned (.bool (hasN f v n)) ∧ w' = w := by
  have H := Lib.hid (index_any a n cap f v w h)
  clear h
  go_enter Tryd.func34, Tryd.ntmps34
  go_wp2_with fail
  refine H.out.mono ?_
  rintro e w' ⟨r, rfl, hr, rfl⟩
  by_cases h0 : 0 ≤ r
  · go_wp2
    go_ret
    exact ⟨ret_bool (by rw [← hr, decide_eq_true h0]), rfl⟩
  · go_wp2
    go_ret
    exact ⟨ret_bool (by rw [← hr, decide_eq_false (by omega)]), rfl⟩
/-- Are two rows of numbers the same? -/
def sameN (n n' : Nat) (f f' : Nat → Int) : Bool := decide (n = n') && allTo (fun i => decide (f i = f' i)) n
set_option maxRecDepth 100000 in
set_option maxHeartbeats 1000000 in
theorem equal_any (a a' : Option Addr) (n cap n' cap' : Nat) (f f' : Nat → Int) (w : World) (h : IntsIn w w.heap.size a n cap f) (h' : IntsIn w w.heap.size a' n' cap' f') :
    Calls Tryd.prog 59 #[.slice a n cap, .slice a' n' cap'] w fun e w' => e = .returned (.bool (sameN n n' f f')) ∧ Below w.heap.size w w' := by
  have hm := h.1
  have hm2 := h.2.1
  have hm3 := h'.1
  have hm4 := h'.2.1
  unfold maxLen at hm2 hm4
  have H := Lib.hid h.2.2.1
  have H' := Lib.hid h'.2.2.1
  clear h h'
  by_cases hn : n = n'
  · subst hn
    have HS := Lib.hid (show sameN n n f f' = allTo (fun i => decide (f i = f' i)) n by unfold sameN; simp)
    go_enter Tryd.func59, Tryd.ntmps59
    go_wp2
    go_loopw [13] (fun c wr => ∃ j : Nat, j ≤ n ∧ c = .int .i64 j ∧ Hid (allTo (fun i => decide (f i = f' i)) j = true) ∧ ∃ kk, wr = w.drewN kk) (fun c _ => n - (intOf c).toNat)
    case atStart => exact ⟨0, by omega, rfl, Lib.hid rfl, 0, rfl⟩
    case round =>
      obtain ⟨j, hj, rfl, HA, kk, rfl⟩ := hrel
      by_cases hlt : j < n
      · obtain ⟨g, off, rfl, hg, hc⟩ := H.out (by omega)
        obtain ⟨g', off', rfl, hg', hc'⟩ := H'.out (by omega)
        have c0 := hc j hlt
        have c1 := hc' j hlt
        obtain ⟨x, hx⟩ : ∃ x, x = f j := ⟨_, rfl⟩
        obtain ⟨y, hy⟩ : ∃ y, y = f' j := ⟨_, rfl⟩
        rw [← hx] at c0
        rw [← hy] at c1
        have HX := Lib.hid (And.intro hx hy)
        clear hc hx hc' hy
        by_cases hk : x = y
        · have HZ := Lib.hid (show allTo (fun i => decide (f i = f' i)) (j + 1) = true by
            show (allTo (fun i => decide (f i = f' i)) j && decide (f j = f' j)) = true
            rw [HA.out, ← HX.out.1, ← HX.out.2, decide_eq_true hk]; rfl)
          subst hk
          go_wp2
          go_quiet (fail)
          go_wp2
          go_roundw
          case rel => exact ⟨j + 1, by omega, by go_num, HZ, _, rfl⟩
          case measure => simp [intOf]; omega
        · have hk' : (x == y) = false := by simp [hk]
          have HZ := Lib.hid (allTo_not (p := fun i => decide (f i = f' i)) hlt (decide_eq_false (by rw [← HX.out.1, ← HX.out.2]; exact hk)))
          go_wp2
          go_quiet (fail)
          go_wp2
          go_ret
          exact ⟨ret_bool (by rw [HS.out, HZ.out]), below_drewN (below_drewN (Below.refl _ _) _) _⟩
      · obtain rfl : n = j := by omega
        go_wp2
        go_ret
        exact ⟨ret_bool (by rw [HS.out, HA.out]), below_drewN (Below.refl _ _) _⟩
  · have hn' : ((n : Int) == (n' : Int)) = false := by simp; omega
    have HS := Lib.hid (show sameN n n' f f' = false by unfold sameN; rw [decide_eq_false hn]; rfl)
    go_enter Tryd.func59, Tryd.ntmps59
    go_wp2
    go_ret
    exact ⟨ret_bool HS.out.symm, Below.refl _ _⟩
end Go.Proofs.YtnfchlkdppblfaaDoor
/- Contracts of the landed code's isNone, rightStarts, rightAction, rightPatterns, rightRule. -/
namespace Go.Proofs.YtnfchlkdppblfaaDoor
open Go.RowKit
/-- No pattern. -/
def zT : Tr := .node 0 z0 0 0 none 0 0 fun _ => .nul
theorem zT_lives (w : World) (B : Nat) : Lives w B zT := ⟨by intro i hi; exact ⟨by simp [z0], by simp [z0]⟩, Nat.le_refl _, Nat.zero_le _, fun h => absurd h (by omega), fun i h => absurd h (by omega)⟩
def noneB (t : Tr) : Bool := sameT t zT
set_option maxRecDepth 100000 in
set_option maxHeartbeats 1000000 in
theorem isNone_any (t : Tr) (w : World) (hL : Lives w w.heap.size t) (hc : cnt t ≤ 2000) : Calls Tryd.prog 90 #[t.val] w fun e w' => e = .returned (.bool (noneB t)) ∧ Below w.heap.size w w' := by
  have HL := Lib.hid hL
  clear hL
  show Calls Tryd.prog 90 #[nodeV t.k t.s t.lo t.hi (.slice t.a t.n t.cap)] w _
  go_enter Tryd.func90, Tryd.ntmps90
  go_wp2_with fail
  refine (same_any t zT _ (HL.out.now (alloc_below _ _)) (zT_lives _ _) hc).mono ?_
  rintro e w1 ⟨rfl, hb1⟩
  have HB1 := Lib.hid (box_below hb1)
  clear hb1
  go_wp2
  go_ret
  exact ⟨rfl, HB1.out⟩
/-- What a number in a row must at least be. -/
def prvI (f : Nat → Int) : Nat → Int
  | 0 => 0
  | i + 1 => f i + 1
def risB (f : Nat → Int) (n : Int) (j : Nat) : Bool := allTo (fun i => decide (prvI f i ≤ f i) && decide (f i < n)) j
def startsB (r : Rl) (n : Int) : Bool := if r.all = true then decide (r.cn = 0) else risB r.cs n r.cn
def actB (r : Rl) (n : Int) : Bool := if r.act = 1 ∨ r.act = 2 then decide (r.to = 0) else if r.act = 3 then ixB r.to n else false
def patB (r : Rl) : Bool := if r.eof = true then !r.bol && (noneB r.rx && noneB r.tr) else rightB r.rx && (noneB r.tr || rightB r.tr)
def ruleB (r : Rl) (n : Int) : Bool := startsB r n && (actB r n && patB r)
set_option maxRecDepth 100000 in
set_option maxHeartbeats 2000000 in
theorem starts_any (r : Rl) (n : Nat) (w : World) (hn : n ≤ maxLen) (h : IntsIn w w.heap.size r.ca r.cn r.cc r.cs) : Calls Tryd.prog 70 #[ruleV r, .int .i64 n] w fun e w' => e = .returned (.bool (startsB r n)) ∧ Below w.heap.size w w' := by
  obtain ⟨ca, cn, cc, cs, all, bol, rx, tr, eof, act, to⟩ := r
  have hm := h.1
  have hm2 := h.2.1
  unfold maxLen at hm2 hn
  have H := Lib.hid h.2.2.1
  have HR := Lib.hid h.2.2.2
  clear h
  dsimp only at hm hm2 H HR
  cases all
  · have HS := Lib.hid (show startsB ⟨ca, cn, cc, cs, false, bol, rx, tr, eof, act, to⟩ (n : Int) = risB cs n cn from rfl)
    go_enter Tryd.func70, Tryd.ntmps70
    go_wp2
    go_loopw [5, 17] (fun l c wr => ∃ j : Nat, j ≤ cn ∧ l = .int .i64 (prvI cs j) ∧ c = .int .i64 j ∧ Hid (risB cs n j = true) ∧ Below w.heap.size w wr) (fun _ c _ => cn - (intOf c).toNat)
    case atStart => exact ⟨0, by omega, rfl, rfl, Lib.hid rfl, alloc_below _ _⟩
    case round =>
      obtain ⟨j, hj, rfl, rfl, HA, hbr⟩ := hrel
      by_cases hlt : j < cn
      · obtain ⟨g, off, rfl, hg, hc⟩ := H.out (by omega)
        have c0 := (hbr.cell (p := ⟨g, _, none⟩) hg).trans (hc j hlt)
        obtain ⟨x, hx⟩ : ∃ x, x = cs j := ⟨_, rfl⟩
        obtain ⟨l, hl⟩ : ∃ l, l = prvI cs j := ⟨_, rfl⟩
        rw [← hx] at c0
        rw [← hl]
        have HX := Lib.hid (And.intro hx hl)
        clear hc hx hl
        by_cases h1 : x < l
        · have HZ := Lib.hid (allTo_not (p := fun i => decide (prvI cs i ≤ cs i) && decide (cs i < (n : Int))) hlt (by show (decide (prvI cs j ≤ cs j) && decide (cs j < (n : Int))) = false; rw [← HX.out.1, ← HX.out.2, decide_eq_false (by omega)]; rfl))
          go_wp2
          go_ret
          exact ⟨ret_bool (by rw [HS.out]; exact HZ.out.symm), hbr⟩
        · by_cases h2 : x < (n : Int)
          · have HZ := Lib.hid (show risB cs n (j + 1) = true by
              show (risB cs n j && (decide (prvI cs j ≤ cs j) && decide (cs j < (n : Int)))) = true
              rw [HA.out, ← HX.out.1, ← HX.out.2, decide_eq_true (by omega), decide_eq_true h2]; rfl)
            have HP := Lib.hid (show prvI cs (j + 1) = x + 1 by rw [HX.out.1]; rfl)
            have h0 : -9223372036854775808 ≤ x := by have := HR.out j hlt; rw [← HX.out.1] at this; exact this.1
            go_wp2
            go_roundw
            case rel => exact ⟨j + 1, by omega, by rw [HP.out], by go_num, HZ, hbr⟩
            case measure => simp [intOf]; omega
          · have HZ := Lib.hid (allTo_not (p := fun i => decide (prvI cs i ≤ cs i) && decide (cs i < (n : Int))) hlt (by show (decide (prvI cs j ≤ cs j) && decide (cs j < (n : Int))) = false; rw [← HX.out.1, ← HX.out.2, decide_eq_false h2, Bool.and_false]))
            go_wp2
            go_ret
            exact ⟨ret_bool (by rw [HS.out]; exact HZ.out.symm), hbr⟩
      · obtain rfl : cn = j := by omega
        go_wp2
        go_ret
        exact ⟨ret_bool (by rw [HS.out, HA.out]), hbr⟩
  · by_cases h0 : cn = 0
    · subst h0
      go_enter Tryd.func70, Tryd.ntmps70
      go_wp2
      go_ret
      exact ⟨rfl, alloc_below _ _⟩
    · have HS := Lib.hid (show startsB ⟨ca, cn, cc, cs, true, bol, rx, tr, eof, act, to⟩ (n : Int) = false from decide_eq_false h0)
      have h0' : ((cn : Int) == 0) = false := by simp; omega
      go_enter Tryd.func70, Tryd.ntmps70
      go_wp2
      go_ret
      exact ⟨ret_bool HS.out.symm, alloc_below _ _⟩
set_option maxRecDepth 100000 in
set_option maxHeartbeats 2000000 in
theorem action_any (r : Rl) (n : Nat) (w : World) : Calls Tryd.prog 71 #[ruleV r, .int .i64 n] w fun e w' => e = .returned (.bool (actB r n)) ∧ Below w.heap.size w w' := by
  obtain ⟨ca, cn, cc, cs, all, bol, rx, tr, eof, act, to⟩ := r
  obtain ⟨b, hb⟩ : ∃ b, b = actB ⟨ca, cn, cc, cs, all, bol, rx, tr, eof, act, to⟩ (n : Int) := ⟨_, rfl⟩
  rw [← hb]
  unfold actB at hb
  dsimp only at hb
  by_cases h1 : act = 1
  · subst h1
    rw [if_pos (Or.inl rfl)] at hb
    by_cases h0 : to = 0
    · subst h0
      obtain rfl : b = true := by rw [hb]; rfl
      clear hb
      go_enter Tryd.func71, Tryd.ntmps71
      go_wp2
      go_ret
      exact ⟨rfl, alloc_below _ _⟩
    · have h0' : (to == 0) = false := by simp [h0]
      obtain rfl : b = false := by rw [hb, decide_eq_false h0]
      clear hb
      go_enter Tryd.func71, Tryd.ntmps71
      go_wp2
      go_ret
      exact ⟨rfl, alloc_below _ _⟩
  · have h1' : (act == 1) = false := by simp [h1]
    by_cases h2 : act = 2
    · subst h2
      rw [if_pos (Or.inr rfl)] at hb
      by_cases h0 : to = 0
      · subst h0
        obtain rfl : b = true := by rw [hb]; rfl
        clear hb
        go_enter Tryd.func71, Tryd.ntmps71
        go_wp2
        go_ret
        exact ⟨rfl, alloc_below _ _⟩
      · have h0' : (to == 0) = false := by simp [h0]
        obtain rfl : b = false := by rw [hb, decide_eq_false h0]
        clear hb
        go_enter Tryd.func71, Tryd.ntmps71
        go_wp2
        go_ret
        exact ⟨rfl, alloc_below _ _⟩
    · have h2' : (act == 2) = false := by simp [h2]
      rw [if_neg (by omega)] at hb
      by_cases h3 : act = 3
      · subst h3
        rw [if_pos rfl] at hb
        have HB := Lib.hid hb
        clear hb h1 h2 h1' h2'
        go_enter Tryd.func71, Tryd.ntmps71
        go_wp2_with fail
        refine (isIndex_any to (n : Int) _).mono ?_
        rintro e w' ⟨rfl, rfl⟩
        rw [← HB.out]
        go_wp2
        go_ret
        exact ⟨rfl, alloc_below _ _⟩
      · have h3' : (act == 3) = false := by simp [h3]
        rw [if_neg h3] at hb
        subst hb
        go_enter Tryd.func71, Tryd.ntmps71
        go_wp2
        go_ret
        exact ⟨rfl, alloc_below _ _⟩
/-- Behind a box. -/
def Bx (w : World) (o : Obj) (w1 : World) : Prop := Below (w.alloc o).heap.size (w.alloc o) w1
theorem Bx.refl (w : World) (o : Obj) : Bx w o (w.alloc o) := Below.refl _ _
theorem Bx.to {w w1 w2 : World} {o : Obj} (h : Bx w o w1) (h' : Below w1.heap.size w1 w2) : Bx w o w2 := Below.trans h (h'.mono (Below.size h))
theorem Bx.out {w w1 : World} {o : Obj} (h : Bx w o w1) : Below w.heap.size w w1 := box_below h
theorem Bx.drew {w w1 : World} {o : Obj} (h : Bx w o w1) : Bx w o w1.drew := Below.drew h
set_option maxRecDepth 100000 in
set_option maxHeartbeats 4000000 in
theorem patterns_any (r : Rl) (w : World) (hx : Lives w w.heap.size r.rx) (ht : Lives w w.heap.size r.tr) (cx : cnt r.rx ≤ 2000) (ct : cnt r.tr ≤ 2000) : Calls Tryd.prog 72 #[ruleV r] w fun e w' => e = .returned (.bool (patB r)) ∧ Below w.heap.size w w' := by
  obtain ⟨ca, cn, cc, cs, all, bol, rx, tr, eof, act, to⟩ := r
  dsimp only at hx ht cx ct
  have HNX : Hid (∀ o w1, Bx w o w1 → Calls Tryd.prog 90 #[nodeV rx.k rx.s rx.lo rx.hi (.slice rx.a rx.n rx.cap)] w1 fun e w' => e = .returned (.bool (noneB rx)) ∧ Bx w o w') := Lib.hid fun o w1 hb => (isNone_any rx w1 (hx.now hb.out) cx).mono fun e w' h => ⟨h.1, hb.to h.2⟩
  have HNT : Hid (∀ o w1, Bx w o w1 → Calls Tryd.prog 90 #[nodeV tr.k tr.s tr.lo tr.hi (.slice tr.a tr.n tr.cap)] w1 fun e w' => e = .returned (.bool (noneB tr)) ∧ Bx w o w') := Lib.hid fun o w1 hb => (isNone_any tr w1 (ht.now hb.out) ct).mono fun e w' h => ⟨h.1, hb.to h.2⟩
  have HRX : Hid (∀ o w1, Bx w o w1 → Calls Tryd.prog 18 #[nodeV rx.k rx.s rx.lo rx.hi (.slice rx.a rx.n rx.cap)] w1 fun e w' => e = .returned (.bool (rightB rx)) ∧ Bx w o w') := Lib.hid fun o w1 hb => (right_any rx w1 (hx.now hb.out)).mono fun e w' h => ⟨h.1, hb.to h.2⟩
  have HRT : Hid (∀ o w1, Bx w o w1 → Calls Tryd.prog 18 #[nodeV tr.k tr.s tr.lo tr.hi (.slice tr.a tr.n tr.cap)] w1 fun e w' => e = .returned (.bool (rightB tr)) ∧ Bx w o w') := Lib.hid fun o w1 hb => (right_any tr w1 (ht.now hb.out)).mono fun e w' h => ⟨h.1, hb.to h.2⟩
  clear hx ht cx ct
  obtain ⟨b, hb⟩ : ∃ b, b = patB ⟨ca, cn, cc, cs, all, bol, rx, tr, eof, act, to⟩ := ⟨_, rfl⟩
  rw [← hb]
  unfold patB at hb
  dsimp only at hb
  obtain ⟨bnx, h1⟩ : ∃ x, x = noneB rx := ⟨_, rfl⟩
  obtain ⟨bnt, h2⟩ : ∃ x, x = noneB tr := ⟨_, rfl⟩
  obtain ⟨brx, h3⟩ : ∃ x, x = rightB rx := ⟨_, rfl⟩
  obtain ⟨brt, h4⟩ : ∃ x, x = rightB tr := ⟨_, rfl⟩
  rw [← h1] at HNX hb
  rw [← h2] at HNT hb
  rw [← h3] at HRX hb
  rw [← h4] at HRT hb
  clear h1 h2 h3 h4
  cases eof
  · cases brx
    · obtain rfl : b = false := hb
      clear HNX HNT HRT
      go_enter Tryd.func72, Tryd.ntmps72
      go_wp2_with (first | (go_at_call 18; refine (HRX.out _ _ (Bx.refl _ _)).mono ?_; rintro e w1 ⟨rfl, hb1⟩))
      go_ret
      exact ⟨rfl, hb1.out⟩
    · cases bnt
      · obtain rfl : b = brt := hb
        clear HNX
        go_enter Tryd.func72, Tryd.ntmps72
        go_wp2_with (first | (go_at_call 18; refine (HRX.out _ _ (Bx.refl _ _)).mono ?_; clear HRX; rintro e w1 ⟨rfl, hb1⟩; obtain ⟨x0, x1, x2, x3, x4, x5, x6, x7, x8, x9, x10, x11, x12, x13, x14, x15, x16, x17, x18, x19, x20, x21⟩ := cell22 (r := ⟨ca, cn, cc, cs, all, bol, rx, tr, false, act, to⟩) (box_kept hb1)) | (go_at_call 90; refine (HNT.out _ _ hb1).mono ?_; rintro e w2 ⟨rfl, hb2⟩; clear x0 x1 x2 x3 x4 x5 x6 x7 x8 x9 x10 x11 x12 x13 x14 x15 x16 x17 x18 x19 x20 x21; obtain ⟨x0, x1, x2, x3, x4, x5, x6, x7, x8, x9, x10, x11, x12, x13, x14, x15, x16, x17, x18, x19, x20, x21⟩ := cell22 (r := ⟨ca, cn, cc, cs, all, bol, rx, tr, false, act, to⟩) (box_kept hb2)) | (go_at_call 18; refine (HRT.out _ _ hb2).mono ?_; rintro e w3 ⟨rfl, hb3⟩))
        go_ret
        exact ⟨rfl, hb3.out⟩
      · obtain rfl : b = true := hb
        clear HNX HRT
        go_enter Tryd.func72, Tryd.ntmps72
        go_wp2_with (first | (go_at_call 18; refine (HRX.out _ _ (Bx.refl _ _)).mono ?_; rintro e w1 ⟨rfl, hb1⟩; obtain ⟨x0, x1, x2, x3, x4, x5, x6, x7, x8, x9, x10, x11, x12, x13, x14, x15, x16, x17, x18, x19, x20, x21⟩ := cell22 (r := ⟨ca, cn, cc, cs, all, bol, rx, tr, false, act, to⟩) (box_kept hb1)) | (go_at_call 90; refine (HNT.out _ _ hb1).mono ?_; rintro e w2 ⟨rfl, hb2⟩))
        go_ret
        exact ⟨rfl, hb2.out⟩
  · cases bol
    · cases bnx
      · obtain rfl : b = false := hb
        clear HNT HRT HRX
        go_enter Tryd.func72, Tryd.ntmps72
        go_wp2_with (first | (go_at_call 90; refine (HNX.out _ _ (Bx.refl _ _)).mono ?_; rintro e w1 ⟨rfl, hb1⟩))
        go_ret
        exact ⟨rfl, hb1.out⟩
      · obtain rfl : b = bnt := hb
        clear HRT HRX
        go_enter Tryd.func72, Tryd.ntmps72
        go_wp2_with (first | (go_at_call 90; refine (HNX.out _ _ (Bx.refl _ _)).mono ?_; clear HNX; rintro e w1 ⟨rfl, hb1⟩; obtain ⟨x0, x1, x2, x3, x4, x5, x6, x7, x8, x9, x10, x11, x12, x13, x14, x15, x16, x17, x18, x19, x20, x21⟩ := cell22 (r := ⟨ca, cn, cc, cs, all, false, rx, tr, true, act, to⟩) (box_kept hb1)) | (go_at_call 90; refine (HNT.out _ _ hb1).mono ?_; rintro e w2 ⟨rfl, hb2⟩))
        go_ret
        exact ⟨rfl, hb2.out⟩
    · obtain rfl : b = false := hb
      clear HNX HNT HRT HRX
      go_enter Tryd.func72, Tryd.ntmps72
      go_wp2
      go_ret
      exact ⟨rfl, alloc_below _ _⟩
end Go.Proofs.YtnfchlkdppblfaaDoor
