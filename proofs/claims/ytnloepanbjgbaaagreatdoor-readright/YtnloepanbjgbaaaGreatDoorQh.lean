/- Reading a quantifier: what is to be done, and the contracts of the landed code's number, upper, braces, quantifier, atQuantifier. -/
import Derived.Test.YtnloepanbjgbaaaGreatDoorQe
namespace Go.Proofs.YtnloepanbjgbaaaGreatDoor
open Go.RowKit
def numL (N : Nat → Int) : Nat → Nat → Int → Int × Nat
  | 0, i, a => (a, i)
  | n + 1, i, a => if digC (N i) = true then numL N n (i + 1) (a * 10 + N i - 48) else (a, i)
def numP (N : Nat → Int) (i : Nat) : Rs Int := if digC (N i) = false then .er 20 i else .ok (numL N (if N i = 48 then 1 else 3) i 0).1 (numL N (if N i = 48 then 1 else 3) i 0).2
/-- What a function that returns a number, or an error, is to do. -/
def PN (w : World) (p : Nat) (C : Cx) (deep cop : Nat) (r : Rs Int) (e : Ending) (w' : World) : Prop :=
  w.grownBy w' (some p) ∧ match r with
    | .ok a i => e = .returned (.tuple #[.int .i64 a, .nilIface]) ∧ (-1 ≤ a ∧ a ≤ 999) ∧ Rd w' p C i deep cop
    | .er c i => e = .returned (.tuple #[.int .i64 0, errV c i]) ∧ i ≤ C.S.size ∧ ∃ j, Rd w' p C j deep cop
theorem PN.from {w w1 : World} {p : Nat} {C : Cx} {deep cop : Nat} {r : Rs Int} {e : Ending} {w' : World} (h : PN w1 p C deep cop r e w') (hG : w.grownBy w1 (some p)) : PN w p C deep cop r e w' := ⟨gtrans hG h.1, h.2⟩
theorem PN.form {w : World} {p : Nat} {C : Cx} {deep cop : Nat} {r : Rs Int} {e : Ending} {w' : World} (h : PN w p C deep cop r e w') : ∃ x v, e = .returned (.tuple #[.int .i64 x, v]) := by
  cases r with
  | ok a i => exact ⟨_, _, h.2.1⟩
  | er c i => exact ⟨_, _, h.2.1⟩
/-- In the midst of a number. -/
def NuR (w : World) (p : Nat) (C : Cx) (deep cop i0 most : Nat) (R : Int × Nat) (v : Value) (gk : Nat) (wr : World) : Prop :=
  ∃ (a : Int) (j : Nat), v = .int .i64 a ∧ j + gk = i0 + most ∧ gk ≤ 3 ∧ R = numL (nx C.S) gk j a ∧ 0 ≤ a ∧ (gk = 3 → a = 0) ∧ (gk = 2 → a ≤ 9) ∧ (gk = 1 → a ≤ 99) ∧ a ≤ 999 ∧ Rd wr p C j deep cop ∧ w.grownBy wr (some p)
set_option maxRecDepth 100000 in
set_option maxHeartbeats 2000000 in
theorem number_any (w : World) (p : Nat) (C : Cx) (i deep cop : Nat) (h : Rd w p C i deep cop) : Calls Tryz.prog 130 #[rp p] w (PN w p C deep cop (numP (nx C.S) i)) := by
  have hz := h.sz
  have HR0 := Lib.hid h
  have HN := Lib.hid (next_any w p C i deep cop h)
  have HW := Lib.hid (wrong_any 20 w p C i deep cop h)
  obtain ⟨c0, c1, c2, c3, c4, c5⟩ := h.cells
  have hle := h.le
  clear h
  obtain ⟨x, hx⟩ : ∃ x, x = nx C.S i := ⟨_, rfl⟩
  have hxb := nx_ge (S := C.S) (i := i)
  obtain ⟨R, hR⟩ : ∃ R, R = numP (nx C.S) i := ⟨_, rfl⟩
  rw [← hR]
  unfold numP at hR
  rw [← hx] at HN hxb hR
  have HX := Lib.hid hx
  have HE := Lib.hid hR
  clear hx hR
  cases k1 : digC x
  · have HP := Lib.hid (show R = .er 20 i by rw [HE.out, if_pos k1])
    have K1 := Lib.hid k1
    clear k1
    go_enter Tryz.func130, Tryz.ntmps130
    go_wp2_with (first | (go_at_call 44; refine HN.out.mono ?_; rintro e w' ⟨rfl, rfl⟩) | (go_at_call 32; refine (isDigit_any x _).mono ?_; rintro e w' ⟨rfl, rfl⟩; rw [K1.out]) | (go_at_call 45; refine HW.out.mono ?_; rintro e w' ⟨rfl, rfl⟩))
    go_ret2
    rw [HP.out]; exact ⟨grown_refl _ _, rfl, hle, _, HR0.out⟩
  · have HP0 := Lib.hid (show R = .ok (numL (nx C.S) (if x = 48 then 1 else 3) i 0).1 (numL (nx C.S) (if x = 48 then 1 else 3) i 0).2 by rw [HE.out, if_neg (by rw [k1]; simp)])
    have K1 := Lib.hid k1
    have hx2 := digC_yes k1
    clear k1 HE
    by_cases hm : x = 48
    · skip
      have HP1 := Lib.hid HP0.out
      rw [if_pos hm] at HP1
      obtain ⟨Q, hQ⟩ : ∃ Q, Q = numL (nx C.S) 1 i 0 := ⟨_, rfl⟩
      rw [← hQ] at HP1
      have HQ := Lib.hid hQ
      clear hQ HP0
      subst hm
      go_enter Tryz.func130, Tryz.ntmps130
      go_wp2_with (first | (go_at_call 44; refine HN.out.mono ?_; rintro e w' ⟨rfl, rfl⟩) | (go_at_call 32; refine (isDigit_any _ _).mono ?_; rintro e w' ⟨rfl, rfl⟩; rw [K1.out]))
      go_loopg [5] 1 (fun gk v wr => NuR w p C deep cop i 1 Q v gk wr)
      case atStart => exact ⟨0, i, rfl, rfl, by omega, HQ.out, by omega, by omega, by omega, by omega, by omega, HR0.out, grown_refl _ _⟩
      case round =>
        obtain ⟨a, j, rfl, hj, hg3, hQ, a0, a3, a2, a1, a9, hR, hG⟩ := hrel
        have HQ2 := Lib.hid hQ
        have HG := Lib.hid hG
        have HR := Lib.hid hR
        have hjl := hR.le
        have HN2 := Lib.hid (next_any wr p C j deep cop hR)
        clear c0 c1 c2 c3 c4 c5 hQ hG HN HW HR0
        obtain ⟨c0, c1, c2, c3, c4, c5⟩ := hR.cells
        have hf := hR.free 3
        clear hR
        cases gk with
        | zero =>
          have i1 : ¬ (j : Int) < (i : Int) + 1 := by omega
          have HP := Lib.hid (show R = .ok a j by rw [HP1.out, HQ2.out, numL])
          clear a1 a2 a3
          go_wp2
          go_ret2
          rw [HP.out]; exact ⟨HG.out, rfl, ⟨by omega, a9⟩, HR.out⟩
        | succ gk =>
          have i1 : (j : Int) < (i : Int) + 1 := by omega
          obtain ⟨y, hy⟩ : ∃ y, y = nx C.S j := ⟨_, rfl⟩
          rw [← hy] at HN2
          have HY := Lib.hid hy
          clear hy
          cases k2 : digC y
          · have HP := Lib.hid (show R = .ok a j by rw [HP1.out, HQ2.out, numL, ← HY.out, if_neg (by rw [k2]; simp)])
            have K2 := Lib.hid k2
            clear k2 a1 a2 a3
            go_wp2_with (first | (go_at_call 44; refine HN2.out.mono ?_; rintro e w' ⟨rfl, rfl⟩) | (go_at_call 32; refine (isDigit_any _ _).mono ?_; rintro e w' ⟨rfl, rfl⟩; rw [K2.out]))
            go_ret2
            rw [HP.out]; exact ⟨HG.out, rfl, ⟨by omega, a9⟩, HR.out⟩
          · have hy2 := digC_yes k2
            have hlt := nx_lt (S := C.S) (i := j) (by rw [← HY.out]; omega)
            have HQ3 := Lib.hid (show Q = numL (nx C.S) gk (j + 1) (a * 10 + y - 48) by rw [HQ2.out, numL, ← HY.out, if_pos k2])
            have HS := Lib.hid (HR.out.step (j := j + 1) (by omega) (v := (j : Int) + 1) (by omega))
            have K2 := Lib.hid k2
            have b1 : gk = 2 → a = 0 := fun q => a3 (by omega)
            have b2 : gk = 1 → a ≤ 9 := fun q => a2 (by omega)
            have b3 : gk = 0 → a ≤ 99 := fun q => a1 (by omega)
            have hgk : gk ≤ 2 := by omega
            have B1 := Lib.hid b1
            have B2 := Lib.hid b2
            have B3 := Lib.hid b3
            have a99 : a ≤ 99 := by
              rcases (show gk = 0 ∨ gk = 1 ∨ gk = 2 by omega) with q | q | q
              · exact b3 q
              · have := b2 q; omega
              · have := b1 q; omega
            clear k2 a1 a2 a3 b1 b2 b3
            go_wp2_with (first | (go_at_call 44; refine HN2.out.mono ?_; rintro e w' ⟨rfl, rfl⟩) | (go_at_call 32; refine (isDigit_any _ _).mono ?_; rintro e w' ⟨rfl, rfl⟩; rw [K2.out]))
            go_roundg gk
            case rel => exact ⟨_, j + 1, rfl, by omega, by omega, HQ3.out, by omega, by omega, fun q => by have := B1.out q; omega, fun q => by have := B2.out q; omega, by omega, HS.out.1, gtrans HG.out HS.out.2⟩
            case measure => omega
    · skip
      have HP1 := Lib.hid HP0.out
      rw [if_neg hm] at HP1
      obtain ⟨Q, hQ⟩ : ∃ Q, Q = numL (nx C.S) 3 i 0 := ⟨_, rfl⟩
      rw [← hQ] at HP1
      have HQ := Lib.hid hQ
      clear hQ HP0
      have hm' : (x == 48) = false := by simp [hm]
      go_enter Tryz.func130, Tryz.ntmps130
      go_wp2_with (first | (go_at_call 44; refine HN.out.mono ?_; rintro e w' ⟨rfl, rfl⟩) | (go_at_call 32; refine (isDigit_any _ _).mono ?_; rintro e w' ⟨rfl, rfl⟩; rw [K1.out]))
      go_loopg [5] 3 (fun gk v wr => NuR w p C deep cop i 3 Q v gk wr)
      case atStart => exact ⟨0, i, rfl, rfl, by omega, HQ.out, by omega, by omega, by omega, by omega, by omega, HR0.out, grown_refl _ _⟩
      case round =>
        obtain ⟨a, j, rfl, hj, hg3, hQ, a0, a3, a2, a1, a9, hR, hG⟩ := hrel
        have HQ2 := Lib.hid hQ
        have HG := Lib.hid hG
        have HR := Lib.hid hR
        have hjl := hR.le
        have HN2 := Lib.hid (next_any wr p C j deep cop hR)
        clear c0 c1 c2 c3 c4 c5 hQ hG HN HW HR0
        obtain ⟨c0, c1, c2, c3, c4, c5⟩ := hR.cells
        have hf := hR.free 3
        clear hR
        cases gk with
        | zero =>
          have i1 : ¬ (j : Int) < (i : Int) + 3 := by omega
          have HP := Lib.hid (show R = .ok a j by rw [HP1.out, HQ2.out, numL])
          clear a1 a2 a3
          go_wp2
          go_ret2
          rw [HP.out]; exact ⟨HG.out, rfl, ⟨by omega, a9⟩, HR.out⟩
        | succ gk =>
          have i1 : (j : Int) < (i : Int) + 3 := by omega
          obtain ⟨y, hy⟩ : ∃ y, y = nx C.S j := ⟨_, rfl⟩
          rw [← hy] at HN2
          have HY := Lib.hid hy
          clear hy
          cases k2 : digC y
          · have HP := Lib.hid (show R = .ok a j by rw [HP1.out, HQ2.out, numL, ← HY.out, if_neg (by rw [k2]; simp)])
            have K2 := Lib.hid k2
            clear k2 a1 a2 a3
            go_wp2_with (first | (go_at_call 44; refine HN2.out.mono ?_; rintro e w' ⟨rfl, rfl⟩) | (go_at_call 32; refine (isDigit_any _ _).mono ?_; rintro e w' ⟨rfl, rfl⟩; rw [K2.out]))
            go_ret2
            rw [HP.out]; exact ⟨HG.out, rfl, ⟨by omega, a9⟩, HR.out⟩
          · have hy2 := digC_yes k2
            have hlt := nx_lt (S := C.S) (i := j) (by rw [← HY.out]; omega)
            have HQ3 := Lib.hid (show Q = numL (nx C.S) gk (j + 1) (a * 10 + y - 48) by rw [HQ2.out, numL, ← HY.out, if_pos k2])
            have HS := Lib.hid (HR.out.step (j := j + 1) (by omega) (v := (j : Int) + 1) (by omega))
            have K2 := Lib.hid k2
            have b1 : gk = 2 → a = 0 := fun q => a3 (by omega)
            have b2 : gk = 1 → a ≤ 9 := fun q => a2 (by omega)
            have b3 : gk = 0 → a ≤ 99 := fun q => a1 (by omega)
            have hgk : gk ≤ 2 := by omega
            have B1 := Lib.hid b1
            have B2 := Lib.hid b2
            have B3 := Lib.hid b3
            have a99 : a ≤ 99 := by
              rcases (show gk = 0 ∨ gk = 1 ∨ gk = 2 by omega) with q | q | q
              · exact b3 q
              · have := b2 q; omega
              · have := b1 q; omega
            clear k2 a1 a2 a3 b1 b2 b3
            go_wp2_with (first | (go_at_call 44; refine HN2.out.mono ?_; rintro e w' ⟨rfl, rfl⟩) | (go_at_call 32; refine (isDigit_any _ _).mono ?_; rintro e w' ⟨rfl, rfl⟩; rw [K2.out]))
            go_roundg gk
            case rel => exact ⟨_, j + 1, rfl, by omega, by omega, HQ3.out, by omega, by omega, fun q => by have := B1.out q; omega, fun q => by have := B2.out q; omega, by omega, HS.out.1, gtrans HG.out HS.out.2⟩
            case measure => omega
def upperP (N : Nat → Int) (lo : Int) (i : Nat) : Rs Int := if N i = 44 then (if N (i + 1) = 125 then .ok (-1) (i + 1) else numP N (i + 1)) else .ok lo i
set_option maxRecDepth 100000 in
set_option maxHeartbeats 2000000 in
theorem upper_any (lo : Int) (h0 : 0 ≤ lo) (h9 : lo ≤ 999) (w : World) (p : Nat) (C : Cx) (i deep cop : Nat) (h : Rd w p C i deep cop) : Calls Tryz.prog 131 #[rp p, .int .i64 lo] w (PN w p C deep cop (upperP (nx C.S) lo i)) := by
  have hz := h.sz
  have HR0 := Lib.hid h
  have HN := Lib.hid (next_any w p C i deep cop h)
  obtain ⟨c0, c1, c2, c3, c4, c5⟩ := h.cells
  have hf := h.free 3
  have hle := h.le
  clear h
  obtain ⟨x, hx⟩ : ∃ x, x = nx C.S i := ⟨_, rfl⟩
  obtain ⟨R, hR⟩ : ∃ R, R = upperP (nx C.S) lo i := ⟨_, rfl⟩
  rw [← hR]
  unfold upperP at hR
  rw [← hx] at HN hR
  have HX := Lib.hid hx
  have HE := Lib.hid hR
  clear hx hR
  by_cases hm : x = 44
  · have hlt := nx_lt (S := C.S) (i := i) (by rw [← HX.out]; omega)
    have HS := Lib.hid (HR0.out.step (j := i + 1) (by omega) (v := (i : Int) + 1) (by omega))
    have HN2 := Lib.hid (next_any _ p C (i + 1) deep cop HS.out.1)
    obtain ⟨y, hy⟩ : ∃ y, y = nx C.S (i + 1) := ⟨_, rfl⟩
    rw [← hy] at HN2 HE
    clear hy
    have HE1 := Lib.hid HE.out
    rw [if_pos hm] at HE1
    clear HE
    subst hm
    by_cases hm2 : y = 125
    · have HP := Lib.hid (show R = .ok (-1) (i + 1) by rw [HE1.out, if_pos hm2])
      clear HE1
      subst hm2
      go_enter Tryz.func131, Tryz.ntmps131
      go_wp2_with fail
      refine HN.out.mono ?_
      rintro e w' ⟨rfl, rfl⟩
      go_wp2_with fail
      refine HN2.out.mono ?_
      rintro e w' ⟨rfl, rfl⟩
      go_wp2
      go_ret2
      rw [HP.out]; exact ⟨HS.out.2, rfl, ⟨by omega, by omega⟩, HS.out.1⟩
    · have HP := Lib.hid (show R = numP (nx C.S) (i + 1) by rw [HE1.out, if_neg hm2])
      have hm3 : (y == 125) = false := by simp [hm2]
      clear HE1
      go_enter Tryz.func131, Tryz.ntmps131
      go_wp2_with fail
      refine HN.out.mono ?_
      rintro e w' ⟨rfl, rfl⟩
      go_wp2_with fail
      refine HN2.out.mono ?_
      rintro e w' ⟨rfl, rfl⟩
      go_wp2_with fail
      refine (number_any _ p C (i + 1) deep cop HS.out.1).mono ?_
      intro e w1 h1
      have H1 := Lib.hid (h1.from HS.out.2)
      obtain ⟨y, v, rfl⟩ := h1.form
      clear h1
      go_wp2
      go_ret2
      rw [HP.out]; exact H1.out
  · have HP := Lib.hid (show R = .ok lo i by rw [HE.out, if_neg hm])
    have hm3 : (x != 44) = true := by simp [hm]
    go_enter Tryz.func131, Tryz.ntmps131
    go_wp2_with fail
    refine HN.out.mono ?_
    rintro e w' ⟨rfl, rfl⟩
    go_wp2
    go_ret2
    rw [HP.out]; exact ⟨grown_refl _ _, rfl, ⟨by omega, by omega⟩, HR0.out⟩
def bracesP (N : Nat → Int) (i : Nat) : Rs (Int × Int) :=
  match numP N (i + 1) with
  | .er e k => .er e k
  | .ok lo j => match upperP N lo j with
    | .er e k => .er e k
    | .ok hi k => if N k = 125 then (if countsB lo hi = true then .ok (lo, hi) (k + 1) else .er 22 i) else .er 20 k
theorem numL_ge (N : Nat → Int) : ∀ (n i : Nat) (a : Int), 0 ≤ a → 0 ≤ (numL N n i a).1
  | 0, _, a, h => h
  | n + 1, i, a, h => by
    rw [numL]
    split
    · rename_i q
      have := digC_yes q
      exact numL_ge N n (i + 1) _ (by omega)
    · exact h
theorem numP_ge {N : Nat → Int} {i j : Nat} {a : Int} (h : numP N i = .ok a j) : 0 ≤ a := by
  unfold numP at h
  split at h
  · cases h
  · cases h; exact numL_ge _ _ _ _ (by omega)
/-- What a function that returns two numbers, or an error, is to do. -/
def PB (w : World) (p : Nat) (C : Cx) (deep cop : Nat) (r : Rs (Int × Int)) (e : Ending) (w' : World) : Prop :=
  w.grownBy w' (some p) ∧ match r with
    | .ok a i => e = .returned (.tuple #[.int .i64 a.1, .int .i64 a.2, .nilIface]) ∧ Rd w' p C i deep cop
    | .er c i => e = .returned (.tuple #[.int .i64 0, .int .i64 0, errV c i]) ∧ i ≤ C.S.size ∧ ∃ j, Rd w' p C j deep cop
theorem PB.from {w w1 : World} {p : Nat} {C : Cx} {deep cop : Nat} {r : Rs (Int × Int)} {e : Ending} {w' : World} (h : PB w1 p C deep cop r e w') (hG : w.grownBy w1 (some p)) : PB w p C deep cop r e w' := ⟨gtrans hG h.1, h.2⟩
theorem PB.form {w : World} {p : Nat} {C : Cx} {deep cop : Nat} {r : Rs (Int × Int)} {e : Ending} {w' : World} (h : PB w p C deep cop r e w') : ∃ x y v, e = .returned (.tuple #[.int .i64 x, .int .i64 y, v]) := by
  cases r with
  | ok a i => exact ⟨_, _, _, h.2.1⟩
  | er c i => exact ⟨_, _, _, h.2.1⟩
set_option maxRecDepth 100000 in
set_option maxHeartbeats 4000000 in
theorem braces_any (w : World) (p : Nat) (C : Cx) (i deep cop : Nat) (h : Rd w p C i deep cop) (hi : i < C.S.size) : Calls Tryz.prog 114 #[rp p] w (PB w p C deep cop (bracesP (nx C.S) i)) := by
  have hz := h.sz
  have HR0 := Lib.hid h
  have HW := Lib.hid (wrong_any 22 w p C i deep cop h)
  obtain ⟨c0, c1, c2, c3, c4, c5⟩ := h.cells
  have hf := h.free 3
  have HS := Lib.hid (h.step (j := i + 1) (by omega) (v := (i : Int) + 1) (by omega))
  clear h
  obtain ⟨R, hR⟩ : ∃ R, R = bracesP (nx C.S) i := ⟨_, rfl⟩
  rw [← hR]
  unfold bracesP at hR
  have HE := Lib.hid hR
  clear hR
  go_enter Tryz.func114, Tryz.ntmps114
  go_wp2_with fail
  refine HW.out.mono ?_
  rintro e w' ⟨rfl, rfl⟩
  go_wp2_with fail
  refine (number_any _ p C (i + 1) deep cop HS.out.1).mono ?_
  intro e w1 h1
  have h1 := h1.from HS.out.2
  clear HW HS c0 c1 c2 c3 c4 c5 hf HR0
  cases hr1 : numP (nx C.S) (i + 1) with
  | er c k =>
    rw [hr1] at h1
    have HP := Lib.hid (show R = .er c k by rw [HE.out, hr1])
    obtain ⟨hG1, rfl, hk, j1, hR1⟩ := h1
    have HG1 := Lib.hid hG1
    have HR1 := Lib.hid hR1
    clear hr1 hG1 hR1 HE
    go_wp2
    go_ret3
    rw [HP.out]; exact ⟨HG1.out, rfl, hk, j1, HR1.out⟩
  | ok lo j =>
    have l0 := numP_ge hr1
    rw [hr1] at h1
    have HE1 := Lib.hid HE.out
    rw [hr1] at HE1
    obtain ⟨hG1, rfl, ⟨_, l9⟩, hR1⟩ := h1
    have HG1 := Lib.hid hG1
    have HR1 := Lib.hid hR1
    clear hr1 hG1 hR1 HE
    go_wp2_with fail
    refine (upper_any lo l0 l9 _ p C j deep cop HR1.out).mono ?_
    intro e w2 h2
    have h2 := h2.from HG1.out
    clear HG1 HR1
    cases hr2 : upperP (nx C.S) lo j with
    | er c k =>
      rw [hr2] at h2
      have HP := Lib.hid (show R = .er c k by rw [HE1.out]; simp only [hr2])
      obtain ⟨hG2, rfl, hk, j2, hR2⟩ := h2
      have HG2 := Lib.hid hG2
      have HR2 := Lib.hid hR2
      clear hr2 hG2 hR2 HE1
      go_wp2
      go_ret3
      rw [HP.out]; exact ⟨HG2.out, rfl, hk, j2, HR2.out⟩
    | ok hi' k =>
      rw [hr2] at h2
      have HE2 := Lib.hid (show R = if nx C.S k = 125 then (if countsB lo hi' = true then .ok (lo, hi') (k + 1) else .er 22 i) else .er 20 k by rw [HE1.out]; simp only [hr2])
      obtain ⟨hG2, rfl, ⟨m1, m9⟩, hR2⟩ := h2
      have HG2 := Lib.hid hG2
      have HR2 := Lib.hid hR2
      have hkl := hR2.le
      clear hr2 hG2 hR2 HE1
      by_cases hm : nx C.S k = 125
      · have HE3 := Lib.hid HE2.out
        rw [if_pos hm] at HE3
        have HK := Lib.hid (skip_yes 125 w2 p C k deep cop HR2.out hm (by omega))
        clear HE2 hm
        cases hcb : countsB lo hi'
        · have HP := Lib.hid (show R = .er 22 i by rw [HE3.out, hcb]; rfl)
          have hbad : 20 < lo ∨ 20 < hi' ∨ (hi' ≠ -1 ∧ (lo = 0 ∧ hi' < 1 ∨ 1 ≤ lo ∧ hi' < lo)) := by
            by_cases q1 : 20 < lo
            · exact Or.inl q1
            · by_cases q2 : 20 < hi'
              · exact Or.inr (Or.inl q2)
              · by_cases q3 : hi' = -1
                · exfalso
                  have : countsB lo hi' = true := by simp [countsB, q3]; omega
                  rw [this] at hcb; cases hcb
                · refine Or.inr (Or.inr ⟨q3, ?_⟩)
                  by_cases q4 : max lo 1 ≤ hi'
                  · exfalso
                    have : countsB lo hi' = true := by simp [countsB]; omega
                    rw [this] at hcb; cases hcb
                  · omega
          clear hcb HE3
          rcases hbad with q | q | ⟨q, q'⟩
          · go_wp2_with fail
            refine HK.out.mono ?_
            rintro e w3 ⟨rfl, hR3, hG3⟩
            have HX := Lib.hid (show PB w p C deep cop R (.returned (.tuple #[.int .i64 0, .int .i64 0, errV 22 i])) w3 by rw [HP.out]; exact ⟨gtrans HG2.out hG3, rfl, by omega, _, hR3⟩)
            clear hR3 hG3
            go_wp2
            go_ret3
            exact HX.out
          · by_cases q1 : 20 < lo
            all_goals
              go_wp2_with fail
              refine HK.out.mono ?_
              rintro e w3 ⟨rfl, hR3, hG3⟩
              have HX := Lib.hid (show PB w p C deep cop R (.returned (.tuple #[.int .i64 0, .int .i64 0, errV 22 i])) w3 by rw [HP.out]; exact ⟨gtrans HG2.out hG3, rfl, by omega, _, hR3⟩)
              clear hR3 hG3
              go_wp2
              go_ret3
              exact HX.out
          · have q0 : (hi' != -1) = true := by simp [q]
            have q1 : ¬ 20 < lo ∨ 20 < lo := by omega
            rcases q' with ⟨rfl, q2⟩ | ⟨q3, q2⟩
            · go_wp2_with fail
              refine HK.out.mono ?_
              rintro e w3 ⟨rfl, hR3, hG3⟩
              have HX := Lib.hid (show PB w p C deep cop R (.returned (.tuple #[.int .i64 0, .int .i64 0, errV 22 i])) w3 by rw [HP.out]; exact ⟨gtrans HG2.out hG3, rfl, by omega, _, hR3⟩)
              clear hR3 hG3
              go_wp2
              go_ret3
              exact HX.out
            · rcases q1 with q1 | q1
              · by_cases q5 : 20 < hi'
                all_goals
                  go_wp2_with fail
                  refine HK.out.mono ?_
                  rintro e w3 ⟨rfl, hR3, hG3⟩
                  have HX := Lib.hid (show PB w p C deep cop R (.returned (.tuple #[.int .i64 0, .int .i64 0, errV 22 i])) w3 by rw [HP.out]; exact ⟨gtrans HG2.out hG3, rfl, by omega, _, hR3⟩)
                  clear hR3 hG3
                  go_wp2
                  go_ret3
                  exact HX.out
              · go_wp2_with fail
                refine HK.out.mono ?_
                rintro e w3 ⟨rfl, hR3, hG3⟩
                have HX := Lib.hid (show PB w p C deep cop R (.returned (.tuple #[.int .i64 0, .int .i64 0, errV 22 i])) w3 by rw [HP.out]; exact ⟨gtrans HG2.out hG3, rfl, by omega, _, hR3⟩)
                clear hR3 hG3
                go_wp2
                go_ret3
                exact HX.out
        · have HP := Lib.hid (show R = .ok (lo, hi') (k + 1) by rw [HE3.out, if_pos hcb])
          have hgood : lo ≤ 20 ∧ (hi' = -1 ∨ (hi' ≤ 20 ∧ lo ≤ hi' ∧ 1 ≤ hi')) := by
            simp only [countsB, Bool.and_eq_true, Bool.or_eq_true, decide_eq_true_eq] at hcb
            omega
          clear hcb HE3
          obtain ⟨q1, q2⟩ := hgood
          rcases q2 with rfl | ⟨q3, q4, q5⟩
          · go_wp2_with fail
            refine HK.out.mono ?_
            rintro e w3 ⟨rfl, hR3, hG3⟩
            have HX := Lib.hid (show PB w p C deep cop R (.returned (.tuple #[.int .i64 lo, .int .i64 (-1), .nilIface])) w3 by rw [HP.out]; exact ⟨gtrans HG2.out hG3, rfl, hR3⟩)
            clear hR3 hG3
            go_wp2
            go_ret3
            exact HX.out
          · have q0 : (hi' != -1) = true := by simp; omega
            by_cases q6 : lo = 0
            · subst q6
              go_wp2_with fail
              refine HK.out.mono ?_
              rintro e w3 ⟨rfl, hR3, hG3⟩
              have HX := Lib.hid (show PB w p C deep cop R (.returned (.tuple #[.int .i64 0, .int .i64 hi', .nilIface])) w3 by rw [HP.out]; exact ⟨gtrans HG2.out hG3, rfl, hR3⟩)
              clear hR3 hG3
              go_wp2
              go_ret3
              exact HX.out
            · have q7 : 1 ≤ lo := by omega
              go_wp2_with fail
              refine HK.out.mono ?_
              rintro e w3 ⟨rfl, hR3, hG3⟩
              have HX := Lib.hid (show PB w p C deep cop R (.returned (.tuple #[.int .i64 lo, .int .i64 hi', .nilIface])) w3 by rw [HP.out]; exact ⟨gtrans HG2.out hG3, rfl, hR3⟩)
              clear hR3 hG3
              go_wp2
              go_ret3
              exact HX.out
      · have HP := Lib.hid (show R = .er 20 k by rw [HE2.out, if_neg hm])
        have HK := Lib.hid (skip_no 125 w2 p C k deep cop HR2.out hm)
        clear HE2 hm
        go_wp2_with fail
        refine HK.out.mono ?_
        rintro e w' ⟨rfl, rfl⟩
        go_wp2
        go_ret3
        rw [HP.out]; exact ⟨HG2.out, rfl, hkl, _, HR2.out⟩
end Go.Proofs.YtnloepanbjgbaaaGreatDoor
/- The landed code's atQuantifier and quantifier. -/
namespace Go.Proofs.YtnloepanbjgbaaaGreatDoor
open Go.RowKit
def atQP (N : Nat → Int) (i : Nat) : Bool := decide (N i = 42) || (decide (N i = 43) || (decide (N i = 63) || (decide (N i = 123) && digC (N (i + 1)))))
def quantP (N : Nat → Int) (i : Nat) : Rs (Int × Int) := if N i = 123 then bracesP N i else if N i = 63 then .ok (0, 1) (i + 1) else if N i = 43 then .ok (1, -1) (i + 1) else .ok (0, -1) (i + 1)
set_option maxRecDepth 100000 in
set_option maxHeartbeats 2000000 in
theorem atQ_any (w : World) (p : Nat) (C : Cx) (i deep cop : Nat) (h : Rd w p C i deep cop) : Calls Tryz.prog 98 #[rp p] w fun e w' => e = .returned (.bool (atQP (nx C.S) i)) ∧ w = w' := by
  have HN := Lib.hid (next_any w p C i deep cop h)
  have HL := Lib.hid (later_any w p C i deep cop 1 h (by omega))
  clear h
  obtain ⟨x, hx⟩ : ∃ x, x = nx C.S i := ⟨_, rfl⟩
  obtain ⟨R, hR⟩ : ∃ R, R = atQP (nx C.S) i := ⟨_, rfl⟩
  rw [← hR]
  unfold atQP at hR
  rw [← hx] at HN hR
  have HX := Lib.hid hx
  have HE := Lib.hid hR
  clear hx hR
  by_cases g1 : x = 42
  · have HP := Lib.hid (show R = true by rw [HE.out]; simp [g1])
    subst g1
    go_enter Tryz.func98, Tryz.ntmps98
    go_wp2_with (go_at_call 44; refine HN.out.mono ?_; rintro e w' ⟨rfl, rfl⟩)
    go_ret
    exact ⟨ret_bool HP.out.symm, rfl⟩
  · by_cases g2 : x = 43
    · have HP := Lib.hid (show R = true by rw [HE.out]; simp [g2])
      subst g2
      go_enter Tryz.func98, Tryz.ntmps98
      go_wp2_with (go_at_call 44; refine HN.out.mono ?_; rintro e w' ⟨rfl, rfl⟩)
      go_ret
      exact ⟨ret_bool HP.out.symm, rfl⟩
    · by_cases g3 : x = 63
      · have HP := Lib.hid (show R = true by rw [HE.out]; simp [g3])
        subst g3
        go_enter Tryz.func98, Tryz.ntmps98
        go_wp2_with (go_at_call 44; refine HN.out.mono ?_; rintro e w' ⟨rfl, rfl⟩)
        go_ret
        exact ⟨ret_bool HP.out.symm, rfl⟩
      · have e1 : (x == 42) = false := by simp [g1]
        have e2 : (x == 43) = false := by simp [g2]
        have e3 : (x == 63) = false := by simp [g3]
        by_cases g4 : x = 123
        · obtain ⟨y, hy⟩ : ∃ y, y = nx C.S (i + 1) := ⟨_, rfl⟩
          rw [← hy] at HL HE
          have HP := Lib.hid (show R = digC y by rw [HE.out]; simp [g4])
          clear hy
          subst g4
          go_enter Tryz.func98, Tryz.ntmps98
          go_wp2_with (first | (go_at_call 44; refine HN.out.mono ?_; rintro e w' ⟨rfl, rfl⟩) | (go_at_call 66; refine HL.out.mono ?_; rintro e w' ⟨rfl, rfl⟩) | (go_at_call 32; refine (isDigit_any _ _).mono ?_; rintro e w' ⟨rfl, rfl⟩))
          go_ret
          exact ⟨ret_bool HP.out.symm, rfl⟩
        · have HP := Lib.hid (show R = false by rw [HE.out]; simp [g1, g2, g3, g4])
          have e4 : (x == 123) = false := by simp [g4]
          go_enter Tryz.func98, Tryz.ntmps98
          go_wp2_with (go_at_call 44; refine HN.out.mono ?_; rintro e w' ⟨rfl, rfl⟩)
          go_ret
          exact ⟨ret_bool HP.out.symm, rfl⟩
set_option maxRecDepth 100000 in
set_option maxHeartbeats 2000000 in
theorem quantifier_any (w : World) (p : Nat) (C : Cx) (i deep cop : Nat) (h : Rd w p C i deep cop) (hq : atQP (nx C.S) i = true) : Calls Tryz.prog 99 #[rp p] w (PB w p C deep cop (quantP (nx C.S) i)) := by
  have hz := h.sz
  have HR0 := Lib.hid h
  have HN := Lib.hid (next_any w p C i deep cop h)
  obtain ⟨c0, c1, c2, c3, c4, c5⟩ := h.cells
  have hf := h.free 3
  clear h
  obtain ⟨x, hx⟩ : ∃ x, x = nx C.S i := ⟨_, rfl⟩
  obtain ⟨R, hR⟩ : ∃ R, R = quantP (nx C.S) i := ⟨_, rfl⟩
  rw [← hR]
  unfold quantP at hR
  unfold atQP at hq
  rw [← hx] at HN hR hq
  have HX := Lib.hid hx
  have HE := Lib.hid hR
  have hx4 : x = 42 ∨ x = 43 ∨ x = 63 ∨ x = 123 := by
    simp only [Bool.or_eq_true, Bool.and_eq_true, decide_eq_true_eq] at hq
    omega
  clear hx hR hq
  have hlt := nx_lt (S := C.S) (i := i) (by rw [← HX.out]; omega)
  have HS := Lib.hid (HR0.out.step (j := i + 1) (by omega) (v := (i : Int) + 1) (by omega))
  rcases hx4 with rfl | rfl | rfl | rfl
  · have HP := Lib.hid (show R = .ok (0, -1) (i + 1) by rw [HE.out]; simp)
    go_enter Tryz.func99, Tryz.ntmps99
    go_wp2_with (go_at_call 44; refine HN.out.mono ?_; rintro e w' ⟨rfl, rfl⟩)
    go_ret3
    rw [HP.out]; exact ⟨HS.out.2, rfl, HS.out.1⟩
  · have HP := Lib.hid (show R = .ok (1, -1) (i + 1) by rw [HE.out]; simp)
    go_enter Tryz.func99, Tryz.ntmps99
    go_wp2_with (go_at_call 44; refine HN.out.mono ?_; rintro e w' ⟨rfl, rfl⟩)
    go_ret3
    rw [HP.out]; exact ⟨HS.out.2, rfl, HS.out.1⟩
  · have HP := Lib.hid (show R = .ok (0, 1) (i + 1) by rw [HE.out]; simp)
    go_enter Tryz.func99, Tryz.ntmps99
    go_wp2_with (go_at_call 44; refine HN.out.mono ?_; rintro e w' ⟨rfl, rfl⟩)
    go_ret3
    rw [HP.out]; exact ⟨HS.out.2, rfl, HS.out.1⟩
  · have HP := Lib.hid (show R = bracesP (nx C.S) i by rw [HE.out]; simp)
    go_enter Tryz.func99, Tryz.ntmps99
    go_wp2_with fail
    refine HN.out.mono ?_
    rintro e w' ⟨rfl, rfl⟩
    go_wp2_with fail
    refine (braces_any _ p C i deep cop HR0.out hlt).mono ?_
    intro e w1 h1
    have H1 := Lib.hid h1
    obtain ⟨x, y, v, rfl⟩ := h1.form
    clear h1
    go_wp2
    go_ret3
    rw [HP.out]; exact H1.out
end Go.Proofs.YtnloepanbjgbaaaGreatDoor
