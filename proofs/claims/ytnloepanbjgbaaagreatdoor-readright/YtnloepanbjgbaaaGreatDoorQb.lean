/- Reading one byte of a pattern's text: what is to be done, and the contracts of the landed code's hex, escaped, single (and of strings.IndexByte). -/
import Derived.Test.YtnloepanbjgbaaaGreatDoorQa
import Derived.Lib.Bytealg
namespace Go.Proofs.YtnloepanbjgbaaaGreatDoor
open Go.RowKit
/-- What reading answers: a value and the place behind it, or an error and its place. -/
inductive Rs (α : Type) where
  | ok (a : α) (i : Nat)
  | er (e : Int) (i : Nat)
def hexOk (c : Int) : Bool := digC c || (decide (97 ≤ c) && decide (c ≤ 102))
def hexI (c : Int) : Int := if digC c = true then c - 48 else c - 97 + 10
def hexP (N : Nat → Int) (i : Nat) : Rs Int := if hexOk (N i) = false then .er 20 i else if hexOk (N (i + 1)) = false then .er 20 (i + 1) else .ok (hexI (N i) * 16 + hexI (N (i + 1))) (i + 2)
def escP (N : Nat → Int) (i : Nat) : Rs Int :=
  if N i = 120 then hexP N (i + 1) else if N i = 110 then .ok 10 (i + 1) else if N i = 116 then .ok 9 (i + 1) else
    if visC (N i) = true ∧ letC (N i) = false ∧ digC (N i) = false then .ok (N i) (i + 1) else .er 20 i
/-- What a function that returns a number, or an error, is to do. -/
def PI (w : World) (p : Nat) (C : Cx) (deep cop : Nat) (r : Rs Int) (e : Ending) (w' : World) : Prop :=
  w.grownBy w' (some p) ∧ match r with
    | .ok a i => e = .returned (.tuple #[.int .i64 a, .nilIface]) ∧ 0 ≤ a ∧ a < 256 ∧ Rd w' p C i deep cop
    | .er c i => (∃ x, 0 ≤ x ∧ x < 256 ∧ e = .returned (.tuple #[.int .i64 x, errV c i])) ∧ i ≤ C.S.size ∧ ∃ j, Rd w' p C j deep cop
theorem gtrans {a w w' : World} {row : Option Nat} (h : a.grownBy w row) (k : w.grownBy w' row) : a.grownBy w' row :=
  ⟨k.os.trans h.os, k.tape.trans h.tape, k.output.trans h.output, Nat.le_trans h.size k.size, fun i hi hr => (k.block i (Nat.lt_of_lt_of_le hi h.size) hr).trans (h.block i hi hr)⟩
theorem grown_refl (w : World) (r : Option Nat) : w.grownBy w r := ⟨rfl, rfl, rfl, Nat.le_refl _, fun _ _ _ => rfl⟩
theorem hexOk_yes {c : Int} (h : hexOk c = true) : 0 ≤ c ∧ 0 ≤ hexI c ∧ hexI c < 16 := by
  unfold hexI
  by_cases q : digC c = true
  · rw [if_pos q]; have := digC_yes q; omega
  · rw [if_neg q]; simp only [hexOk, q, Bool.false_or, Bool.and_eq_true, decide_eq_true_eq] at h; omega
def accH (N : Nat → Int) (i : Nat) : Nat → Int
  | 0 => 0
  | j + 1 => accH N i j * 16 + hexI (N (i + j))
theorem accH_1 {N : Nat → Int} {i : Nat} (h : hexOk (N i) = true) : 0 ≤ accH N i 1 ∧ accH N i 1 < 16 := by
  have := hexOk_yes h
  simp only [accH, Nat.add_zero]; omega
theorem accH_2 {N : Nat → Int} {i : Nat} (h : hexOk (N i) = true) (h' : hexOk (N (i + 1)) = true) : 0 ≤ accH N i 2 ∧ accH N i 2 < 256 := by
  have := hexOk_yes h
  have := hexOk_yes h'
  simp only [accH, Nat.add_zero]; omega
/-- Some of the digits are read. -/
def HexR (w : World) (p : Nat) (C : Cx) (i deep cop : Nat) (v b : Value) (wr : World) : Prop :=
  ∃ j, j ≤ 2 ∧ v = .int .i64 (j : Nat) ∧ b = .int .i64 (accH (nx C.S) i j) ∧ (∀ k, k < j → hexOk (nx C.S (i + k)) = true) ∧ Rd wr p C (i + j) deep cop ∧ w.grownBy wr (some p)
theorem hexR_bound {N : Nat → Int} {i j : Nat} (hj : j ≤ 2) (h : ∀ k, k < j → hexOk (N (i + k)) = true) : 0 ≤ accH N i j ∧ accH N i j < 256 ∧ (j < 2 → accH N i j < 16) := by
  match j, hj with
  | 0, _ => simp [accH]
  | 1, _ => have := accH_1 (N := N) (i := i) (h 0 (by omega)); omega
  | 2, _ => have := accH_2 (N := N) (i := i) (h 0 (by omega)) (h 1 (by omega)); omega
theorem hexP_bad {N : Nat → Int} {i j : Nat} (hj : j < 2) (h : ∀ k, k < j → hexOk (N (i + k)) = true) (hb : hexOk (N (i + j)) = false) : hexP N i = .er 20 (i + j) := by
  unfold hexP
  match j, hj with
  | 0, _ => rw [Nat.add_zero] at hb; rw [if_pos hb, Nat.add_zero]
  | 1, _ => rw [if_neg (by have := h 0 (by omega); rw [Nat.add_zero] at this; simp [this]), if_pos hb]
theorem hexP_ok {N : Nat → Int} {i : Nat} (h : ∀ k, k < 2 → hexOk (N (i + k)) = true) : hexP N i = .ok (accH N i 2) (i + 2) := by
  unfold hexP
  have h0 := h 0 (by omega)
  have h1 := h 1 (by omega)
  rw [Nat.add_zero] at h0
  simp [h0, h1, accH]
theorem snoc_all {P : Nat → Prop} {j : Nat} (h : ∀ k, k < j → P k) (hj : P j) : ∀ k, k < j + 1 → P k := fun k hk => by
  rcases Nat.lt_or_ge k j with q | q
  · exact h k q
  · rw [show k = j by omega]; exact hj
set_option maxRecDepth 100000 in
set_option maxHeartbeats 2000000 in
theorem hex_any (w : World) (p : Nat) (C : Cx) (i deep cop : Nat) (h : Rd w p C i deep cop) : Calls Tryz.prog 138 #[rp p] w (PI w p C deep cop (hexP (nx C.S) i)) := by
  have H := Lib.hid h
  have hz := h.sz
  clear h
  go_enter Tryz.func138, Tryz.ntmps138
  go_wp2
  go_loopw [4, 6] (fun b v wr => HexR w p C i deep cop v b wr) (fun _ v _ => 2 - (intOf v).toNat)
  case atStart => exact ⟨0, by omega, rfl, rfl, fun k hk => by omega, H.out, grown_refl _ _⟩
  case round =>
    obtain ⟨j, hj, rfl, rfl, ha, hR, hG⟩ := hrel
    obtain ⟨b0, b1, b2⟩ := hexR_bound hj ha
    have HG := Lib.hid hG
    have HA := Lib.hid ha
    obtain ⟨b, hb⟩ : ∃ b, b = accH (nx C.S) i j := ⟨_, rfl⟩
    rw [← hb] at b0 b1 b2 ⊢
    have HB := Lib.hid hb
    have HR := Lib.hid hR
    clear hG ha hb H
    by_cases hj2 : j < 2
    · have b3 := b2 hj2
      have HN := Lib.hid (next_any wr p C (i + j) deep cop hR)
      have HW := Lib.hid (wrong_any 20 wr p C (i + j) deep cop hR)
      obtain ⟨c0, c1, c2, c3, c4, c5⟩ := hR.cells
      have hf := hR.free 3
      have hle := hR.le
      clear hR b2
      obtain ⟨x, hx⟩ : ∃ x, x = nx C.S (i + j) := ⟨_, rfl⟩
      have hxb := nx_ge (S := C.S) (i := i + j)
      rw [← hx] at HN hxb
      have HX := Lib.hid hx
      clear hx
      cases hd : hexOk x
      · have HP := Lib.hid (hexP_bad hj2 HA.out (by rw [← HX.out]; exact hd))
        have d1 : digC x = false := by
          cases q : digC x
          · rfl
          · simp [hexOk, q] at hd
        have d2 : ¬ (97 ≤ x ∧ x ≤ 102) := by
          intro ⟨q, q'⟩
          simp [hexOk, q, q'] at hd
        have D1 := Lib.hid d1
        clear hd d1
        by_cases q : 97 ≤ x
        all_goals
          go_wp2_with (first | (go_at_call 44; refine HN.out.mono ?_; rintro e w' ⟨rfl, rfl⟩) | (go_at_call 32; refine (isDigit_any x _).mono ?_; rintro e w' ⟨rfl, rfl⟩; rw [D1.out]) | (go_at_call 45; refine HW.out.mono ?_; rintro e w' ⟨rfl, rfl⟩))
          go_ret2
          unfold PI
          rw [HP.out]
          exact ⟨HG.out, ⟨0, by omega, by omega, rfl⟩, by omega, _, HR.out⟩
      · have HA2 := Lib.hid (snoc_all (P := fun k => hexOk (nx C.S (i + k)) = true) HA.out (by rw [← HX.out]; exact hd))
        have hb2 := hexOk_yes hd
        have hi2 := nx_lt (S := C.S) (i := i + j) (by rw [← HX.out]; omega)
        have HS := Lib.hid (HR.out.step (j := i + j + 1) (by omega) (v := (i : Int) + (j : Int) + 1) (by omega))
        have HB2 := Lib.hid (show accH (nx C.S) i (j + 1) = b * 16 + hexI x by rw [accH, ← HB.out, ← HX.out])
        have HD := Lib.hid hd
        clear hd
        cases hd : digC x
        · have ha : 97 ≤ x ∧ x ≤ 102 := by have := HD.out; simpa [hexOk, hd] using this
          obtain ⟨ha, ha'⟩ := ha
          have HV := Lib.hid (show hexI x = x - 97 + 10 by unfold hexI; rw [hd]; simp)
          have D1 := Lib.hid hd
          clear hd
          go_wp2_with (first | (go_at_call 44; refine HN.out.mono ?_; rintro e w' ⟨rfl, rfl⟩) | (go_at_call 32; refine (isDigit_any x _).mono ?_; rintro e w' ⟨rfl, rfl⟩; rw [D1.out]))
          go_roundw
          case rel => exact ⟨j + 1, by omega, by go_num, by rw [HB2.out, HV.out]; go_num, HA2.out, HS.out.1, gtrans HG.out HS.out.2⟩
          case measure => simp [intOf]; omega
        · have ha := digC_yes hd
          have HV := Lib.hid (show hexI x = x - 48 by unfold hexI; rw [hd]; simp)
          have D1 := Lib.hid hd
          clear hd
          go_wp2_with (first | (go_at_call 44; refine HN.out.mono ?_; rintro e w' ⟨rfl, rfl⟩) | (go_at_call 32; refine (isDigit_any x _).mono ?_; rintro e w' ⟨rfl, rfl⟩; rw [D1.out]))
          go_roundw
          case rel => exact ⟨j + 1, by omega, by go_num, by rw [HB2.out, HV.out]; go_num, HA2.out, HS.out.1, gtrans HG.out HS.out.2⟩
          case measure => simp [intOf]; omega
    · obtain rfl : j = 2 := by omega
      have HP := Lib.hid (hexP_ok HA.out)
      clear hR b2
      go_wp2
      go_ret2
      unfold PI
      rw [HP.out]
      exact ⟨HG.out, by rw [← HB.out]; rfl, by rw [← HB.out]; exact b0, by rw [← HB.out]; exact b1, HR.out⟩
/-- The bytes that stand for themselves neither as an atom nor in a class. -/
def barL (cls : Bool) : List Int := if cls = true then [93, 92, 45, 94] else [124, 42, 43, 63, 123, 125, 40, 41, 91, 93, 46, 92, 47, 94, 36, 60, 62, 34]
def barS (cls : Bool) : ByteArray := if cls = true then ⟨#[93, 92, 45, 94]⟩ else ⟨#[124, 42, 43, 63, 123, 125, 40, 41, 91, 93, 46, 92, 47, 94, 36, 60, 62, 34]⟩
def oneP (N : Nat → Int) (cls : Bool) (i : Nat) : Rs Int :=
  if N i = 92 then escP N (i + 1) else if visC (N i) = true ∧ (barL cls).contains (N i) = false then .ok (N i) (i + 1) else .er 20 i
theorem bar_all : ∀ cls : Bool, ∀ n : Fin 127, decide (0 ≤ Lib.indexByte (barS cls).data.toList (n.val : Nat).toUInt8) = (barL cls).contains (n.val : Int) := by decide +kernel
theorem bar_is (cls : Bool) {x : Int} (h : visC x = true) : decide (0 ≤ Lib.indexByte (barS cls).data.toList x.toNat.toUInt8) = (barL cls).contains x := by
  have h' : 33 ≤ x ∧ x ≤ 126 := by simpa [visC] using h
  have := bar_all cls ⟨x.toNat, by omega⟩
  rwa [show (((⟨x.toNat, by omega⟩ : Fin 127).val : Nat) : Int) = x from Int.toNat_of_nonneg (by omega)] at this
set_option maxRecDepth 100000 in
theorem indexByteL_any (s : ByteArray) (c : Int) (w : World) : Calls Tryz.prog 139 #[.string s, .int .u8 c] w fun e w' => e = .returned (.int .i64 (Lib.indexByte s.data.toList c.toNat.toUInt8)) ∧ w = w' := by
  have h := @run_callFunc_extern Tryz.prog 144 _ Extern.BytealgIndexByte.indexByte Tryz.func144 (by kernel_rfl) (by kernel_rfl) (by kernel_rfl) (by kernel_rfl)
  have hr := fun w => Lib.run_indexByteString (P := Tryz.prog) s c w
  go_enter Tryz.func139, Tryz.ntmps139
  go_wp2
  go_ret
  exact ⟨rfl, rfl⟩
set_option maxRecDepth 100000 in
theorem indexByte_any (s : ByteArray) (c : Int) (w : World) : Calls Tryz.prog 128 #[.string s, .int .u8 c] w fun e w' => e = .returned (.int .i64 (Lib.indexByte s.data.toList c.toNat.toUInt8)) ∧ w = w' := by
  go_enter Tryz.func128, Tryz.ntmps128
  go_wp2_with (go_at_call 139; refine (indexByteL_any _ _ _).mono ?_; rintro e w' ⟨rfl, rfl⟩)
  go_ret
  exact ⟨rfl, rfl⟩
/-- The way of an error from here on. -/
theorem PI.from {w w1 : World} {p : Nat} {C : Cx} {deep cop : Nat} {r : Rs Int} {e : Ending} {w' : World} (h : PI w1 p C deep cop r e w') (hG : w.grownBy w1 (some p)) : PI w p C deep cop r e w' := ⟨gtrans hG h.1, h.2⟩
theorem PI.form {w : World} {p : Nat} {C : Cx} {deep cop : Nat} {r : Rs Int} {e : Ending} {w' : World} (h : PI w p C deep cop r e w') : ∃ x v, e = .returned (.tuple #[.int .i64 x, v]) := by
  cases r with
  | ok a i => exact ⟨_, _, h.2.1⟩
  | er c i => obtain ⟨x, _, _, hx⟩ := h.2.1; exact ⟨_, _, hx⟩
set_option maxRecDepth 100000 in
set_option maxHeartbeats 2000000 in
theorem escaped_any (w : World) (p : Nat) (C : Cx) (i deep cop : Nat) (h : Rd w p C i deep cop) : Calls Tryz.prog 126 #[rp p] w (PI w p C deep cop (escP (nx C.S) i)) := by
  have hz := h.sz
  have HR := Lib.hid h
  have HN := Lib.hid (next_any w p C i deep cop h)
  have HW := Lib.hid (wrong_any 20 w p C i deep cop h)
  obtain ⟨c0, c1, c2, c3, c4, c5⟩ := h.cells
  have hf := h.free 3
  have hle := h.le
  clear h
  obtain ⟨x, hx⟩ : ∃ x, x = nx C.S i := ⟨_, rfl⟩
  have hxb := nx_ge (S := C.S) (i := i)
  obtain ⟨R, hR⟩ : ∃ R, R = escP (nx C.S) i := ⟨_, rfl⟩
  rw [← hR]
  unfold escP at hR
  rw [← hx] at HN hxb hR
  have HX := Lib.hid hx
  have HE := Lib.hid hR
  clear hx hR
  by_cases g0 : 0 ≤ x
  · have hi2 := nx_lt (S := C.S) (i := i) (by rw [← HX.out]; omega)
    have HS := Lib.hid (HR.out.step (j := i + 1) (by omega) (v := (i : Int) + 1) (by omega))
    by_cases g1 : x = 120
    · have HP := Lib.hid (show R = hexP (nx C.S) (i + 1) by rw [HE.out, if_pos g1])
      subst g1
      go_enter Tryz.func126, Tryz.ntmps126
      go_wp2_with (first | (go_at_call 44; refine HN.out.mono ?_; rintro e w' ⟨rfl, rfl⟩))
      refine (hex_any _ p C (i + 1) deep cop HS.out.1).mono ?_
      intro e w1 h1
      have H1 := Lib.hid (h1.from HS.out.2)
      obtain ⟨y, v, rfl⟩ := h1.form
      clear h1
      go_wp2
      go_ret2
      rw [HP.out]; exact H1.out
    · by_cases g2 : x = 110
      · have HP := Lib.hid (show R = .ok 10 (i + 1) by rw [HE.out, if_neg g1, if_pos g2])
        subst g2
        go_enter Tryz.func126, Tryz.ntmps126
        go_wp2_with (first | (go_at_call 44; refine HN.out.mono ?_; rintro e w' ⟨rfl, rfl⟩))
        go_ret2
        rw [HP.out]; exact ⟨HS.out.2, rfl, by omega, by omega, HS.out.1⟩
      · by_cases g3 : x = 116
        · have HP := Lib.hid (show R = .ok 9 (i + 1) by rw [HE.out, if_neg g1, if_neg g2, if_pos g3])
          subst g3
          go_enter Tryz.func126, Tryz.ntmps126
          go_wp2_with (first | (go_at_call 44; refine HN.out.mono ?_; rintro e w' ⟨rfl, rfl⟩))
          go_ret2
          rw [HP.out]; exact ⟨HS.out.2, rfl, by omega, by omega, HS.out.1⟩
        · have e1 : (x == 120) = false := by simp [g1]
          have e2 : (x == 110) = false := by simp [g2]
          have e3 : (x == 116) = false := by simp [g3]
          cases k1 : visC x
          · have HP := Lib.hid (show R = .er 20 i by rw [HE.out, if_neg g1, if_neg g2, if_neg g3, if_neg (by simp [k1])])
            have K1 := Lib.hid k1
            clear k1
            go_enter Tryz.func126, Tryz.ntmps126
            go_wp2_with (first | (go_at_call 44; refine HN.out.mono ?_; rintro e w' ⟨rfl, rfl⟩) | (go_at_call 127; refine (isVisible_any x _).mono ?_; rintro e w' ⟨rfl, rfl⟩; rw [K1.out]) | (go_at_call 45; refine HW.out.mono ?_; rintro e w' ⟨rfl, rfl⟩))
            go_ret2
            rw [HP.out]; exact ⟨grown_refl _ _, ⟨0, by omega, by omega, rfl⟩, hle, _, HR.out⟩
          · cases k2 : letC x
            · cases k3 : digC x
              · have HP := Lib.hid (show R = .ok x (i + 1) by rw [HE.out, if_neg g1, if_neg g2, if_neg g3, if_pos ⟨k1, k2, k3⟩])
                have K1 := Lib.hid k1
                have K2 := Lib.hid k2
                have K3 := Lib.hid k3
                clear k1 k2 k3
                go_enter Tryz.func126, Tryz.ntmps126
                go_wp2_with (first | (go_at_call 44; refine HN.out.mono ?_; rintro e w' ⟨rfl, rfl⟩) | (go_at_call 127; refine (isVisible_any x _).mono ?_; rintro e w' ⟨rfl, rfl⟩; rw [K1.out]) | (go_at_call 33; refine (isLetter_any x _).mono ?_; rintro e w' ⟨rfl, rfl⟩; rw [K2.out]) | (go_at_call 32; refine (isDigit_any x _).mono ?_; rintro e w' ⟨rfl, rfl⟩; rw [K3.out]))
                go_ret2
                rw [HP.out]; exact ⟨HS.out.2, rfl, by omega, by omega, HS.out.1⟩
              · have HP := Lib.hid (show R = .er 20 i by rw [HE.out, if_neg g1, if_neg g2, if_neg g3, if_neg (by simp [k3])])
                have K1 := Lib.hid k1
                have K2 := Lib.hid k2
                have K3 := Lib.hid k3
                clear k1 k2 k3
                go_enter Tryz.func126, Tryz.ntmps126
                go_wp2_with (first | (go_at_call 44; refine HN.out.mono ?_; rintro e w' ⟨rfl, rfl⟩) | (go_at_call 127; refine (isVisible_any x _).mono ?_; rintro e w' ⟨rfl, rfl⟩; rw [K1.out]) | (go_at_call 33; refine (isLetter_any x _).mono ?_; rintro e w' ⟨rfl, rfl⟩; rw [K2.out]) | (go_at_call 32; refine (isDigit_any x _).mono ?_; rintro e w' ⟨rfl, rfl⟩; rw [K3.out]) | (go_at_call 45; refine HW.out.mono ?_; rintro e w' ⟨rfl, rfl⟩))
                go_ret2
                rw [HP.out]; exact ⟨grown_refl _ _, ⟨0, by omega, by omega, rfl⟩, hle, _, HR.out⟩
            · have HP := Lib.hid (show R = .er 20 i by rw [HE.out, if_neg g1, if_neg g2, if_neg g3, if_neg (by simp [k2])])
              have K1 := Lib.hid k1
              have K2 := Lib.hid k2
              clear k1 k2
              go_enter Tryz.func126, Tryz.ntmps126
              go_wp2_with (first | (go_at_call 44; refine HN.out.mono ?_; rintro e w' ⟨rfl, rfl⟩) | (go_at_call 127; refine (isVisible_any x _).mono ?_; rintro e w' ⟨rfl, rfl⟩; rw [K1.out]) | (go_at_call 33; refine (isLetter_any x _).mono ?_; rintro e w' ⟨rfl, rfl⟩; rw [K2.out]) | (go_at_call 45; refine HW.out.mono ?_; rintro e w' ⟨rfl, rfl⟩))
              go_ret2
              rw [HP.out]; exact ⟨grown_refl _ _, ⟨0, by omega, by omega, rfl⟩, hle, _, HR.out⟩
  · have K1 := Lib.hid (show visC x = false by simp [visC]; omega)
    have HP := Lib.hid (show R = .er 20 i by rw [HE.out, if_neg (by omega), if_neg (by omega), if_neg (by omega), if_neg (by rw [K1.out]; simp)])
    go_enter Tryz.func126, Tryz.ntmps126
    go_wp2_with (first | (go_at_call 44; refine HN.out.mono ?_; rintro e w' ⟨rfl, rfl⟩) | (go_at_call 127; refine (isVisible_any x _).mono ?_; rintro e w' ⟨rfl, rfl⟩; rw [K1.out]) | (go_at_call 45; refine HW.out.mono ?_; rintro e w' ⟨rfl, rfl⟩))
    go_ret2
    rw [HP.out]; exact ⟨grown_refl _ _, ⟨0, by omega, by omega, rfl⟩, hle, _, HR.out⟩
set_option maxRecDepth 100000 in
set_option maxHeartbeats 2000000 in
theorem single_any (cls : Bool) (B : ByteArray) (hB : barS cls = B) (w : World) (p : Nat) (C : Cx) (i deep cop : Nat) (h : Rd w p C i deep cop) : Calls Tryz.prog 112 #[rp p, .string B] w (PI w p C deep cop (oneP (nx C.S) cls i)) := by
  have HB := Lib.hid hB
  have hz := h.sz
  have HR := Lib.hid h
  have HN := Lib.hid (next_any w p C i deep cop h)
  have HW := Lib.hid (wrong_any 20 w p C i deep cop h)
  obtain ⟨c0, c1, c2, c3, c4, c5⟩ := h.cells
  have hf := h.free 3
  have hle := h.le
  clear h hB
  obtain ⟨x, hx⟩ : ∃ x, x = nx C.S i := ⟨_, rfl⟩
  have hxb := nx_ge (S := C.S) (i := i)
  obtain ⟨R, hR⟩ : ∃ R, R = oneP (nx C.S) cls i := ⟨_, rfl⟩
  rw [← hR]
  unfold oneP at hR
  rw [← hx] at HN hxb hR
  have HX := Lib.hid hx
  have HE := Lib.hid hR
  clear hx hR
  by_cases g1 : x = 92
  · have hi2 := nx_lt (S := C.S) (i := i) (by rw [← HX.out]; omega)
    have HS := Lib.hid (HR.out.step (j := i + 1) (by omega) (v := (i : Int) + 1) (by omega))
    have HP := Lib.hid (show R = escP (nx C.S) (i + 1) by rw [HE.out, if_pos g1])
    subst g1
    go_enter Tryz.func112, Tryz.ntmps112
    go_wp2_with (first | (go_at_call 44; refine HN.out.mono ?_; rintro e w' ⟨rfl, rfl⟩))
    refine (escaped_any _ p C (i + 1) deep cop HS.out.1).mono ?_
    intro e w1 h1
    have H1 := Lib.hid (h1.from HS.out.2)
    obtain ⟨y, v, rfl⟩ := h1.form
    clear h1
    go_wp2
    go_ret2
    rw [HP.out]; exact H1.out
  · have e1 : (x == 92) = false := by simp [g1]
    cases k1 : visC x
    · have HP := Lib.hid (show R = .er 20 i by rw [HE.out, if_neg g1, if_neg (by simp [k1])])
      have K1 := Lib.hid k1
      clear k1
      go_enter Tryz.func112, Tryz.ntmps112
      go_wp2_with (first | (go_at_call 44; refine HN.out.mono ?_; rintro e w' ⟨rfl, rfl⟩) | (go_at_call 127; refine (isVisible_any x _).mono ?_; rintro e w' ⟨rfl, rfl⟩; rw [K1.out]) | (go_at_call 45; refine HW.out.mono ?_; rintro e w' ⟨rfl, rfl⟩))
      go_ret2
      rw [HP.out]; exact ⟨grown_refl _ _, ⟨0, by omega, by omega, rfl⟩, hle, _, HR.out⟩
    · have hv : 33 ≤ x ∧ x ≤ 126 := by simpa [visC] using k1
      have hi2 := nx_lt (S := C.S) (i := i) (by rw [← HX.out]; omega)
      have HS := Lib.hid (HR.out.step (j := i + 1) (by omega) (v := (i : Int) + 1) (by omega))
      have hbar := bar_is cls k1
      obtain ⟨y, hy⟩ : ∃ y, y = Lib.indexByte B.data.toList x.toNat.toUInt8 := ⟨_, rfl⟩
      rw [HB.out, ← hy] at hbar
      have HI := Lib.hid (indexByte_any B x)
      rw [← hy] at HI
      have K1 := Lib.hid k1
      clear hy
      cases k2 : (barL cls).contains x
      · have HP := Lib.hid (show R = .ok x (i + 1) by rw [HE.out, if_neg g1, if_pos ⟨k1, k2⟩])
        have hy : ¬ 0 ≤ y := by rw [k2] at hbar; simpa using hbar
        clear k1 k2 hbar
        go_enter Tryz.func112, Tryz.ntmps112
        go_wp2_with (first | (go_at_call 44; refine HN.out.mono ?_; rintro e w' ⟨rfl, rfl⟩) | (go_at_call 127; refine (isVisible_any x _).mono ?_; rintro e w' ⟨rfl, rfl⟩; rw [K1.out]) | (go_at_call 128; refine (HI.out _).mono ?_; rintro e w' ⟨rfl, rfl⟩))
        go_ret2
        rw [HP.out]; exact ⟨HS.out.2, rfl, by omega, by omega, HS.out.1⟩
      · have HP := Lib.hid (show R = .er 20 i by rw [HE.out, if_neg g1, if_neg (by rw [k2]; simp)])
        have hy : 0 ≤ y := by rw [k2] at hbar; simpa using hbar
        clear k1 k2 hbar
        go_enter Tryz.func112, Tryz.ntmps112
        go_wp2_with (first | (go_at_call 44; refine HN.out.mono ?_; rintro e w' ⟨rfl, rfl⟩) | (go_at_call 127; refine (isVisible_any x _).mono ?_; rintro e w' ⟨rfl, rfl⟩; rw [K1.out]) | (go_at_call 128; refine (HI.out _).mono ?_; rintro e w' ⟨rfl, rfl⟩) | (go_at_call 45; refine HW.out.mono ?_; rintro e w' ⟨rfl, rfl⟩))
        go_ret2
        rw [HP.out]; exact ⟨grown_refl _ _, ⟨0, by omega, by omega, rfl⟩, hle, _, HR.out⟩
end Go.Proofs.YtnloepanbjgbaaaGreatDoor
