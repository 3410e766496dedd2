/- Contract of the document's own Split of layer 2. -/
import Derived.Test.YtjjnpobppmmgbaaE
namespace Go.Proofs.Ytjjnpobppmmgbaa
open Go.RowKit
/-- The classes of the first n bytes. -/
def listC (R : Nat → Nat → Bool) (n : Nat) : List Int := (List.range n).map fun i => (clsR R i : Int)
theorem listC_length (R : Nat → Nat → Bool) (n : Nat) : (listC R n).length = n := by simp [listC]
theorem listC_succ (R : Nat → Nat → Bool) (n : Nat) : listC R (n + 1) = listC R n ++ [(clsR R n : Int)] := by simp [listC, List.range_succ]
theorem listC_get {R : Nat → Nat → Bool} {n i : Nat} (h : i < n) : ((listC R n).map (Value.int .i64))[i]? = some (.int .i64 (clsR R i)) := by simp [listC, h]
/-- What the document's Split leaves. -/
def GivesRefSplit (w : World) (R : Nat → Nat → Bool) (e : Ending) (w' : World) : Prop :=
  ∃ v, e = .returned (.tuple #[v, .int .i64 (cntR R 256)]) ∧ w'.ownsRow w.heap.size 3 1 v 256 ((listC R 256).map (Value.int .i64)) ∧ Below w.heap.size w w'
/-- How far the search among the bytes ahead has come. -/
def Sought (R : Nat → Nat → Bool) (j i : Nat) (k : Int) : Prop := (k = -1 ∧ ∀ c, c < i → R c j = false) ∨ (∃ c, c < j ∧ R c j = true ∧ k = (clsR R c : Int))
theorem sought_end {R : Nat → Nat → Bool} {j : Nat} (h : Sought R j j (-1)) : clsR R j = cntR R j ∧ cntR R (j + 1) = cntR R j + 1 := by
  rcases h with ⟨_, h⟩ | ⟨c, _, _, h⟩
  · exact cls_fresh h
  · omega
theorem sought_found {R : Nat → Nat → Bool} (E : Eqv R) {j i : Nat} {k : Int} (hk : 0 ≤ k) (h : Sought R j i k) : (clsR R j : Int) = k ∧ cntR R (j + 1) = cntR R j := by
  rcases h with ⟨h, _⟩ | ⟨c, h1, h2, h3⟩
  · omega
  · obtain ⟨o1, o2⟩ := cls_old E h1 h2
    exact ⟨by rw [o1, h3], o2⟩
/-- The inner loop's relation. -/
def SoughtRel (R : Nat → Nat → Bool) (j : Nat) (wo : World) (k a : Value) (wx : World) : Prop :=
  ∃ (i : Nat) (q : Int), i ≤ j ∧ a = .int .i64 i ∧ k = .int .i64 q ∧ (-1 ≤ q ∧ q ≤ 256) ∧ Sought R j i q ∧ Below wo.heap.size wo wx
set_option maxRecDepth 100000 in
set_option maxHeartbeats 4000000 in
theorem refsplit_any (fs : List (Nat → Int)) (v : Value) (w : World) (hf : SetsAt w v fs) : Calls Try.prog 18 #[v] w (GivesRefSplit w (alike fs)) := by
  obtain ⟨i0, hi, hz0, hz1, hz2⟩ := info_parts info3
  have E := eqv_alike fs
  have hcall : ∀ (a b : Nat) (wx : World), Below w.heap.size w wx → Calls Try.prog 22 #[v, .int .i64 a, .int .i64 b] wx fun e w' => e = .returned (.bool (alike fs a b)) ∧ Below wx.heap.size wx w' := fun a b wx hb => same_any fs v a b wx (hf.below hb)
  have HCALL := Lib.hid hcall
  clear hcall hf
  generalize alike fs = R at *
  go_enter Try.func18, Try.ntmps18
  go_wp2
  go_loopw [4, 5, 6] (fun out n b wr => ∃ j : Nat, j ≤ 256 ∧ b = .int .i64 j ∧ n = .int .i64 (cntR R j) ∧ wr.ownsRow w.heap.size 3 1 out j ((listC R j).map (Value.int .i64)) ∧ Below w.heap.size w wr) (fun _ _ b _ => 256 - (intOf b).toNat)
  case atStart => exact ⟨0, by omega, rfl, rfl, World.ownsRow_nil _ _ _ _, Below.refl _ _⟩
  case round =>
    obtain ⟨j, hj, rfl, rfl, hown, hb⟩ := hrel
    have hcl := cnt_le R j
    by_cases hlt : j < 256
    · by_cases hj0 : 0 < j
      · obtain ⟨g, cap, rfl, hg0, hgl, hcap, hcm, hcell⟩ := row_cells hown hj0
        have HCELL := Lib.hid hcell
        clear hcell
        obtain ⟨wo, ho⟩ : ∃ x, x = wr := ⟨wr, rfl⟩
        subst ho
        go_wp2
        go_loopw [7, 8] (fun k a wx => SoughtRel R j wo k a wx) (fun k a _ => (if intOf k < 0 then 1 else 0) + (j - (intOf a).toNat))
        case atStart => exact ⟨0, -1, by omega, rfl, rfl, by omega, Or.inl ⟨rfl, fun c hc => by omega⟩, Below.refl _ _⟩
        case round =>
          obtain ⟨i, q, hij, rfl, rfl, hq, hS, hbx⟩ := hrel
          have HS := Lib.hid hS
          have hsx := hbx.size
          have hownx := ownsRow_below hown hbx
          have hBx : Below w.heap.size w wr := hb.trans (hbx.mono hb.size)
          clear hS
          by_cases hq0 : q < 0
          · obtain rfl : q = -1 := by omega
            by_cases hlt2 : i < j
            · go_wp2_with fail
              refine (HCALL.out i j _ hBx).mono ?_
              rintro e w1 ⟨rfl, hb1⟩
              have hbx1 : Below wo.heap.size wo w1 := hbx.trans (hb1.mono hbx.size)
              cases hR : R i j
              · go_wp2
                go_roundw
                case rel =>
                  refine ⟨i + 1, -1, by omega, by go_num, rfl, by omega, Or.inl ⟨rfl, fun c hc => ?_⟩, hbx1⟩
                  rcases HS.out with ⟨_, h⟩ | ⟨c', _, _, h⟩
                  · rcases Nat.lt_or_ge c i with h1 | h1
                    · exact h c h1
                    · have : c = i := by omega
                      subst this; exact hR
                  · omega
                case measure => simp [intOf]; omega
              · have HR := Lib.hid hR
                have cc : w1.cell? ⟨g, i, none⟩ = some (.int .i64 (clsR R i)) := (hbx1.cell (p := ⟨g, i, none⟩) hgl).trans (HCELL.out i _ (listC_get hlt2))
                have hcle := cls_le (R := R) i
                clear hR
                go_wp2
                go_roundw
                case rel => exact ⟨i + 1, clsR R i, by omega, by go_num, rfl, by omega, Or.inr ⟨i, hlt2, HR.out, rfl⟩, hbx1⟩
                case measure => simp [intOf]; omega
            · obtain rfl : i = j := by omega
              have HE := Lib.hid (sought_end HS.out)
              go_wp2_with (first | (at_builtin; refine wpList_append_own _ rfl _ _ 28 rfl w.heap.size 3 i0 (.int .i64 0) 1 8 Try.underlying28 hi hz0 hz1 hz2 rfl (by decide) _ _ _ rfl (hownx.alloc _) ⟨wr.heap.size, 0, none⟩ 1 1 [.int .i64 (cntR R i)] rfl rfl ?a1 ?a2 ?a3 ?a4 ?a5 ?_))
              case a1 => exact cell_one_new _ _ _
              case a2 => intro u hu; simp at hu; subst hu; rfl
              case a3 => unfold maxLen; omega
              case a4 => omega
              case a5 => simp; have := hb.size; omega
              · intro v' w2 hown2 hgrow _
                have hB2 : Below w.heap.size w w2 := (hBx.alloc (by have := hb.size; omega) _).grown hgrow (by simp; have := hb.size; omega) (fun k hk => own_ge hownx k hk)
                clear hgrow
                go_wp2
                go_roundw
                case rel => exact ⟨i + 1, by omega, by go_num, by rw [HE.out.2]; go_num, by rw [listC_succ, HE.out.1]; simpa using hown2, hB2⟩
                case measure => simp [intOf]; omega
          · have HE := Lib.hid (sought_found E (by omega) HS.out)
            by_cases hlt2 : i < j
            all_goals
              go_wp2_with (at_builtin; refine wpList_append_own _ rfl _ _ 28 rfl w.heap.size 3 i0 (.int .i64 0) 1 8 Try.underlying28 hi hz0 hz1 hz2 rfl (by decide) _ _ _ rfl (hownx.alloc _) ⟨wr.heap.size, 0, none⟩ 1 1 [.int .i64 q] rfl rfl (cell_one_new _ _ _) (ints_oneCell .i64 [q]) (by unfold maxLen; omega) (by omega) (by have := hb.size; simp; omega) ?_; intro v' w2 hown2 hgrow hnil)
              have hB2 : Below w.heap.size w w2 := (hBx.alloc (by have := hb.size; omega) _).grown hgrow (by simp; have := hb.size; omega) (fun k hk => own_ge hownx k hk)
              clear hgrow
              go_roundw
              case rel => exact ⟨j + 1, by omega, by go_num, by rw [HE.out.2], by rw [listC_succ, HE.out.1]; simpa using hown2, hB2⟩
              case measure => simp [intOf]; omega
      · obtain rfl : j = 0 := by omega
        have HE := Lib.hid (cls_fresh (R := R) (b := 0) fun a ha => by omega)
        go_wp2
        refine wp_loop_rounds 1 ?_
        rw [rounds_succ]
        go_wp2_with (first | (at_builtin; refine wpList_append_own _ rfl _ _ 28 rfl w.heap.size 3 i0 (.int .i64 0) 1 8 Try.underlying28 hi hz0 hz1 hz2 rfl (by decide) _ _ _ rfl (hown.alloc _) ⟨wr.heap.size, 0, none⟩ 1 1 [.int .i64 0] rfl rfl ?c1 ?c2 ?c3 ?c4 ?c5 ?_))
        case c1 => exact cell_one_new _ _ _
        case c2 => intro u hu; simp at hu; subst hu; rfl
        case c3 => unfold maxLen; omega
        case c4 => omega
        case c5 => simp; have := hb.size; omega
        · intro v' w2 hown2 hgrow _
          have hB2 : Below w.heap.size w w2 := (hb.alloc (by have := hb.size; omega) _).grown hgrow (by simp; have := hb.size; omega) (fun k hk => own_ge hown k hk)
          clear hgrow
          go_wp2
          go_roundw
          case rel => exact ⟨0 + 1, by omega, by go_num, by rw [HE.out.2]; rfl, by rw [listC_succ, HE.out.1]; simpa [cntR] using hown2, hB2⟩
          case measure => simp [intOf]
    · obtain rfl : j = 256 := by omega
      go_wp2
      go_ret2
      exact ⟨_, rfl, hown, hb⟩
end Go.Proofs.Ytjjnpobppmmgbaa
