/- Contracts of the document's own Digits, Plain, char and bytes of layer 3. -/
import Derived.Test.YtadiphijfbpcnaaDoorM
namespace Go.Proofs.YtadiphijfbpcnaaDoor
open Go.RowKit
abbrev strV (l : List UInt8) : Value := .string ⟨l.toArray⟩
theorem own1 (w : World) (b : UInt8) : (w.alloc (.cells #[.int .u8 b.toNat] 5)).ownsRow w.heap.size 5 1 (.slice (some ⟨w.heap.size, 0, none⟩) 1 1) 1 (bc [b]) :=
  ⟨rfl, Or.inr ⟨w.heap.size, 1, _, rfl, Nat.le_refl _, heap_alloc_new _ _, Nat.le_refl _, by unfold maxLen; omega, rfl, rfl⟩⟩
theorem conv1 (w : World) (b : UInt8) (x : Int) (hx : x = b.toNat) : (convert 31 9 (.slice (some ⟨w.heap.size, 0, none⟩) 1 1)).run Tryd.prog (w.alloc (.cells #[.int .u8 x] 5)) = .ok (strV [b]) (w.alloc (.cells #[.int .u8 x] 5)) := by
  subst hx; exact conv_any (l := [b]) (own1 w b)
theorem str_add (x y : List UInt8) (h : x.length + y.length ≤ 2000000000) (w : World) : (Op.stringOp .add ⟨x.toArray⟩ ⟨y.toArray⟩).run Tryd.prog w = .ok (strV (x ++ y)) w := by
  rw [run_string_add_sum w _ _ (by simp [ByteArray.size]; omega), ByteArray.mk_append_mk]
set_option maxRecDepth 100000 in
set_option maxHeartbeats 4000000 in
theorem digits1 (n : Nat) (h : n < 10) (w : World) : Calls Tryd.prog 45 #[.int .i64 n] w fun e w' => e = .returned (strV (digs n)) ∧ Below w.heap.size w w' := by
  have hd : n = 0 ∨ n = 1 ∨ n = 2 ∨ n = 3 ∨ n = 4 ∨ n = 5 ∨ n = 6 ∨ n = 7 ∨ n = 8 ∨ n = 9 := by omega
  rcases hd with rfl | rfl | rfl | rfl | rfl | rfl | rfl | rfl | rfl | rfl
  · have hc := fun w => conv1 w 48 48 rfl
    go_enter Tryd.func45, Tryd.ntmps45
    go_wp2
    go_ret
    exact ⟨rfl, alloc_below _ _⟩
  · have hc := fun w => conv1 w 49 49 rfl
    go_enter Tryd.func45, Tryd.ntmps45
    go_wp2
    go_ret
    exact ⟨rfl, alloc_below _ _⟩
  · have hc := fun w => conv1 w 50 50 rfl
    go_enter Tryd.func45, Tryd.ntmps45
    go_wp2
    go_ret
    exact ⟨rfl, alloc_below _ _⟩
  · have hc := fun w => conv1 w 51 51 rfl
    go_enter Tryd.func45, Tryd.ntmps45
    go_wp2
    go_ret
    exact ⟨rfl, alloc_below _ _⟩
  · have hc := fun w => conv1 w 52 52 rfl
    go_enter Tryd.func45, Tryd.ntmps45
    go_wp2
    go_ret
    exact ⟨rfl, alloc_below _ _⟩
  · have hc := fun w => conv1 w 53 53 rfl
    go_enter Tryd.func45, Tryd.ntmps45
    go_wp2
    go_ret
    exact ⟨rfl, alloc_below _ _⟩
  · have hc := fun w => conv1 w 54 54 rfl
    go_enter Tryd.func45, Tryd.ntmps45
    go_wp2
    go_ret
    exact ⟨rfl, alloc_below _ _⟩
  · have hc := fun w => conv1 w 55 55 rfl
    go_enter Tryd.func45, Tryd.ntmps45
    go_wp2
    go_ret
    exact ⟨rfl, alloc_below _ _⟩
  · have hc := fun w => conv1 w 56 56 rfl
    go_enter Tryd.func45, Tryd.ntmps45
    go_wp2
    go_ret
    exact ⟨rfl, alloc_below _ _⟩
  · have hc := fun w => conv1 w 57 57 rfl
    go_enter Tryd.func45, Tryd.ntmps45
    go_wp2
    go_ret
    exact ⟨rfl, alloc_below _ _⟩
set_option maxRecDepth 100000 in
set_option maxHeartbeats 4000000 in
theorem digits2 (n : Nat) (h : 10 ≤ n) (h' : n ≤ 20) (w : World) : Calls Tryd.prog 45 #[.int .i64 n] w fun e w' => e = .returned (strV (digs n)) ∧ Below w.heap.size w w' := by
  have hd : n = 10 ∨ n = 11 ∨ n = 12 ∨ n = 13 ∨ n = 14 ∨ n = 15 ∨ n = 16 ∨ n = 17 ∨ n = 18 ∨ n = 19 ∨ n = 20 := by omega
  rcases hd with rfl | rfl | rfl | rfl | rfl | rfl | rfl | rfl | rfl | rfl | rfl
  · have hc := fun w => conv1 w 48 48 rfl
    have ha := fun w => str_add [49] [48] (by decide) w
    go_enter Tryd.func45, Tryd.ntmps45
    go_wp2_with fail
    refine (digits1 1 (by omega) _).mono ?_
    rintro e w1 ⟨rfl, hb1⟩
    have HB1 := Lib.hid (box_below hb1)
    clear hb1
    go_wp2
    go_ret
    exact ⟨by first | rfl | (simp [digs, digsL]; done), HB1.out⟩
  · have hc := fun w => conv1 w 49 49 rfl
    have ha := fun w => str_add [49] [49] (by decide) w
    go_enter Tryd.func45, Tryd.ntmps45
    go_wp2_with fail
    refine (digits1 1 (by omega) _).mono ?_
    rintro e w1 ⟨rfl, hb1⟩
    have HB1 := Lib.hid (box_below hb1)
    clear hb1
    go_wp2
    go_ret
    exact ⟨by first | rfl | (simp [digs, digsL]; done), HB1.out⟩
  · have hc := fun w => conv1 w 50 50 rfl
    have ha := fun w => str_add [49] [50] (by decide) w
    go_enter Tryd.func45, Tryd.ntmps45
    go_wp2_with fail
    refine (digits1 1 (by omega) _).mono ?_
    rintro e w1 ⟨rfl, hb1⟩
    have HB1 := Lib.hid (box_below hb1)
    clear hb1
    go_wp2
    go_ret
    exact ⟨by first | rfl | (simp [digs, digsL]; done), HB1.out⟩
  · have hc := fun w => conv1 w 51 51 rfl
    have ha := fun w => str_add [49] [51] (by decide) w
    go_enter Tryd.func45, Tryd.ntmps45
    go_wp2_with fail
    refine (digits1 1 (by omega) _).mono ?_
    rintro e w1 ⟨rfl, hb1⟩
    have HB1 := Lib.hid (box_below hb1)
    clear hb1
    go_wp2
    go_ret
    exact ⟨by first | rfl | (simp [digs, digsL]; done), HB1.out⟩
  · have hc := fun w => conv1 w 52 52 rfl
    have ha := fun w => str_add [49] [52] (by decide) w
    go_enter Tryd.func45, Tryd.ntmps45
    go_wp2_with fail
    refine (digits1 1 (by omega) _).mono ?_
    rintro e w1 ⟨rfl, hb1⟩
    have HB1 := Lib.hid (box_below hb1)
    clear hb1
    go_wp2
    go_ret
    exact ⟨by first | rfl | (simp [digs, digsL]; done), HB1.out⟩
  · have hc := fun w => conv1 w 53 53 rfl
    have ha := fun w => str_add [49] [53] (by decide) w
    go_enter Tryd.func45, Tryd.ntmps45
    go_wp2_with fail
    refine (digits1 1 (by omega) _).mono ?_
    rintro e w1 ⟨rfl, hb1⟩
    have HB1 := Lib.hid (box_below hb1)
    clear hb1
    go_wp2
    go_ret
    exact ⟨by first | rfl | (simp [digs, digsL]; done), HB1.out⟩
  · have hc := fun w => conv1 w 54 54 rfl
    have ha := fun w => str_add [49] [54] (by decide) w
    go_enter Tryd.func45, Tryd.ntmps45
    go_wp2_with fail
    refine (digits1 1 (by omega) _).mono ?_
    rintro e w1 ⟨rfl, hb1⟩
    have HB1 := Lib.hid (box_below hb1)
    clear hb1
    go_wp2
    go_ret
    exact ⟨by first | rfl | (simp [digs, digsL]; done), HB1.out⟩
  · have hc := fun w => conv1 w 55 55 rfl
    have ha := fun w => str_add [49] [55] (by decide) w
    go_enter Tryd.func45, Tryd.ntmps45
    go_wp2_with fail
    refine (digits1 1 (by omega) _).mono ?_
    rintro e w1 ⟨rfl, hb1⟩
    have HB1 := Lib.hid (box_below hb1)
    clear hb1
    go_wp2
    go_ret
    exact ⟨by first | rfl | (simp [digs, digsL]; done), HB1.out⟩
  · have hc := fun w => conv1 w 56 56 rfl
    have ha := fun w => str_add [49] [56] (by decide) w
    go_enter Tryd.func45, Tryd.ntmps45
    go_wp2_with fail
    refine (digits1 1 (by omega) _).mono ?_
    rintro e w1 ⟨rfl, hb1⟩
    have HB1 := Lib.hid (box_below hb1)
    clear hb1
    go_wp2
    go_ret
    exact ⟨by first | rfl | (simp [digs, digsL]; done), HB1.out⟩
  · have hc := fun w => conv1 w 57 57 rfl
    have ha := fun w => str_add [49] [57] (by decide) w
    go_enter Tryd.func45, Tryd.ntmps45
    go_wp2_with fail
    refine (digits1 1 (by omega) _).mono ?_
    rintro e w1 ⟨rfl, hb1⟩
    have HB1 := Lib.hid (box_below hb1)
    clear hb1
    go_wp2
    go_ret
    exact ⟨by first | rfl | (simp [digs, digsL]; done), HB1.out⟩
  · have hc := fun w => conv1 w 48 48 rfl
    have ha := fun w => str_add [50] [48] (by decide) w
    go_enter Tryd.func45, Tryd.ntmps45
    go_wp2_with fail
    refine (digits1 2 (by omega) _).mono ?_
    rintro e w1 ⟨rfl, hb1⟩
    have HB1 := Lib.hid (box_below hb1)
    clear hb1
    go_wp2
    go_ret
    exact ⟨by first | rfl | (simp [digs, digsL]; done), HB1.out⟩
end Go.Proofs.YtadiphijfbpcnaaDoor
