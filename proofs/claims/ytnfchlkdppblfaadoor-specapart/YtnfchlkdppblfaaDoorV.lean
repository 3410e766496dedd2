/- Contracts of strconv.AppendInt at numbers up to 20, and of the landed code's writeCounts. -/
import Derived.Test.YtnfchlkdppblfaaDoorW
namespace Go.Proofs.YtnfchlkdppblfaaDoor
open Go.RowKit
def digsL : List (List UInt8) := [[48], [49], [50], [51], [52], [53], [54], [55], [56], [57], [49, 48], [49, 49], [49, 50], [49, 51], [49, 52], [49, 53], [49, 54], [49, 55], [49, 56], [49, 57], [50, 48]]
/-- A number's digits (up to 20). -/
def digs (i : Nat) : List UInt8 := digsL.getD i []
set_option maxRecDepth 100000 in
theorem nat20 {i : Nat} (h : i ≤ 20) : i = 0 ∨ i = 1 ∨ i = 2 ∨ i = 3 ∨ i = 4 ∨ i = 5 ∨ i = 6 ∨ i = 7 ∨ i = 8 ∨ i = 9 ∨ i = 10 ∨ i = 11 ∨ i = 12 ∨ i = 13 ∨ i = 14 ∨ i = 15 ∨ i = 16 ∨ i = 17 ∨ i = 18 ∨ i = 19 ∨ i = 20 := by omega
set_option maxRecDepth 100000 in
set_option maxHeartbeats 4000000 in
theorem small_any (i : Nat) (h : i ≤ 20) (w : World) : Calls Tryd.prog 103 #[.int .i64 i] w fun e w' => e = .returned (.string ⟨(digs i).toArray⟩) ∧ w' = w := by
  rcases nat20 h with rfl | rfl | rfl | rfl | rfl | rfl | rfl | rfl | rfl | rfl | rfl | rfl | rfl | rfl | rfl | rfl | rfl | rfl | rfl | rfl | rfl
  all_goals
    go_enter Tryd.func103, Tryd.ntmps103
    go_wp2
    go_ret
    exact ⟨rfl, rfl⟩
set_option maxRecDepth 100000 in
theorem digs_len {i : Nat} (h : i ≤ 20) : (digs i).length ≤ 2 := by
  have : ∀ m : Fin 21, (digs m.val).length ≤ 2 := by decide +kernel
  exact this ⟨i, by omega⟩
set_option maxRecDepth 100000 in
set_option maxHeartbeats 1000000 in
theorem appendUint_any (B i : Nat) (h : i ≤ 20) (l : List UInt8) (v : Value) (w : World) (hown : w.ownsRow B 5 1 v l.length (bc l)) (hB : B ≤ w.heap.size) (hl : l.length ≤ 1000000000) :
    Calls Tryd.prog 101 #[v, .int .u64 i, .int .i64 10] w (Wr B v w l (digs i)) := by
  have hi1 : (i : Int) < 100 := by omega
  have hw : IntKind.i64.wrap (i : Int) = (i : Int) := by rw [IntKind.wrap_i64]; omega
  have HL := Lib.hid (show l.length + (digs i).length ≤ 2000000000 by have := digs_len h; omega)
  clear hl
  go_enter Tryd.func101, Tryd.ntmps101
  go_wp2_with (first
    | (go_at_call 103; refine (small_any i h _).mono ?_; rintro e w1 ⟨rfl, rfl⟩)
    | (at_builtin; refine put_text rfl _ _ rfl B _ l (digs i) rfl hown rfl HL.out hB ?_; intro v1 w1 k1 k2 k3))
  go_ret
  exact ⟨_, rfl, k1, k2, k3⟩
set_option maxRecDepth 100000 in
set_option maxHeartbeats 1000000 in
theorem appendInt1_any (B i : Nat) (h : i ≤ 20) (l : List UInt8) (v : Value) (w : World) (hown : w.ownsRow B 5 1 v l.length (bc l)) (hB : B ≤ w.heap.size) (hl : l.length ≤ 1000000000) :
    Calls Tryd.prog 96 #[v, .int .i64 i, .int .i64 10] w (Wr B v w l (digs i)) := by
  have hi1 : ¬ (i : Int) < 0 := by omega
  have hw : IntKind.u64.wrap (i : Int) = (i : Int) := by rw [IntKind.wrap_u64]; omega
  go_enter Tryd.func96, Tryd.ntmps96
  go_wp2_with fail
  refine (appendUint_any B i h l v w hown hB hl).mono ?_
  rintro e w1 ⟨v1, rfl, k1, k2, k3⟩
  go_wp2
  go_ret
  exact ⟨_, rfl, k1, k2, k3⟩
set_option maxRecDepth 100000 in
set_option maxHeartbeats 1000000 in
theorem appendInt_any (B i : Nat) (h : i ≤ 20) (l : List UInt8) (v : Value) (w : World) (hown : w.ownsRow B 5 1 v l.length (bc l)) (hB : B ≤ w.heap.size) (hl : l.length ≤ 1000000000) :
    Calls Tryd.prog 82 #[v, .int .i64 i, .int .i64 10] w (Wr B v w l (digs i)) := by
  go_enter Tryd.func82, Tryd.ntmps82
  go_wp2_with fail
  refine (appendInt1_any B i h l v w hown hB hl).mono ?_
  rintro e w1 ⟨v1, rfl, k1, k2, k3⟩
  go_wp2
  go_ret
  exact ⟨_, rfl, k1, k2, k3⟩
/-- The text of the counts. -/
def countsT (lo hi : Int) : List UInt8 := [123] ++ digs lo.toNat ++ [44] ++ (if hi = -1 then [] else digs hi.toNat) ++ [125]
set_option maxRecDepth 100000 in
theorem kept8 {w w' : World} {g e : Nat} {k : Int} {s : Nat → Int} {lo hi : Int} {v : Value} (he : e ≠ 5) (h : w.heap[g]? = some (.cells (row8 k s lo hi v) e (0, 0))) (h3 : Lib.OthersKept 5 none w w') : w'.heap[g]? = some (.cells (row8 k s lo hi v) e (0, 0)) :=
  h3 g _ h (by simp) (fun c fz q => by injection q with _ q _; exact he q)
set_option maxRecDepth 100000 in
theorem digs_len' {i : Nat} (h : i ≤ 20) (l : List UInt8) (hl : l.length ≤ 900000000) : (l ++ digs i).length ≤ 900000002 := by rw [List.length_append]; have := digs_len h; omega
set_option maxRecDepth 100000 in
theorem new1' (w : World) (b : UInt8) (x : Int) (p : Nat) (hx : x = b.toNat) (hp : p = w.heap.size) : ∀ j u, (bc [b])[j]? = some u → (w.alloc (.cells #[.int .u8 x] 5)).cell? ((⟨p, 0, none⟩ : Addr).add j) = some u := by
  subst hx hp; exact new1 w b
set_option maxRecDepth 100000 in
/-- A row of bytes stays where other calls make memory. -/
theorem wr_trans {B : Nat} {v v1 v2 : Value} {w w1 w2 : World} (h2 : Below B w w1) (h3 : Ok3 v w w1 v1) (k2 : Below B w1 w2) (k3 : Ok3 v1 w1 w2 v2) : Below B w w2 ∧ Ok3 v w w2 v2 := ⟨h2.trans k2, h3.trans k3⟩
set_option maxRecDepth 100000 in
theorem al_trans {B : Nat} {v v2 : Value} {w w2 : World} {o : Obj} (hB : B ≤ w.heap.size) (k2 : Below B (w.alloc o) w2) (k3 : Ok3 v (w.alloc o) w2 v2) : Below B w w2 ∧ Ok3 v w w2 v2 := ⟨((Below.refl B w).alloc hB _).trans k2, ((Ok3.refl v w).alloc _).trans k3⟩
set_option maxRecDepth 100000 in
set_option maxHeartbeats 1000000 in
theorem counts_both (B : Nat) (k : Int) (s : Nat → Int) (lo hi : Nat) (hlo : lo ≤ 20) (hhi : hi ≤ 20) (l : List UInt8) (v vk : Value) (w : World) (hown : w.ownsRow B 5 1 v l.length (bc l)) (hB : B ≤ w.heap.size) (hl : l.length ≤ 900000000) :
    Calls Tryd.prog 63 #[nodeV k s lo hi vk, v] w (Wr B v w l ([123] ++ digs lo ++ [44] ++ digs hi ++ [125])) := by
  have d1 := digs_len hlo
  have d2 := digs_len hhi
  have hX : l ++ ([123] ++ digs lo ++ [44] ++ digs hi ++ [125]) = ((((l ++ [123]) ++ digs lo) ++ [44]) ++ digs hi) ++ [125] := by simp
  generalize [123] ++ digs lo ++ [44] ++ digs hi ++ [125] = T at *
  have HX := Lib.hid hX
  clear hX
  have HL1 := Lib.hid (show l.length + 1 ≤ 2000000000 by omega)
  have HL2 := Lib.hid (show (l ++ [123]).length ≤ 1000000000 by simp; omega)
  have HL3 := Lib.hid (show ((l ++ [123]) ++ digs lo).length + 1 ≤ 2000000000 by simp; omega)
  have HL4 := Lib.hid (show (((l ++ [123]) ++ digs lo) ++ [44]).length ≤ 1000000000 by simp; omega)
  have HL5 := Lib.hid (show ((((l ++ [123]) ++ digs lo) ++ [44]) ++ digs hi).length + 1 ≤ 2000000000 by simp; omega)
  have hh1 : ((hi : Int) == -1) = false := by have : (hi : Int) ≠ -1 := (by omega); simp [this]
  clear hl d1 d2
  go_enter Tryd.func63, Tryd.ntmps63
  go_wp2_with (first
    | (at_builtin; refine put_bytes rfl _ _ rfl B _ l [123] rfl (own_alloc (own_alloc hown _) _) ⟨w.heap.size + 1, 0, none⟩ 1 1 rfl rfl (new1' _ 123 _ _ rfl (by simp)) HL1.out (by simp; omega) ?_; intro v1 w1 a1 a2 a3; have HC1 := Lib.hid (kept8 (by decide) (heap_alloc_new w _) (((Lib.OthersKept.refl 5 none _).alloc _).trans a3.oth)); have c5 := (cell8 HC1.out).2.2.2.2.2.1; have HT1 := Lib.hid (al_trans (o := .cells (row8 k s lo hi vk) 81) hB (al_trans (by simp; omega) a2 a3).1 (al_trans (by simp; omega) a2 a3).2); clear a2 a3)
    | (go_at_call 82; refine (appendInt_any B lo hlo _ v1 w1 a1 (Nat.le_trans hB HT1.out.1.size) HL2.out).mono ?_; rintro e w2 ⟨v2, rfl, b1, b2, b3⟩; have HC2 := Lib.hid (kept8 (by decide) HC1.out b3.oth); have HT2 := Lib.hid (wr_trans HT1.out.1 HT1.out.2 b2 b3); clear b2 b3 c5)
    | (at_builtin; refine put_bytes rfl _ _ rfl B _ _ [44] rfl (own_alloc b1 _) ⟨w2.heap.size, 0, none⟩ 1 1 rfl rfl (new1' _ 44 _ _ rfl rfl) HL3.out (Nat.le_trans (Nat.le_trans hB HT2.out.1.size) (by simp)) ?_; intro v3 w3 a31 a32 a33; have HC3 := Lib.hid (kept8 (by decide) HC2.out (((Lib.OthersKept.refl 5 none _).alloc _).trans a33.oth)); have c6 := (cell8 HC3.out).2.2.2.2.2.2.1; have HT3 := Lib.hid (wr_trans HT2.out.1 HT2.out.2 (al_trans (Nat.le_trans hB HT2.out.1.size) a32 a33).1 (al_trans (Nat.le_trans hB HT2.out.1.size) a32 a33).2); clear a32 a33)
    | (go_at_call 82; refine (appendInt_any B hi hhi _ v3 w3 a31 (Nat.le_trans hB HT3.out.1.size) HL4.out).mono ?_; rintro e w4 ⟨v4, rfl, b41, b42, b43⟩; have HT4 := Lib.hid (wr_trans HT3.out.1 HT3.out.2 b42 b43); clear b42 b43 c6)
    | (at_builtin; refine put_bytes rfl _ _ rfl B _ _ [125] rfl (own_alloc b41 _) ⟨w4.heap.size, 0, none⟩ 1 1 rfl rfl (new1' _ 125 _ _ rfl rfl) HL5.out (Nat.le_trans (Nat.le_trans hB HT4.out.1.size) (by simp)) ?_; intro v5 w5 a51 a52 a53; have HT5 := Lib.hid (wr_trans HT4.out.1 HT4.out.2 (al_trans (Nat.le_trans hB HT4.out.1.size) a52 a53).1 (al_trans (Nat.le_trans hB HT4.out.1.size) a52 a53).2); clear a52 a53))
  go_ret
  exact ⟨_, rfl, by rw [HX.out]; exact a51, HT5.out.1, HT5.out.2⟩
set_option maxRecDepth 100000 in
set_option maxHeartbeats 1000000 in
theorem counts_one (B : Nat) (k : Int) (s : Nat → Int) (lo : Nat) (hlo : lo ≤ 20) (l : List UInt8) (v vk : Value) (w : World) (hown : w.ownsRow B 5 1 v l.length (bc l)) (hB : B ≤ w.heap.size) (hl : l.length ≤ 900000000) :
    Calls Tryd.prog 63 #[nodeV k s lo (-1) vk, v] w (Wr B v w l ([123] ++ digs lo ++ [44] ++ [] ++ [125])) := by
  have d1 := digs_len hlo
  have hX : l ++ ([123] ++ digs lo ++ [44] ++ [] ++ [125]) = (((l ++ [123]) ++ digs lo) ++ [44]) ++ [125] := by simp
  generalize [123] ++ digs lo ++ [44] ++ [] ++ [125] = T at *
  have HX := Lib.hid hX
  clear hX
  have HL1 := Lib.hid (show l.length + 1 ≤ 2000000000 by omega)
  have HL2 := Lib.hid (show (l ++ [123]).length ≤ 1000000000 by simp; omega)
  have HL3 := Lib.hid (show ((l ++ [123]) ++ digs lo).length + 1 ≤ 2000000000 by simp; omega)
  have HL5 := Lib.hid (show (((l ++ [123]) ++ digs lo) ++ [44]).length + 1 ≤ 2000000000 by simp; omega)
  clear hl d1
  go_enter Tryd.func63, Tryd.ntmps63
  go_wp2_with (first
    | (at_builtin; refine put_bytes rfl _ _ rfl B _ l [123] rfl (own_alloc (own_alloc hown _) _) ⟨w.heap.size + 1, 0, none⟩ 1 1 rfl rfl (new1' _ 123 _ _ rfl (by simp)) HL1.out (by simp; omega) ?_; intro v1 w1 a1 a2 a3; have HC1 := Lib.hid (kept8 (by decide) (heap_alloc_new w _) (((Lib.OthersKept.refl 5 none _).alloc _).trans a3.oth)); have c5 := (cell8 HC1.out).2.2.2.2.2.1; have HT1 := Lib.hid (al_trans (o := .cells (row8 k s lo (-1) vk) 81) hB (al_trans (by simp; omega) a2 a3).1 (al_trans (by simp; omega) a2 a3).2); clear a2 a3)
    | (go_at_call 82; refine (appendInt_any B lo hlo _ v1 w1 a1 (Nat.le_trans hB HT1.out.1.size) HL2.out).mono ?_; rintro e w2 ⟨v2, rfl, b1, b2, b3⟩; have HC2 := Lib.hid (kept8 (by decide) HC1.out b3.oth); have HT2 := Lib.hid (wr_trans HT1.out.1 HT1.out.2 b2 b3); clear b2 b3 c5)
    | (at_builtin; refine put_bytes rfl _ _ rfl B _ _ [44] rfl (own_alloc b1 _) ⟨w2.heap.size, 0, none⟩ 1 1 rfl rfl (new1' _ 44 _ _ rfl rfl) HL3.out (Nat.le_trans (Nat.le_trans hB HT2.out.1.size) (by simp)) ?_; intro v3 w3 a31 a32 a33; have HC3 := Lib.hid (kept8 (by decide) HC2.out (((Lib.OthersKept.refl 5 none _).alloc _).trans a33.oth)); have c6 := (cell8 HC3.out).2.2.2.2.2.2.1; have HT3 := Lib.hid (wr_trans HT2.out.1 HT2.out.2 (al_trans (Nat.le_trans hB HT2.out.1.size) a32 a33).1 (al_trans (Nat.le_trans hB HT2.out.1.size) a32 a33).2); clear a32 a33)
    | (at_builtin; refine put_bytes rfl _ _ rfl B _ _ [125] rfl (own_alloc a31 _) ⟨w3.heap.size, 0, none⟩ 1 1 rfl rfl (new1' _ 125 _ _ rfl rfl) HL5.out (Nat.le_trans (Nat.le_trans hB HT3.out.1.size) (by simp)) ?_; intro v5 w5 a51 a52 a53; have HT5 := Lib.hid (wr_trans HT3.out.1 HT3.out.2 (al_trans (Nat.le_trans hB HT3.out.1.size) a52 a53).1 (al_trans (Nat.le_trans hB HT3.out.1.size) a52 a53).2); clear a52 a53))
  go_ret
  exact ⟨_, rfl, by rw [HX.out]; exact a51, HT5.out.1, HT5.out.2⟩
set_option maxRecDepth 100000 in
/-- writeCounts, of a Rep as in the table. -/
theorem counts_text (B : Nat) (k : Int) (s : Nat → Int) (lo hi : Int) (h1 : 0 ≤ lo) (h2 : lo ≤ 20) (h3 : -1 ≤ hi) (h4 : hi ≤ 20) (l : List UInt8) (v vk : Value) (w : World) (hown : w.ownsRow B 5 1 v l.length (bc l)) (hB : B ≤ w.heap.size) (hl : l.length ≤ 900000000) :
    Calls Tryd.prog 63 #[nodeV k s lo hi vk, v] w (Wr B v w l (countsT lo hi)) := by
  obtain ⟨a, rfl⟩ : ∃ a : Nat, lo = (a : Int) := ⟨lo.toNat, by omega⟩
  by_cases h : hi = -1
  · subst h
    exact counts_one B k s a (by omega) l v vk w hown hB hl
  · obtain ⟨b, rfl⟩ : ∃ b : Nat, hi = (b : Int) := ⟨hi.toNat, by omega⟩
    have := counts_both B k s a b (by omega) (by omega) l v vk w hown hB hl
    unfold countsT
    rw [if_neg h]
    exact this
end Go.Proofs.YtnfchlkdppblfaaDoor
