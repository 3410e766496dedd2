/- Contracts of the landed code's writeByte, and of strconv.AppendInt at small numbers. -/
import Derived.Test.YtnfchlkdppblfaaDoorU
import Derived.Lib.AppendStr
import Derived.Lib.OthersKept
import Derived.Lib.UnsafeStr
namespace Go.Proofs.YtnfchlkdppblfaaDoor
open Go.RowKit
abbrev bc (l : List UInt8) : List Value := Lib.byteCells l
/-- Nothing has turned but the row that is appended to; the new row is the old one, or is new. -/
structure Ok3 (v : Value) (w w' : World) (v' : Value) : Prop where
  oth : Lib.OthersKept 5 none w w'
  block : ∀ k, k < w.heap.size → v.ownBlock ≠ some k → w'.heap[k]? = w.heap[k]?
  size : w.heap.size ≤ w'.heap.size
  lies : v'.ownBlock = v.ownBlock ∨ ∀ k, v'.ownBlock = some k → w.heap.size ≤ k
/-- What a call that appends bytes to a row of its caller's comes to. -/
def Wr (B : Nat) (v : Value) (w : World) (l new : List UInt8) (e : Ending) (w' : World) : Prop :=
  ∃ v', e = .returned v' ∧ w'.ownsRow B 5 1 v' (l ++ new).length (bc (l ++ new)) ∧ Below B w w' ∧ Ok3 v w w' v'
set_option maxRecDepth 100000 in
theorem Ok3.refl (v : Value) (w : World) : Ok3 v w w v := ⟨Lib.OthersKept.refl _ _ _, fun _ _ _ => rfl, Nat.le_refl _, Or.inl rfl⟩
set_option maxRecDepth 100000 in
theorem Ok3.trans {v v1 v2 : Value} {w w1 w2 : World} (h : Ok3 v w w1 v1) (k : Ok3 v1 w1 w2 v2) : Ok3 v w w2 v2 := by
  refine ⟨h.oth.trans k.oth, fun i hi hv => ?_, Nat.le_trans h.size k.size, ?_⟩
  · rw [k.block i (Nat.lt_of_lt_of_le hi h.size) ?_]
    · exact h.block i hi hv
    · intro e
      rcases h.lies with q | q
      · rw [q] at e; exact hv e
      · have := q i e; omega
  · rcases k.lies with q | q
    · rw [q]; exact h.lies
    · exact Or.inr fun i hi => Nat.le_trans h.size (q i hi)
set_option maxRecDepth 100000 in
theorem Ok3.alloc {v v1 : Value} {w w1 : World} (h : Ok3 v w w1 v1) (o : Obj) : Ok3 v w (w1.alloc o) v1 :=
  ⟨h.oth.alloc o, fun k hk hv => (Below.heap_alloc _ _ _ (Nat.lt_of_lt_of_le hk h.size)).trans (h.block k hk hv), Nat.le_trans h.size (by simp), h.lies⟩
set_option maxRecDepth 100000 in
theorem Ok3.drew {v v1 : Value} {w w1 : World} (h : Ok3 v w w1 v1) : Ok3 v w w1.drew v1 := ⟨h.oth.drew, h.block, h.size, h.lies⟩
set_option maxRecDepth 100000 in
theorem info5 : (Tryd.prog.info? 5).map (fun i => (i.zero, i.size, i.bytes)) = some (some (.int .u8 0), 1, 1) := by kernel_rfl
set_option maxRecDepth 100000 in
theorem row_kind {w : World} {B n : Nat} {v : Value} {xs : List Value} (h : w.ownsRow B 5 1 v n xs) : ∀ g, v.ownBlock = some g → ∃ c fz, w.heap[g]? = some (.cells c 5 fz) := by
  intro g hg
  obtain ⟨_, ⟨rfl, _⟩ | ⟨g', cap, cur, rfl, _, hh, _⟩⟩ := h
  · cases hg
  · injection hg with hg; subst hg; exact ⟨_, _, hh⟩
set_option maxRecDepth 100000 in
theorem grown_others {w w' : World} {B n : Nat} {v : Value} {xs : List Value} (h : w.ownsRow B 5 1 v n xs) (hg : w.grownBy w' v.ownBlock) : Lib.OthersKept 5 none w w' := (Lib.OthersKept.refl 5 none w).grown hg (row_kind h)
set_option maxRecDepth 100000 in
theorem others_of_below {w w' : World} (h : Below w.heap.size w w') : Lib.OthersKept 5 none w w' := fun k o hk _ _ => by
  have : k < w.heap.size := (Array.getElem?_eq_some_iff.1 hk).1
  exact (h.block k this).trans hk
set_option maxRecDepth 100000 in
theorem ok_of_below (v : Value) {w w' : World} (h : Below w.heap.size w w') : Ok3 v w w' v := ⟨others_of_below h, fun k hk _ => h.block k hk, h.size, Or.inl rfl⟩
set_option maxRecDepth 100000 in
theorem ok_grown {w w' : World} {B n : Nat} {v v' : Value} {xs : List Value} (h : w.ownsRow B 5 1 v n xs) (hg : w.grownBy w' v.ownBlock) (hl : v'.ownBlock = v.ownBlock ∨ v'.ownBlock = some w.heap.size) : Ok3 v w w' v' :=
  ⟨grown_others h hg, fun k hk hv => hg.block k hk fun e => hv e.symm, hg.size, hl.imp id fun q k hk => by rw [q] at hk; injection hk with hk; omega⟩
/-- Is a byte a letter or a digit? -/
def plainC (b : Int) : Bool := (decide (48 ≤ b) && decide (b ≤ 57)) || ((decide (65 ≤ b) && decide (b ≤ 90)) || (decide (97 ≤ b) && decide (b ≤ 122)))
def hexs : List UInt8 := [48, 49, 50, 51, 52, 53, 54, 55, 56, 57, 97, 98, 99, 100, 101, 102]
def hexd (i : Nat) : UInt8 := hexs.getD i 0
/-- The text of a byte. -/
def byteT (b : Int) : List UInt8 := if plainC b = true then [UInt8.ofNat b.toNat] else [92, 120, hexd (b.toNat / 16), hexd (b.toNat % 16)]
set_option maxRecDepth 100000 in
theorem bc_append (l m : List UInt8) : bc (l ++ m) = bc l ++ bc m := by simp [Lib.byteCells]
set_option maxRecDepth 100000 in
theorem u8_of {b : Int} (h0 : 0 ≤ b) (h1 : b < 256) : ((UInt8.ofNat b.toNat).toNat : Int) = b := by
  have : b.toNat < 256 := by omega
  simp [UInt8.toNat_ofNat', Nat.mod_eq_of_lt this]; omega
set_option maxRecDepth 100000 in
theorem bc_length (l : List UInt8) : (bc l).length = l.length := by simp [Lib.byteCells]
set_option maxRecDepth 100000 in
theorem bc_one (l : List UInt8) : ∀ u ∈ bc l, u.oneCell' = true := by
  intro u hu
  simp only [Lib.byteCells, List.mem_map] at hu
  obtain ⟨b, _, rfl⟩ := hu
  rfl
set_option maxRecDepth 100000 in
/-- Where a text that is appended to a row of bytes comes to lie. -/
theorem str_lies (w : World) (B : Nat) (ty : TypeId) (i : TypeInfo) (hi : Tryd.prog.info? 5 = some i) (hz : i.zero = some (.int .u8 0)) (hsize : i.size = 1) (hby : i.bytes = 1) (v : Value) (n : Nat) (xs : List Value) (hown : w.ownsRow B 5 1 v n xs) (s : ByteArray) (hb : n + s.size ≤ 140737488355328)
    {v' : Value} {w' : World} (hr : (Builtin.append_ #[22, 9] ty #[v, .string s]).run Tryd.prog w = .ok v' w') : v'.ownBlock = v.ownBlock ∨ ∀ k, v'.ownBlock = some k → w.heap.size ≤ k := by
  have hxl : xs.length = n := by simpa using hown.1
  rcases hown.2 with ⟨rfl, rfl⟩ | ⟨g, cap, cur, rfl, hbg, hg, hnc, hcm, hcs, htake⟩
  · right
    obtain ⟨v2, w2, hr2, ho2, _⟩ := Lib.run_append_own_string (P := Tryd.prog) w w.heap.size 22 9 ty 5 i Tryd.underlying22 Tryd.underlying9 hi hz hsize hby (.slice none 0 0) 0 [] (World.ownsRow_nil _ _ _ _) s (by unfold maxLen; omega) hb (Nat.le_refl _)
    rw [hr] at hr2
    injection hr2 with e1 e2
    subst e1
    exact own_ge ho2
  · by_cases hroom : n + s.size ≤ cap
    · left
      have hcs' : cur.size = cap := by simpa using hcs
      have hr2 := Lib.run_append_room_string (P := Tryd.prog) w 22 9 ty 5 i Tryd.underlying22 Tryd.underlying9 hi hsize g n cap cur hg s hroom (by omega)
      rw [hr] at hr2
      injection hr2 with e1 e2
      subst e1
      rfl
    · right
      have holds : ∀ j u, xs[j]? = some u → w.cell? ((⟨g, 0, none⟩ : Addr).add j) = some u := hown.cells (g := g) rfl
      have hr2 := Lib.run_append_grow_string (P := Tryd.prog) w 22 9 ty 5 i (.int .u8 0) Tryd.underlying22 Tryd.underlying9 hi hz ⟨g, 0, none⟩ n cap xs (by rw [hsize]; simpa using hxl) holds s (by omega) (by unfold maxLen at hcm; omega) (by rw [hby]; exact growslice_fits (by omega) (by omega))
      rw [hr] at hr2
      injection hr2 with e1 e2
      subst e1
      intro k hk
      injection hk with hk
      exact Nat.le_of_eq hk
section
variable {w : World} {o : Oper} {a : Act} {Q : Exit → Act → World → Prop}
set_option maxRecDepth 100000 in
/-- An append of bytes to a row of the caller's own. -/
theorem wp_bytes {K : Act → World → Prop} (s x : Operand) (ho : o.op = .call { callee := .builtin .append, args := #[s, x], argTypes := #[22, 22] })
    (B : Nat) (v : Value) (l new : List UInt8) (hs : a.eval s = v) (hown : w.ownsRow B 5 1 v l.length (bc l)) (ad : Addr) (m c : Nat) (hx : a.eval x = .slice (some ad) m c) (hm : new.length = m)
    (hnews : ∀ j u, (bc new)[j]? = some u → w.cell? (ad.add j) = some u) (hlen : l.length + new.length ≤ 2000000000) (hB : B ≤ w.heap.size)
    (h : ∀ v' w', w'.ownsRow B 5 1 v' (l ++ new).length (bc (l ++ new)) → Below B w w' → Ok3 v w w' v' → K (a.put o.dst v') w') : o.wp Tryd.prog a w K Q := by
  obtain ⟨i0, hi, hz0, hz1, hz2⟩ := info_parts info5
  subst hm
  obtain ⟨v', w', hr, hown', hg, _, hat⟩ := run_append_own_at (P := Tryd.prog) w B 22 o.type 5 i0 (.int .u8 0) 1 1 Tryd.underlying22 hi hz0 hz1 hz2 rfl (by decide) v l.length (bc l) hown ad new.length c (bc new) (by rw [bc_length, Nat.mul_one]) hnews (bc_one new) (by unfold maxLen; omega) (by omega) hB
  unfold Oper.wp execOp
  simp only [ho, resolve, invoke, builtin, Sem.run_bind, Sem.run_pure, Result.andThen_ok, List.map_toArray, List.map_cons, List.map_nil, hs, hx, hr]
  exact h v' w' (by rw [bc_append, List.length_append]; exact hown') (grown_below hown hB hg) (ok_grown hown hg hat)
set_option maxRecDepth 100000 in
theorem put_bytes {ops : Array Oper} {rest : List Oper} (hgd : o.guard = none) (s x : Operand) (ho : o.op = .call { callee := .builtin .append, args := #[s, x], argTypes := #[22, 22] })
    (B : Nat) (v : Value) (l new : List UInt8) (hs : a.eval s = v) (hown : w.ownsRow B 5 1 v l.length (bc l)) (ad : Addr) (m c : Nat) (hx : a.eval x = .slice (some ad) m c) (hm : new.length = m)
    (hnews : ∀ j u, (bc new)[j]? = some u → w.cell? (ad.add j) = some u) (hlen : l.length + new.length ≤ 2000000000) (hB : B ≤ w.heap.size)
    (h : ∀ v' w', w'.ownsRow B 5 1 v' (l ++ new).length (bc (l ++ new)) → Below B w w' → Ok3 v w w' v' → wpList Tryd.prog ops Q rest (a.put o.dst v') w') : wpList Tryd.prog ops Q (o :: rest) a w :=
  wpList_plain hgd fun _ hK => wp_bytes s x ho B v l new hs hown ad m c hx hm hnews hlen hB fun v' w' h1 h2 h3 => hK _ _ (h v' w' h1 h2 h3)
set_option maxRecDepth 100000 in
theorem step_bytes {ops : Array Oper} {K : Act → World → Prop} {X : Prop} (hgd : o.guard = none) (s x : Operand) (ho : o.op = .call { callee := .builtin .append, args := #[s, x], argTypes := #[22, 22] })
    (B : Nat) (v : Value) (l new : List UInt8) (hs : a.eval s = v) (hown : w.ownsRow B 5 1 v l.length (bc l)) (ad : Addr) (m c : Nat) (hx : a.eval x = .slice (some ad) m c) (hm : new.length = m)
    (hnews : ∀ j u, (bc new)[j]? = some u → w.cell? (ad.add j) = some u) (hlen : l.length + new.length ≤ 2000000000) (hB : B ≤ w.heap.size)
    (h : ∀ v' w', w'.ownsRow B 5 1 v' (l ++ new).length (bc (l ++ new)) → Below B w w' → Ok3 v w w' v' → K (a.put o.dst v') w') :
    if Region.wanted o (yielded ops a.tmps) = true then Oper.wp Tryd.prog o a w K Q else X := by
  have hw : Region.wanted o (yielded ops a.tmps) = true := by simp [Region.wanted, hgd]
  rw [if_pos hw]
  exact wp_bytes s x ho B v l new hs hown ad m c hx hm hnews hlen hB h
set_option maxRecDepth 100000 in
/-- An append of a text. -/
theorem put_text {ops : Array Oper} {rest : List Oper} (hgd : o.guard = none) (s x : Operand) (ho : o.op = .call { callee := .builtin .append, args := #[s, x], argTypes := #[22, 9] })
    (B : Nat) (v : Value) (l new : List UInt8) (hs : a.eval s = v) (hown : w.ownsRow B 5 1 v l.length (bc l)) (hx : a.eval x = .string ⟨new.toArray⟩) (hlen : l.length + new.length ≤ 2000000000) (hB : B ≤ w.heap.size)
    (h : ∀ v' w', w'.ownsRow B 5 1 v' (l ++ new).length (bc (l ++ new)) → Below B w w' → Ok3 v w w' v' → wpList Tryd.prog ops Q rest (a.put o.dst v') w') : wpList Tryd.prog ops Q (o :: rest) a w := by
  obtain ⟨i0, hi, hz0, hz1, hz2⟩ := info_parts info5
  have hsz : (⟨new.toArray⟩ : ByteArray).size = new.length := by simp [ByteArray.size]
  obtain ⟨v', w', hr, hown', hg, _⟩ := Lib.run_append_own_string (P := Tryd.prog) w B 22 9 o.type 5 i0 Tryd.underlying22 Tryd.underlying9 hi hz0 hz1 hz2 v l.length (bc l) hown ⟨new.toArray⟩ (by rw [hsz]; unfold maxLen; omega) (by rw [hsz]; omega) hB
  have hat := str_lies w B o.type i0 hi hz0 hz1 hz2 v l.length (bc l) hown ⟨new.toArray⟩ (by rw [hsz]; omega) hr
  refine wpList_plain hgd fun K hK => ?_
  unfold Oper.wp execOp
  simp only [ho, resolve, invoke, builtin, Sem.run_bind, Sem.run_pure, Result.andThen_ok, List.map_toArray, List.map_cons, List.map_nil, hs, hx, hr]
  rw [hsz] at hown'
  exact hK _ _ (h v' w' (by rw [bc_append, List.length_append]; exact hown') (grown_below hown hB hg) ⟨grown_others hown hg, fun k hk hv => hg.block k hk fun e => hv e.symm, hg.size, hat⟩)
end
set_option maxRecDepth 100000 in
theorem new1 (w : World) (b : UInt8) : ∀ j u, (bc [b])[j]? = some u → (w.alloc (.cells #[.int .u8 b.toNat] 5)).cell? ((⟨w.heap.size, 0, none⟩ : Addr).add j) = some u := cell_one_new w _ 5
set_option maxRecDepth 100000 in
theorem own_alloc {w : World} {B n : Nat} {v : Value} {xs : List Value} (h : w.ownsRow B 5 1 v n xs) (o : Obj) : (w.alloc o).ownsRow B 5 1 v n xs := h.alloc o
set_option maxRecDepth 100000 in
theorem wr_alloc {B : Nat} {w w' : World} {l new : List UInt8} {v v' : Value} (o : Obj) (hB : B ≤ w.heap.size) (h1 : w'.ownsRow B 5 1 v' (l ++ new).length (bc (l ++ new))) (h2 : Below B (w.alloc o) w') (h3 : Ok3 v (w.alloc o) w' v') : Wr B v w l new (.returned v') w' :=
  ⟨v', rfl, h1, ((Below.refl B w).alloc hB _).trans h2, ((Ok3.refl v w).alloc _).trans h3⟩
set_option maxRecDepth 100000 in
set_option maxHeartbeats 1000000 in
theorem byte_plain (B : Nat) (b : Int) (hp : plainC b = true) (l : List UInt8) (v : Value) (w : World) (hown : w.ownsRow B 5 1 v l.length (bc l)) (hB : B ≤ w.heap.size) (hl : l.length ≤ 1000000000) :
    Calls Tryd.prog 80 #[v, .int .i64 b] w (Wr B v w l [UInt8.ofNat b.toNat]) := by
  have hc : (48 ≤ b ∧ b ≤ 57 ∧ ¬ 65 ≤ b ∧ ¬ 97 ≤ b) ∨ (48 ≤ b ∧ ¬ b ≤ 57 ∧ 65 ≤ b ∧ b ≤ 90 ∧ ¬ 97 ≤ b) ∨ (48 ≤ b ∧ ¬ b ≤ 57 ∧ 65 ≤ b ∧ ¬ b ≤ 90 ∧ 97 ≤ b ∧ b ≤ 122) := by
    simp only [plainC, Bool.or_eq_true, Bool.and_eq_true, decide_eq_true_eq] at hp; omega
  have hw : IntKind.u8.wrap b = b := by rw [IntKind.wrap_u8]; omega
  have HN := Lib.hid (show ∀ j u, (bc [UInt8.ofNat b.toNat])[j]? = some u → (w.alloc (.cells #[.int .u8 b] 5)).cell? ((⟨w.heap.size, 0, none⟩ : Addr).add j) = some u by
    have := new1 w (UInt8.ofNat b.toNat); rw [u8_of (by omega) (by omega)] at this; exact this)
  have HL := Lib.hid (show l.length + 1 ≤ 2000000000 by omega)
  have HB := Lib.hid (show B ≤ (w.alloc (.cells #[.int .u8 b] 5)).heap.size by simp; omega)
  clear hp hl
  rcases hc with ⟨h1, h2, h3, h4⟩ | ⟨h1, h2, h3, h4, h5⟩ | ⟨h1, h2, h3, h4, h5, h6⟩
  · go_enter Tryd.func80, Tryd.ntmps80
    go_wp2_with (first | (at_builtin; refine put_bytes rfl _ _ rfl B _ l [UInt8.ofNat b.toNat] rfl (own_alloc hown _) ⟨w.heap.size, 0, none⟩ 1 1 rfl rfl HN.out HL.out HB.out ?_; intro v1 w1 k1 k2 k3))
    go_ret
    exact wr_alloc _ hB k1 k2 k3
  · go_enter Tryd.func80, Tryd.ntmps80
    go_wp2_with (first | (at_builtin; refine put_bytes rfl _ _ rfl B _ l [UInt8.ofNat b.toNat] rfl (own_alloc hown _) ⟨w.heap.size, 0, none⟩ 1 1 rfl rfl HN.out HL.out HB.out ?_; intro v1 w1 k1 k2 k3))
    go_ret
    exact wr_alloc _ hB k1 k2 k3
  · go_enter Tryd.func80, Tryd.ntmps80
    go_wp2_with (first | (at_builtin; refine put_bytes rfl _ _ rfl B _ l [UInt8.ofNat b.toNat] rfl (own_alloc hown _) ⟨w.heap.size, 0, none⟩ 1 1 rfl rfl HN.out HL.out HB.out ?_; intro v1 w1 k1 k2 k3))
    go_ret
    exact wr_alloc _ hB k1 k2 k3
set_option maxRecDepth 100000 in
theorem and15 {b : Int} (h0 : 0 ≤ b) (h1 : b < 256) : bits .and .i64 b 15 = b % 16 := by
  obtain ⟨n, rfl⟩ : ∃ n : Nat, b = (n : Int) := ⟨b.toNat, by omega⟩
  have hn : n < 256 := by omega
  have : ∀ m : Fin 256, bits .and .i64 (m.val : Int) 15 = (m.val : Int) % 16 := by decide +kernel
  exact this ⟨n, hn⟩
set_option maxRecDepth 100000 in
theorem hex_at (i : Nat) (h : i < 16) (h' : i < (⟨#[48, 49, 50, 51, 52, 53, 54, 55, 56, 57, 97, 98, 99, 100, 101, 102]⟩ : ByteArray).size) : (⟨#[48, 49, 50, 51, 52, 53, 54, 55, 56, 57, 97, 98, 99, 100, 101, 102]⟩ : ByteArray)[i] = hexd i := by
  have : ∀ m : Fin 16, (⟨#[48, 49, 50, 51, 52, 53, 54, 55, 56, 57, 97, 98, 99, 100, 101, 102]⟩ : ByteArray)[m.val]'(m.isLt) = hexd m.val := by decide +kernel
  exact this ⟨i, h⟩
set_option maxRecDepth 100000 in
theorem new4 (w : World) (b c d e : UInt8) : ∀ j u, (bc [b, c, d, e])[j]? = some u → (w.alloc (.cells #[.int .u8 b.toNat, .int .u8 c.toNat, .int .u8 d.toNat, .int .u8 e.toNat] 5)).cell? ((⟨w.heap.size, 0, none⟩ : Addr).add j) = some u :=
  World.news_of_block (cs := #[.int .u8 b.toNat, .int .u8 c.toNat, .int .u8 d.toNat, .int .u8 e.toNat]) (t := 5) (fr := (0, 0)) (heap_alloc_new w _)
set_option maxRecDepth 100000 in
set_option maxHeartbeats 1000000 in
theorem byte_hex (B : Nat) (b : Int) (h0 : 0 ≤ b) (h256 : b < 256) (hp : plainC b = false) (l : List UInt8) (v : Value) (w : World) (hown : w.ownsRow B 5 1 v l.length (bc l)) (hB : B ≤ w.heap.size) (hl : l.length ≤ 1000000000) :
    Calls Tryd.prog 80 #[v, .int .i64 b] w (Wr B v w l [92, 120, hexd (b.toNat / 16), hexd (b.toNat % 16)]) := by
  have hc : (¬ 48 ≤ b ∧ ¬ 65 ≤ b ∧ ¬ 97 ≤ b) ∨ (48 ≤ b ∧ ¬ b ≤ 57 ∧ ¬ 65 ≤ b ∧ ¬ 97 ≤ b) ∨ (48 ≤ b ∧ ¬ b ≤ 57 ∧ 65 ≤ b ∧ ¬ b ≤ 90 ∧ ¬ 97 ≤ b) ∨ (48 ≤ b ∧ ¬ b ≤ 57 ∧ 65 ≤ b ∧ ¬ b ≤ 90 ∧ 97 ≤ b ∧ ¬ b ≤ 122) := by
    simp only [plainC, Bool.or_eq_false_iff, Bool.and_eq_false_iff, decide_eq_false_iff_not] at hp; omega
  have hand := and15 h0 h256
  have i1 : 0 ≤ b % 16 := by omega
  have i2 : b % 16 < 16 := by omega
  have i3 : 0 ≤ b / 16 := by omega
  have i4 : b / 16 < 16 := by omega
  have x1 : ∀ h', (⟨#[48, 49, 50, 51, 52, 53, 54, 55, 56, 57, 97, 98, 99, 100, 101, 102]⟩ : ByteArray)[(b / 16).toNat]'h' = hexd (b.toNat / 16) := fun h' => by rw [hex_at _ (by omega)]; congr 1; omega
  have x2 : ∀ h', (⟨#[48, 49, 50, 51, 52, 53, 54, 55, 56, 57, 97, 98, 99, 100, 101, 102]⟩ : ByteArray)[(b % 16).toNat]'h' = hexd (b.toNat % 16) := fun h' => by rw [hex_at _ (by omega)]; congr 1; omega
  have HL := Lib.hid (show l.length + 4 ≤ 2000000000 by omega)
  generalize hexd (b.toNat / 16) = d1 at *
  generalize hexd (b.toNat % 16) = d2 at *
  clear hl hp
  rcases hc with ⟨h1, h2, h3⟩ | ⟨h1, h2, h3, h4⟩ | ⟨h1, h2, h3, h4, h5⟩ | ⟨h1, h2, h3, h4, h5, h6⟩
  · go_enter Tryd.func80, Tryd.ntmps80
    go_wp2_with fail
    go_region_held3 (fun _ => True) (trivial) (first | (refine step_bytes (by rfl) (.tmp 32) (.tmp 39) (by rfl) B v l [92, 120, d1, d2] (by rfl) (own_alloc (w := w.drew) hown _) ⟨w.heap.size, 0, none⟩ 4 4 (by rfl) (by rfl) (new4 w.drew 92 120 d1 d2) HL.out (by simp; omega) ?_; intro v1 w1 k1 k2 k3))
    all_goals
      go_wp2
      go_ret
      exact ⟨_, rfl, k1, (show Below B w _ by first | exact ((Below.refl B w).alloc hB _).drew | exact ((Below.refl B w).drew.alloc hB _)).trans k2, (show Ok3 v w _ v by first | exact ((Ok3.refl v w).alloc _).drew | exact ((Ok3.refl v w).drew.alloc _)).trans k3⟩
  · go_enter Tryd.func80, Tryd.ntmps80
    go_wp2_with fail
    go_region_held3 (fun _ => True) (trivial) (first | (refine step_bytes (by rfl) (.tmp 32) (.tmp 39) (by rfl) B v l [92, 120, d1, d2] (by rfl) (own_alloc (w := w.drew) hown _) ⟨w.heap.size, 0, none⟩ 4 4 (by rfl) (by rfl) (new4 w.drew 92 120 d1 d2) HL.out (by simp; omega) ?_; intro v1 w1 k1 k2 k3))
    all_goals
      go_wp2
      go_ret
      exact ⟨_, rfl, k1, (show Below B w _ by first | exact ((Below.refl B w).alloc hB _).drew | exact ((Below.refl B w).drew.alloc hB _)).trans k2, (show Ok3 v w _ v by first | exact ((Ok3.refl v w).alloc _).drew | exact ((Ok3.refl v w).drew.alloc _)).trans k3⟩
  · go_enter Tryd.func80, Tryd.ntmps80
    go_wp2_with fail
    go_region_held3 (fun _ => True) (trivial) (first | (refine step_bytes (by rfl) (.tmp 32) (.tmp 39) (by rfl) B v l [92, 120, d1, d2] (by rfl) (own_alloc (w := w.drew) hown _) ⟨w.heap.size, 0, none⟩ 4 4 (by rfl) (by rfl) (new4 w.drew 92 120 d1 d2) HL.out (by simp; omega) ?_; intro v1 w1 k1 k2 k3))
    all_goals
      go_wp2
      go_ret
      exact ⟨_, rfl, k1, (show Below B w _ by first | exact ((Below.refl B w).alloc hB _).drew | exact ((Below.refl B w).drew.alloc hB _)).trans k2, (show Ok3 v w _ v by first | exact ((Ok3.refl v w).alloc _).drew | exact ((Ok3.refl v w).drew.alloc _)).trans k3⟩
  · go_enter Tryd.func80, Tryd.ntmps80
    go_wp2_with fail
    go_region_held3 (fun _ => True) (trivial) (first | (refine step_bytes (by rfl) (.tmp 32) (.tmp 39) (by rfl) B v l [92, 120, d1, d2] (by rfl) (own_alloc (w := w.drew) hown _) ⟨w.heap.size, 0, none⟩ 4 4 (by rfl) (by rfl) (new4 w.drew 92 120 d1 d2) HL.out (by simp; omega) ?_; intro v1 w1 k1 k2 k3))
    all_goals
      go_wp2
      go_ret
      exact ⟨_, rfl, k1, (show Below B w _ by first | exact ((Below.refl B w).alloc hB _).drew | exact ((Below.refl B w).drew.alloc hB _)).trans k2, (show Ok3 v w _ v by first | exact ((Ok3.refl v w).alloc _).drew | exact ((Ok3.refl v w).drew.alloc _)).trans k3⟩
set_option maxRecDepth 100000 in
/-- writeByte. -/
theorem byte_any (B : Nat) (b : Int) (h0 : 0 ≤ b) (h256 : b < 256) (l : List UInt8) (v : Value) (w : World) (hown : w.ownsRow B 5 1 v l.length (bc l)) (hB : B ≤ w.heap.size) (hl : l.length ≤ 1000000000) :
    Calls Tryd.prog 80 #[v, .int .i64 b] w (Wr B v w l (byteT b)) := by
  unfold byteT
  split
  · rename_i h; exact byte_plain B b h l v w hown hB hl
  · rename_i h; exact byte_hex B b h0 h256 (by simpa using h) l v w hown hB hl
end Go.Proofs.YtnfchlkdppblfaaDoor
