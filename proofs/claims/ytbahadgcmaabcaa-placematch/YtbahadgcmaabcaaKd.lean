/- The builder's add and what it calls: what their walks need. -/
import Derived.Test.YtbahadgcmaabcaaJu
import Derived.Test.YtbahadgcmaabcaaJh
import Derived.Test.YtbahadgcmaabcaaJe
namespace Go.Proofs.Ytbahadgcmaabcaa
open Go.RowKit Go
/-- Some patterns in a row that no builder from B on holds. -/
def KRow (B : Nat) (w : World) (a : Option Addr) (n cap : Nat) (kid : Nat → Tr) : Prop :=
  n ≤ cap ∧ cap ≤ maxLen ∧ (0 < n → ∃ g off, a = some ⟨g, off, none⟩ ∧ g < w.heap.size ∧ (g < B ∨ ¬ isB w.heap[g]?) ∧ ∀ i, i < n → At8 w g (off + i * 8) (kid i)) ∧ ∀ i, i < n → Lives w B (kid i)
theorem At8.same {w w' : World} {g o : Nat} {t : Tr} (h : At8 w g o t) (hb : w'.heap[g]? = w.heap[g]?) : At8 w' g o t := by
  obtain ⟨h0, h1, h2, h3, h4, h5, h6, h7⟩ := h
  exact ⟨(World.cell?_of_block (a := ⟨g, _, none⟩) hb).trans h0, (World.cell?_of_block (a := ⟨g, _, none⟩) hb).trans h1, (World.cell?_of_block (a := ⟨g, _, none⟩) hb).trans h2, (World.cell?_of_block (a := ⟨g, _, none⟩) hb).trans h3, (World.cell?_of_block (a := ⟨g, _, none⟩) hb).trans h4, (World.cell?_of_block (a := ⟨g, _, none⟩) hb).trans h5, (World.cell?_of_block (a := ⟨g, _, none⟩) hb).trans h6, (World.cell?_of_block (a := ⟨g, _, none⟩) hb).trans h7⟩
theorem KRow.get {B : Nat} {w w' : World} {a : Option Addr} {n cap : Nat} {kid : Nat → Tr} (h : KRow B w a n cap kid) (hk : KT B w w') (hB : B ≤ w.heap.size) {i : Nat} (hi : i < n) : ∃ g off, a = some ⟨g, off, none⟩ ∧ At8 w' g (off + i * 8) (kid i) ∧ Lives w' B (kid i) := by
  obtain ⟨_, _, h1, h2⟩ := h
  obtain ⟨g, off, ha, hg, hb, hc⟩ := h1 (by omega)
  exact ⟨g, off, ha, (hc i hi).same (hk.block g hg hb), (h2 i hi).below (hk.below hB)⟩
theorem KRow.kt {B : Nat} {w w' : World} {a : Option Addr} {n cap : Nat} {kid : Nat → Tr} (h : KRow B w a n cap kid) (hk : KT B w w') (hB : B ≤ w.heap.size) : KRow B w' a n cap kid := by
  obtain ⟨h0, h00, h1, h2⟩ := h
  refine ⟨h0, h00, fun hp => ?_, fun i hi => (h2 i hi).below (hk.below hB)⟩
  obtain ⟨g, off, ha, hg, hb, hc⟩ := h1 hp
  have e := hk.block g hg hb
  exact ⟨g, off, ha, Nat.lt_of_lt_of_le hg hk.size, by rw [e]; exact hb, fun i hi => (hc i hi).same e⟩
theorem KRow.of {B : Nat} {w : World} {k : Int} {s : Nat → Int} {lo hi : Int} {a : Option Addr} {n cap : Nat} {kid : Nat → Tr} (h : Lives w B (.node k s lo hi a n cap kid)) (hB : B ≤ w.heap.size) : KRow B w a n cap kid := by
  obtain ⟨_, h1, h2, hc, hl⟩ := h
  refine ⟨h1, h2, fun hp => ?_, hl⟩
  obtain ⟨g, off, ha, hg, hc⟩ := hc hp
  exact ⟨g, off, ha, Nat.lt_of_lt_of_le hg hB, Or.inl hg, hc⟩
theorem PtV.forms {w : World} {v : Value} {X : Pa} (h : PtV w v X) : ∃ a1 n1 c1 a2 n2 c2, v = .agg #[.slice a1 n1 c1, .slice a2 n2 c2, .bool X.nu] := by
  obtain ⟨vf, vl, lf, ll, rfl, ⟨a1, c1, rfl, _⟩, _, ⟨a2, c2, rfl, _⟩, _⟩ := h
  exact ⟨a1, _, c1, a2, _, c2, rfl⟩
/-- A part in a box. -/
def PBt (W : World) (q : Nat) (X : Pa) : Prop := ∃ a1 n1 c1 a2 n2 c2, W.heap[q]? = some (.cells #[.slice a1 n1 c1, .slice a2 n2 c2, .bool X.nu] 58 (0, 0)) ∧ PtV W (.agg #[.slice a1 n1 c1, .slice a2 n2 c2, .bool X.nu]) X
theorem PBt.kt {B : Nat} {W W' : World} {q : Nat} {X : Pa} (h : PBt W q X) (hk : KT B W W') : PBt W' q X := by
  obtain ⟨a1, n1, c1, a2, n2, c2, hq, hP⟩ := h
  exact ⟨a1, n1, c1, a2, n2, c2, hk.heap hq (by decide) (by decide) (by decide), hP.kt hk⟩
theorem PBt.set {W : World} {q : Nat} {X : Pa} {b1 b2 b3 : Value} {a1 n1 c1 a2 n2 c2} (hq : W.heap[q]? = some (.cells #[b1, b2, b3] 58 (0, 0))) (h : PtV W (.agg #[.slice a1 n1 c1, .slice a2 n2 c2, .bool X.nu]) X) : PBt (put3 W q (.slice a1 n1 c1) (.slice a2 n2 c2) (.bool X.nu)) q X :=
  ⟨_, _, _, _, _, _, stored3 _ _ _ hq, h.kept (put3_grown _ _ _ _ _) fun k hk => by cases hk; exact ⟨_, _, hq, by decide⟩⟩
theorem PBt.new {W : World} {X : Pa} {a1 n1 c1 a2 n2 c2} (h : PtV W (.agg #[.slice a1 n1 c1, .slice a2 n2 c2, .bool X.nu]) X) : PBt (W.alloc (.cells #[.slice a1 n1 c1, .slice a2 n2 c2, .bool X.nu] 58)) W.heap.size X :=
  ⟨_, _, _, _, _, _, heap_alloc_new _ _, h.below (alloc_below _ _)⟩
/-- The part that these places are, behind n others. -/
abbrev Pl.part (P : Pl) (n : Nat) : Pa := ⟨sh P.fi n, sh P.la n, P.nu⟩
theorem Pl.part_le {P : Pl} (h : P.Ok) (n m : Nat) (hm : n + P.n ≤ m) : (P.part n).Le m :=
  ⟨fun i hi => sh_out (m := P.n) h.fi i (by omega), fun i hi => sh_out (m := P.n) h.la i (by omega)⟩
theorem Pl.part_cat {A : Pl} (hA : A.Ok) (K : Pl) (n : Nat) : (A.part n).cat (K.part (n + A.n)) = (A.cat K).part n := by
  unfold Pa.cat Pl.part
  simp only [Pa.mk.injEq]
  exact ⟨funext fun i => sh_cat_fi A K hA n i, funext fun i => sh_cat_la A K hA n i, rfl⟩
theorem pt_nil (w : World) (n : Nat) (b : Bool) : PtV w (.agg #[.slice none 0 0, .slice none 0 0, .bool b]) ((Pl.nil b).part n) :=
  ⟨_, _, [], [], rfl, il_nil _, isL_nil fun i => by simp [sh, Pl.nil], il_nil _, isL_nil fun i => by simp [sh, Pl.nil]⟩
/-- While one of the builder's methods runs: the box of its answer, the builder. -/
structure AcS (B : Nat) (w : World) (p : Nat) (G : Gs) (r : Nat) (W : World) : Prop where
  br : W.heap[r]? = some (.cells part0 58 (0, 0))
  lo : w.heap.size ≤ r
  kt : KT B w W
  bl : Bl B W p G
section
variable {B : Nat} {w : World} {p : Nat} {G : Gs} {r : Nat} {W W' : World}
theorem AcS.go (h : AcS B w p G r W) (hk : KT B W W') {G' : Gs} (hb : Bl B W' p G') : AcS B w p G' r W' :=
  ⟨hk.heap h.br (by decide) (by decide) (by decide), h.lo, h.kt.trans hk, hb⟩
theorem AcS.below (h : AcS B w p G r W) (hb : Below W.heap.size W W') : AcS B w p G r W' := h.go (KT.of hb) (h.bl.below hb)
theorem AcS.put (h : AcS B w p G r W) {q : Nat} {b1 b2 b3 : Value} (hq : W.heap[q]? = some (.cells #[b1, b2, b3] 58 (0, 0))) (hl : w.heap.size ≤ q) (hne : r ≠ q) (x y z : Value) : AcS B w p G r (put3 W q x y z) :=
  ⟨((put3_grown W q x y z).block r (lt_heap h.br) fun e => hne (Option.some.inj e)).trans h.br, h.lo, h.kt.put3 hl x y z, h.bl.kept (put3_grown _ _ _ _ _) fun k hk => by cases hk; exact ⟨_, _, hq, by decide, by decide, by decide, by decide⟩⟩
/-- The answer is written. -/
theorem AcS.fin (h : AcS B w p G r W) {G0 : Gs} {P : Pl} (hG : G = G0.add P) {v : Value} (hv : PtV W v (P.part G0.n)) {a1 n1 c1 a2 n2 c2} (hf : v = .agg #[.slice a1 n1 c1, .slice a2 n2 c2, .bool P.nu]) :
    (put3 W r (.slice a1 n1 c1) (.slice a2 n2 c2) (.bool P.nu)).heap[r]? = some (.cells #[.slice a1 n1 c1, .slice a2 n2 c2, .bool P.nu] 58 (0, 0)) ∧ AddE B w p G0 P (.returned (.agg #[.slice a1 n1 c1, .slice a2 n2 c2, .bool P.nu])) (put3 W r (.slice a1 n1 c1) (.slice a2 n2 c2) (.bool P.nu)) := by
  subst hG hf
  refine ⟨stored3 _ _ _ h.br, _, rfl, hv.kept (put3_grown _ _ _ _ _) fun k hk => by cases hk; exact ⟨_, _, h.br, by decide⟩, h.bl.kept (put3_grown _ _ _ _ _) fun k hk => by cases hk; exact ⟨_, _, h.br, by decide, by decide, by decide, by decide⟩, h.kt.put3 h.lo _ _ _⟩
end
/-- What add is to do with a pattern. -/
def AddC (B p : Nat) (t : Tr) : Prop := ∀ (W : World) (G : Gs), Bl B W p G → B ≤ W.heap.size → Lives W B t → G.n + (plT t).n ≤ 1000 → Calls Try.prog 26 #[.pointer (some ⟨p, 0, none⟩), t.val] W (AddE B W p G (plT t))
end Go.Proofs.Ytbahadgcmaabcaa
/- The builder's addCat. -/
namespace Go.Proofs.Ytbahadgcmaabcaa
open Go.RowKit Go
set_option maxRecDepth 100000 in
set_option maxHeartbeats 4000000 in
theorem addCat_any (B p : Nat) (G : Gs) (a : Option Addr) (n cap : Nat) (kid : Nat → Tr) (w : World) (hbl : Bl B w p G) (hB : B ≤ w.heap.size) (hr : KRow B w a n cap kid) (ih : ∀ i, i < n → AddC B p (kid i)) (hn : G.n + (Pl.catTo (fun i => plT (kid i)) n).n ≤ 1000) :
    Calls Try.prog 38 #[.pointer (some ⟨p, 0, none⟩), .slice a n cap] w (AddE B w p G (Pl.catTo (fun i => plT (kid i)) n)) := by
  have HR := Lib.hid hr
  have HB := Lib.hid hB
  have HIH := Lib.hid ih
  have HN := Lib.hid hn
  have hG := hbl.1
  obtain ⟨hcap, hm, _, _⟩ := hr
  unfold maxLen at hm
  have hb2 := alloc2_below w (.cells part0 58) (.cells #[.slice none 0 0, .slice none 0 0, .bool true] 58)
  have HS0 : Hid (AcS B w p (G.add (Pl.catTo (fun i => plT (kid i)) 0)) w.heap.size ((w.alloc (.cells part0 58)).alloc (.cells #[.slice none 0 0, .slice none 0 0, .bool true] 58))) := Lib.hid ⟨(heap2 _ _ _).1, Nat.le_refl _, KT.of hb2, by rw [show G.add (Pl.catTo (fun i => plT (kid i)) 0) = G from Gs.add_nil hG true]; exact hbl.below hb2⟩
  have HB0 : Hid (PBt ((w.alloc (.cells part0 58)).alloc (.cells #[.slice none 0 0, .slice none 0 0, .bool true] 58)) (w.heap.size + 1) ((Pl.catTo (fun i => plT (kid i)) 0).part G.n)) := Lib.hid ⟨none, 0, 0, none, 0, 0, (heap2 _ _ _).2, pt_nil _ G.n true⟩
  clear hbl hB ih hn hb2 hG
  go_enter Try.func38, Try.ntmps38
  go_wp2_with fail
  obtain ⟨w2, hw2⟩ : ∃ x, x = (w.alloc (.cells part0 58)).alloc (.cells #[.slice none 0 0, .slice none 0 0, .bool true] 58) := ⟨_, rfl⟩
  obtain ⟨q, hq⟩ : ∃ q, q = w.heap.size + 1 := ⟨_, rfl⟩
  have HLO : Hid (w.heap.size ≤ q ∧ w.heap.size ≠ q) := Lib.hid (by omega)
  rw [← hw2] at HS0
  rw [← hw2, ← hq] at HB0
  rw [← hw2, ← hq]
  clear hw2 hq
  go_loopw [11] (fun c wr => ∃ j : Nat, j ≤ n ∧ c = .int .i64 j ∧ Hid (AcS B w p (G.add (Pl.catTo (fun i => plT (kid i)) j)) w.heap.size wr) ∧ Hid (PBt wr q ((Pl.catTo (fun i => plT (kid i)) j).part G.n))) (fun c _ => n - (intOf c).toNat)
  case atStart => exact ⟨0, by omega, rfl, HS0, HB0⟩
  case round =>
    obtain ⟨j, hj, rfl, HS, HT⟩ := hrel
    obtain ⟨P, hP⟩ : ∃ P, P = Pl.catTo (fun i => plT (kid i)) j := ⟨_, rfl⟩
    rw [← hP] at HS HT
    have HP := Lib.hid hP
    have HPO : Hid P.Ok := Lib.hid (by rw [hP]; exact Pl.ok_catTo fun i _ => plT_ok _)
    clear hP
    by_cases hlt : j < n
    · obtain ⟨g, off, rfl, hc, hl⟩ := HR.out.get HS.out.kt HB.out hlt
      have hlt' : (j : Int) < (n : Int) := by omega
      have HL := Lib.hid hl
      obtain ⟨c0, c1, c2, c3, c4, c5, c6, c7⟩ := hc
      obtain ⟨KP, hKP⟩ : ∃ x, x = plT (kid j) := ⟨_, rfl⟩
      have HPJ := Lib.hid (show Pl.catTo (fun i => plT (kid i)) (j + 1) = P.cat KP by rw [HP.out, hKP]; rfl)
      have HKO : Hid KP.Ok := Lib.hid (by rw [hKP]; exact plT_ok _)
      have HN9 := Lib.hid (show G.n + P.n + KP.n ≤ 1000 by have := catTo_le (f := fun i => plT (kid i)) (show j + 1 ≤ n by omega); rw [HPJ.out] at this; have h2 : (P.cat KP).n = P.n + KP.n := rfl; have := HN.out; omega)
      have HIK : Hid (∀ (W : World) (G' : Gs), Bl B W p G' → B ≤ W.heap.size → Lives W B (kid j) → G'.n + KP.n ≤ 1000 → Calls Try.prog 26 #[.pointer (some ⟨p, 0, none⟩), (kid j).val] W (AddE B W p G' KP)) := Lib.hid (by rw [hKP]; exact HIH.out j hlt)
      clear hKP hl
      go_upto_region 5 with fail
      obtain ⟨w1, hw1⟩ : ∃ x, x = wr.alloc (.cells (row8 (kid j).k (kid j).s (kid j).lo (kid j).hi (.slice (kid j).a (kid j).n (kid j).cap)) 27) := ⟨_, rfl⟩
      obtain ⟨r, hr⟩ : ∃ r, r = wr.heap.size := ⟨_, rfl⟩
      have hb1 : Below wr.heap.size wr w1 := by rw [hw1]; exact alloc_below _ _
      have HRB : Hid (w1.heap[r]? = some (.cells (row8 (kid j).k (kid j).s (kid j).lo (kid j).hi (.slice (kid j).a (kid j).n (kid j).cap)) 27 (0, 0))) := Lib.hid (by rw [hw1, hr]; exact heap_alloc_new _ _)
      have HS1 := Lib.hid (HS.out.below hb1)
      have HT1 := Lib.hid (HT.out.kt (KT.of (B := B) hb1))
      have HL1 := Lib.hid (HL.out.below ((KT.of (B := B) hb1).below (Nat.le_trans HB.out HS.out.kt.size)))
      have HB1 := Lib.hid (show B ≤ w1.heap.size from Nat.le_trans (Nat.le_trans HB.out HS.out.kt.size) hb1.size)
      have hrq : q < wr.heap.size := by obtain ⟨_, _, _, _, _, _, h, _⟩ := HT.out; exact lt_heap h
      have HRQ : Hid (r ≠ q) := Lib.hid (by omega)
      rw [← hw1, ← hr]
      clear hw1 hr hb1 hrq c0 c1 c2 c3 c4 c5 c6 c7 HS HT HL
      obtain ⟨a1, n1, c1, a2, n2, c2, hq, hPv⟩ := HT1.out
      have HQ := Lib.hid hq
      have HPV := Lib.hid hPv
      obtain ⟨p0, p1, p2⟩ := cell3 hq
      clear hq hPv
      have HKP : Hid (∀ W, KT B w1 W → W.cell? ⟨r, 0, none⟩ = some (.int .i64 (kid j).k) ∧ W.cell? ⟨r, 1, none⟩ = some (.int .u64 ((kid j).s 0)) ∧ W.cell? ⟨r, 2, none⟩ = some (.int .u64 ((kid j).s 1)) ∧ W.cell? ⟨r, 3, none⟩ = some (.int .u64 ((kid j).s 2)) ∧ W.cell? ⟨r, 4, none⟩ = some (.int .u64 ((kid j).s 3)) ∧ W.cell? ⟨r, 5, none⟩ = some (.int .i64 (kid j).lo) ∧ W.cell? ⟨r, 6, none⟩ = some (.int .i64 (kid j).hi) ∧ W.cell? ⟨r, 7, none⟩ = some (.slice (kid j).a (kid j).n (kid j).cap)) := Lib.hid fun W h => cell8 (h.heap HRB.out (by decide) (by decide) (by decide))
      have HKS : Hid (∀ W, KT B w1 W → ∀ x y z : Value, (put3 W q x y z).cell? ⟨r, 0, none⟩ = some (.int .i64 (kid j).k) ∧ (put3 W q x y z).cell? ⟨r, 1, none⟩ = some (.int .u64 ((kid j).s 0)) ∧ (put3 W q x y z).cell? ⟨r, 2, none⟩ = some (.int .u64 ((kid j).s 1)) ∧ (put3 W q x y z).cell? ⟨r, 3, none⟩ = some (.int .u64 ((kid j).s 2)) ∧ (put3 W q x y z).cell? ⟨r, 4, none⟩ = some (.int .u64 ((kid j).s 3)) ∧ (put3 W q x y z).cell? ⟨r, 5, none⟩ = some (.int .i64 (kid j).lo) ∧ (put3 W q x y z).cell? ⟨r, 6, none⟩ = some (.int .i64 (kid j).hi) ∧ (put3 W q x y z).cell? ⟨r, 7, none⟩ = some (.slice (kid j).a (kid j).n (kid j).cap)) := Lib.hid fun W h x y z => cell8 (((put3_grown W q x y z).block r (lt_heap (h.heap HRB.out (by decide) (by decide) (by decide))) fun e => HRQ.out (Option.some.inj e)).trans (h.heap HRB.out (by decide) (by decide) (by decide)))
      have HD : Hid (Below w1.heap.size w1 w1.drew) := Lib.hid (Below.refl _ _).drew
      have HD9 : Hid (Below B w1 w1.drew) := Lib.hid (Below.refl _ _).drew
      have HB0 : KT B w1 w1.drew := KT.of HD.out
      obtain ⟨x0, x1, x2, x3, x4, x5, x6, x7⟩ := cell8 HRB.out
      go_wp2_with fail
      refine wp_region_held_drew (S := fun w' => w'.cell? ⟨r, 0, none⟩ = some (.int .i64 (kid j).k) ∧ w'.cell? ⟨r, 1, none⟩ = some (.int .u64 ((kid j).s 0)) ∧ w'.cell? ⟨r, 2, none⟩ = some (.int .u64 ((kid j).s 1)) ∧ w'.cell? ⟨r, 3, none⟩ = some (.int .u64 ((kid j).s 2)) ∧ w'.cell? ⟨r, 4, none⟩ = some (.int .u64 ((kid j).s 3)) ∧ w'.cell? ⟨r, 5, none⟩ = some (.int .i64 (kid j).lo) ∧ w'.cell? ⟨r, 6, none⟩ = some (.int .i64 (kid j).hi) ∧ w'.cell? ⟨r, 7, none⟩ = some (.slice (kid j).a (kid j).n (kid j).cap)) (by kernel_rfl) ?_ (fun hHeld => ?_)
      · exact HKP.out _ HB0
      refine wpAnyH_take (i := 0) (oi := { dst := some 15, op := Op.move (Operand.tmp 0), type := 68, pos := "builder.go:49", after := #[], guard := none }) (v := ?_) rfl (by kernel_rfl) (by kernel_rfl) (by kernel_rfl) (fun _ _ _ h => h) (Or.inl ⟨by rfl, ?_⟩) (by assumption) ?_
      rotate_left
      · (intro w hSw; (try dsimp only at hSw); go_simp; try with_reducible rfl)
      try simp only [Act.put, List.setIfInBounds_toArray, List.set_cons_zero, List.set_cons_succ]
      refine wpAnyH_take (i := 2) (oi := { dst := some 17, op := Op.move (Operand.tmp 0), type := 68, pos := "builder.go:49", after := #[], guard := none }) (v := ?_) rfl (by kernel_rfl) (by kernel_rfl) (by kernel_rfl) (fun _ _ _ h => h) (Or.inl ⟨by rfl, ?_⟩) (by assumption) ?_
      rotate_left
      · (intro w hSw; (try dsimp only at hSw); go_simp; try with_reducible rfl)
      try simp only [Act.put, List.setIfInBounds_toArray, List.set_cons_zero, List.set_cons_succ]
      refine wpAnyH_take (i := 3) (oi := { dst := some 18, op := Op.load 27 (Operand.tmp 7), type := 27, pos := "builder.go:49", after := #[], guard := none }) (v := ?_) rfl (by kernel_rfl) (by kernel_rfl) (by kernel_rfl) (fun _ _ _ h => h) (Or.inl ⟨by rfl, ?_⟩) (by assumption) ?_
      rotate_left
      · (intro w hSw; (try dsimp only at hSw); go_simp; try with_reducible rfl)
      try simp only [Act.put, List.setIfInBounds_toArray, List.set_cons_zero, List.set_cons_succ]
      refine wpAnyH_ready (rs := [1, 4]) (by kernel_rfl) (by simp) ?_
      refine AllReadyH.cons (o := { dst := some 16, op := Op.load 58 (Operand.tmp 5), type := 58, pos := "builder.go:49", after := #[], guard := none }) rfl (fun K hK => ?_) (AllReadyH.cons (o := { dst := some 19, op := Op.call { callee := Callee.value (Operand.func 26), args := #[Operand.tmp 17, Operand.tmp 18], argTypes := #[68, 27] }, type := 58, pos := "builder.go:49", after := #[{ on := 2, ground := Ground.data }, { on := 3, ground := Ground.data }], guard := none }) rfl (fun K hK => ?_) AllReadyH.nil)
      · go_simp
        refine hK.out _ _ ?_ (fun hHeld => ?_)
        · exact HKP.out _ HB0
        clear hK K
        try simp only [Act.put, List.setIfInBounds_toArray, List.set_cons_zero, List.set_cons_succ]
        refine wpAnyH_ready (rs := [4]) (by kernel_rfl) (by simp) ?_
        refine AllReadyH.cons (o := { dst := some 19, op := Op.call { callee := Callee.value (Operand.func 26), args := #[Operand.tmp 17, Operand.tmp 18], argTypes := #[68, 27] }, type := 58, pos := "builder.go:49", after := #[{ on := 2, ground := Ground.data }, { on := 3, ground := Ground.data }], guard := none }) rfl (fun K hK => ?_) AllReadyH.nil
        go_simp
        refine (HIK.out w1.drew (G.add P) (HS1.out.bl.below HD.out) HB1.out (HL1.out.below HD9.out) HN9.out).mono ?_
        rintro e w6 ⟨v6, rfl, hP6, hG6, hk6⟩
        obtain ⟨b1, m1, d1, b2, m2, d2, rfl⟩ := hP6.forms
        have HB6 : KT B w1 w6 := (KT.of HD.out).trans hk6
        have HP6 := Lib.hid hP6
        have HG6 := Lib.hid hG6
        clear hP6 hG6 hk6
        go_wp2_with fail
        refine hK.out _ _ ?_ (fun hHeld => ?_)
        · exact HKP.out _ HB6
        clear hK K
        try simp only [Act.put, List.setIfInBounds_toArray, List.set_cons_zero, List.set_cons_succ]
        refine wpAnyH_ready (rs := [5]) (by kernel_rfl) (by simp) ?_
        refine AllReadyH.cons (o := { dst := some 20, op := Op.call { callee := Callee.value (Operand.func 54), args := #[Operand.tmp 15, Operand.tmp 16, Operand.tmp 19], argTypes := #[68, 58, 58] }, type := 58, pos := "builder.go:49", after := #[{ on := 0, ground := Ground.data }, { on := 1, ground := Ground.data }, { on := 4, ground := Ground.data }, { on := 4, ground := Ground.chain }], guard := none }) rfl (fun K hK => ?_) AllReadyH.nil
        go_simp
        refine (joined54_any B p ((G.add P).add KP) (P.part G.n) (KP.part (G.n + P.n)) _ _ w6 HG6.out (by have := HN9.out; exact this) (HPV.out.kt HB6) HP6.out (Pl.part_le HPO.out G.n _ (Nat.le_add_right _ _)) (Pl.part_le HKO.out (G.n + P.n) _ (Nat.le_refl _))).mono ?_
        rintro e w7 ⟨v7, rfl, hP7, hG7, hk7⟩
        rw [Gs.cat_link G HPO.out] at hG7
        rw [Pl.part_cat HPO.out] at hP7
        obtain ⟨e1, k1, f1, e2, k2, f2, rfl⟩ := hP7.forms
        have HB7 : KT B w1 w7 := HB6.trans hk7
        have hq7 := HB7.heap HQ.out (by decide) (by decide) (by decide)
        have HN1 := Lib.hid (PBt.set hq7 hP7)
        have HN2 := Lib.hid ((HS1.out.go HB7 hG7).put hq7 HLO.out.1 HLO.out.2 (.slice e1 k1 f1) (.slice e2 k2 f2) (.bool (P.cat KP).nu))
        have g0 := frozen4 hq7 0
        have g1 := frozen4 hq7 1
        have g2 := frozen4 hq7 2
        obtain ⟨r0, r1, r2⟩ := cell3 hq7
        clear hP7 hG7 hk7 hq7
        go_wp2_with fail
        refine hK.out _ _ ?_ (fun hHeld => ?_)
        · exact HKP.out _ HB7
        clear hK K
        try simp only [Act.put, List.setIfInBounds_toArray, List.set_cons_zero, List.set_cons_succ]
        refine wpAnyH_ready (rs := [6]) (by kernel_rfl) (by simp) ?_
        refine AllReadyH.cons (o := { dst := none, op := Op.store 58 (Operand.tmp 5) (Operand.tmp 20), type := 0, pos := "builder.go:49", after := #[{ on := 5, ground := Ground.data }, { on := 5, ground := Ground.chain }, { on := 0, ground := Ground.phase }, { on := 1, ground := Ground.phase }, { on := 2, ground := Ground.phase }, { on := 3, ground := Ground.phase }, { on := 4, ground := Ground.phase }, { on := 5, ground := Ground.phase }], guard := none }) rfl (fun K hK => ?_) AllReadyH.nil
        go_simp
        refine hK.out _ _ ?_ (fun hHeld => ?_)
        · exact HKS.out _ HB7 _ _ _
        clear hK K
        try simp only [Act.put, List.setIfInBounds_toArray, List.set_cons_zero, List.set_cons_succ]
        refine wpAnyH_done (by kernel_rfl) ?_ _
        go_wp2
        go_roundw
        case rel => exact ⟨j + 1, hlt, by go_num, by rw [HPJ.out]; exact HN2, by rw [HPJ.out]; exact HN1⟩
        case measure => simp [intOf]; omega
      · go_simp
        refine (HIK.out w1.drew (G.add P) (HS1.out.bl.below HD.out) HB1.out (HL1.out.below HD9.out) HN9.out).mono ?_
        rintro e w6 ⟨v6, rfl, hP6, hG6, hk6⟩
        obtain ⟨b1, m1, d1, b2, m2, d2, rfl⟩ := hP6.forms
        have HB6 : KT B w1 w6 := (KT.of HD.out).trans hk6
        have HP6 := Lib.hid hP6
        have HG6 := Lib.hid hG6
        clear hP6 hG6 hk6
        have hq6 := HB6.heap HQ.out (by decide) (by decide) (by decide)
        obtain ⟨q0, q1, q2⟩ := cell3 hq6
        clear hq6
        go_wp2_with fail
        refine hK.out _ _ ?_ (fun hHeld => ?_)
        · exact HKP.out _ HB6
        clear hK K
        try simp only [Act.put, List.setIfInBounds_toArray, List.set_cons_zero, List.set_cons_succ]
        refine wpAnyH_ready (rs := [1]) (by kernel_rfl) (by simp) ?_
        refine AllReadyH.cons (o := { dst := some 16, op := Op.load 58 (Operand.tmp 5), type := 58, pos := "builder.go:49", after := #[], guard := none }) rfl (fun K hK => ?_) AllReadyH.nil
        go_simp
        refine hK.out _ _ ?_ (fun hHeld => ?_)
        · exact HKP.out _ HB6
        clear hK K
        try simp only [Act.put, List.setIfInBounds_toArray, List.set_cons_zero, List.set_cons_succ]
        refine wpAnyH_ready (rs := [5]) (by kernel_rfl) (by simp) ?_
        refine AllReadyH.cons (o := { dst := some 20, op := Op.call { callee := Callee.value (Operand.func 54), args := #[Operand.tmp 15, Operand.tmp 16, Operand.tmp 19], argTypes := #[68, 58, 58] }, type := 58, pos := "builder.go:49", after := #[{ on := 0, ground := Ground.data }, { on := 1, ground := Ground.data }, { on := 4, ground := Ground.data }, { on := 4, ground := Ground.chain }], guard := none }) rfl (fun K hK => ?_) AllReadyH.nil
        go_simp
        refine (joined54_any B p ((G.add P).add KP) (P.part G.n) (KP.part (G.n + P.n)) _ _ w6 HG6.out (by have := HN9.out; exact this) (HPV.out.kt HB6) HP6.out (Pl.part_le HPO.out G.n _ (Nat.le_add_right _ _)) (Pl.part_le HKO.out (G.n + P.n) _ (Nat.le_refl _))).mono ?_
        rintro e w7 ⟨v7, rfl, hP7, hG7, hk7⟩
        rw [Gs.cat_link G HPO.out] at hG7
        rw [Pl.part_cat HPO.out] at hP7
        obtain ⟨e1, k1, f1, e2, k2, f2, rfl⟩ := hP7.forms
        have HB7 : KT B w1 w7 := HB6.trans hk7
        have hq7 := HB7.heap HQ.out (by decide) (by decide) (by decide)
        have HN1 := Lib.hid (PBt.set hq7 hP7)
        have HN2 := Lib.hid ((HS1.out.go HB7 hG7).put hq7 HLO.out.1 HLO.out.2 (.slice e1 k1 f1) (.slice e2 k2 f2) (.bool (P.cat KP).nu))
        have g0 := frozen4 hq7 0
        have g1 := frozen4 hq7 1
        have g2 := frozen4 hq7 2
        obtain ⟨r0, r1, r2⟩ := cell3 hq7
        clear hP7 hG7 hk7 hq7
        go_wp2_with fail
        refine hK.out _ _ ?_ (fun hHeld => ?_)
        · exact HKP.out _ HB7
        clear hK K
        try simp only [Act.put, List.setIfInBounds_toArray, List.set_cons_zero, List.set_cons_succ]
        refine wpAnyH_ready (rs := [6]) (by kernel_rfl) (by simp) ?_
        refine AllReadyH.cons (o := { dst := none, op := Op.store 58 (Operand.tmp 5) (Operand.tmp 20), type := 0, pos := "builder.go:49", after := #[{ on := 5, ground := Ground.data }, { on := 5, ground := Ground.chain }, { on := 0, ground := Ground.phase }, { on := 1, ground := Ground.phase }, { on := 2, ground := Ground.phase }, { on := 3, ground := Ground.phase }, { on := 4, ground := Ground.phase }, { on := 5, ground := Ground.phase }], guard := none }) rfl (fun K hK => ?_) AllReadyH.nil
        go_simp
        refine hK.out _ _ ?_ (fun hHeld => ?_)
        · exact HKS.out _ HB7 _ _ _
        clear hK K
        try simp only [Act.put, List.setIfInBounds_toArray, List.set_cons_zero, List.set_cons_succ]
        refine wpAnyH_done (by kernel_rfl) ?_ _
        go_wp2
        go_roundw
        case rel => exact ⟨j + 1, hlt, by go_num, by rw [HPJ.out]; exact HN2, by rw [HPJ.out]; exact HN1⟩
        case measure => simp [intOf]; omega
    · obtain rfl : n = j := by omega
      obtain ⟨a1, n1, c1, a2, n2, c2, hq, hPv⟩ := HT.out
      obtain ⟨p0, p1, p2⟩ := cell3 hq
      have HF := Lib.hid (HS.out.fin rfl hPv rfl)
      have hbr := HS.out.br
      obtain ⟨l0, l1, l2⟩ := cell3 hbr
      have m0 := frozen4 hbr 0
      have m1 := frozen4 hbr 1
      have m2 := frozen4 hbr 2
      clear hbr hq hPv
      go_wp2
      exact bodyPost_ret (ret3c Try.results38 rfl HF.out.1) rfl (by rw [← HP.out]; exact HF.out.2)
end Go.Proofs.Ytbahadgcmaabcaa
