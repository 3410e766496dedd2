/- What the law PlaceMatch asks with: the places that are read, byte by byte; its rows of numbers; Add's answer as a row of its own. -/
import Derived.Test.YtbahadgcmaabcaaKm
import Derived.Test.YtbahadgcmaabcaaMg
import Derived.Test.YtbahadgcmaabcaaKp
namespace Go.Proofs.Ytbahadgcmaabcaa
open Go.RowKit Go
/-- The places that may read the byte at i, and those that do. -/
def nbB (c : Nat → Int) (P : Pl) : Nat → Nat → Bool
  | 0, r => P.fi r
  | i + 1, r => anyTo (fun q => (nbB c P i q && hasI (P.set q) (c i)) && P.fo q r) P.n
def rdB (c : Nat → Int) (P : Pl) (i q : Nat) : Bool := nbB c P i q && hasI (P.set q) (c i)
/-- What the law comes to of a text of L bytes. -/
def finB (c : Nat → Int) (P : Pl) (L : Nat) : Bool := if L = 0 then P.nu else anyTo (fun q => rdB c P (L - 1) q && P.la q) P.n
theorem RnP.up {c : Nat → Int} {L : Nat} {P : Pl} {i q k : Nat} (h : RnP c L P i q k) : i < k := by
  induction h with
  | first => exact Nat.lt_succ_self _
  | next _ _ _ _ ih => omega
theorem nbB_lt {c : Nat → Int} {P : Pl} (hP : P.Ok) : ∀ {i r : Nat}, nbB c P i r = true → r < P.n
  | 0, r, h => Decidable.byContradiction fun hn => by
    have h' : P.fi r = true := h
    rw [hP.fi r (by omega)] at h'; cases h'
  | i + 1, r, h => by
    obtain ⟨q, _, h⟩ := anyTo_iff.1 h
    simp only [Bool.and_eq_true] at h
    exact Decidable.byContradiction fun hn => by rw [hP.fo q r (Or.inr (by omega))] at h; cases h.2
theorem rn_iff {c : Nat → Int} {L : Nat} {P : Pl} (hP : P.Ok) : ∀ i q : Nat, RnP c L P 0 q (i + 1) ↔ i < L ∧ rdB c P i q = true
  | 0, q => by
    constructor
    · intro h
      generalize hk : 0 + 1 = k at h
      cases h with
      | first h hi hs => exact ⟨hi, by unfold rdB; rw [show nbB c P 0 q = P.fi q from rfl, h, hs]; rfl⟩
      | next h _ _ _ => have := h.up; omega
    · rintro ⟨hi, h⟩
      unfold rdB at h
      simp only [Bool.and_eq_true] at h
      exact .first h.1 hi h.2
  | i + 1, q => by
    constructor
    · intro h
      generalize hk : i + 1 + 1 = k at h
      cases h with
      | first _ _ _ => omega
      | @next q' _ k' h hf hk' hs =>
        obtain rfl : k' = i + 1 := by omega
        have h2 := (rn_iff hP i q').1 h
        refine ⟨hk', ?_⟩
        unfold rdB
        have hq' : q' < P.n := h.lt hP
        rw [show nbB c P (i + 1) q = true from anyTo_iff.2 ⟨q', hq', by rw [show (nbB c P i q' && hasI (P.set q') (c i)) = true from h2.2, hf]; rfl⟩, hs]
        rfl
    · rintro ⟨hi, h⟩
      unfold rdB at h
      simp only [Bool.and_eq_true] at h
      obtain ⟨q', _, h'⟩ := anyTo_iff.1 h.1
      simp only [Bool.and_eq_true] at h'
      exact .next ((rn_iff hP i q').2 ⟨by omega, by unfold rdB; simp only [Bool.and_eq_true]; exact h'.1⟩) h'.2 hi h.2
theorem fin_iff {c : Nat → Int} {L : Nat} {P : Pl} (hP : P.Ok) : finB c P L = true ↔ ac c L P 0 L := by
  unfold finB
  by_cases h0 : L = 0
  · rw [if_pos h0]
    constructor
    · exact fun h => Or.inl ⟨h0.symm, h⟩
    · rintro (⟨_, h⟩ | ⟨q, h, _⟩)
      · exact h
      · have := h.up; omega
  · rw [if_neg h0]
    constructor
    · intro h
      obtain ⟨q, _, h⟩ := anyTo_iff.1 h
      simp only [Bool.and_eq_true] at h
      have := (rn_iff (L := L) hP (L - 1) q).2 ⟨by omega, h.1⟩
      rw [show L - 1 + 1 = L by omega] at this
      exact Or.inr ⟨q, this, h.2⟩
    · rintro (⟨h, _⟩ | ⟨q, h, hl⟩)
      · omega
      · have h' := h
        rw [show L = L - 1 + 1 by omega] at h'
        have := (rn_iff (L := L - 1 + 1) hP (L - 1) q).1 h'
        exact anyTo_iff.2 ⟨q, h.lt hP, by simp only [Bool.and_eq_true]; exact ⟨this.2, hl⟩⟩
/-- The law's round: of the first k places that may read, those that do, and what follows these. -/
def nwL (c : Nat → Int) (P : Pl) (i : Nat) (l : List Int) : List Int := l.filter fun x => hasI (P.set x.toNat) (c i)
def thB (c : Nat → Int) (P : Pl) (i : Nat) (l : List Int) (r : Nat) : Bool := l.any fun x => hasI (P.set x.toNat) (c i) && P.fo x.toNat r
theorem th_all {c : Nat → Int} {P : Pl} {i : Nat} {l : List Int} (hP : P.Ok) (h : IsL l (nbB c P i)) (r : Nat) : thB c P i l r = nbB c P (i + 1) r := by
  rw [Bool.eq_iff_iff]
  unfold thB
  rw [List.any_eq_true]
  constructor
  · rintro ⟨x, hx, h1⟩
    obtain ⟨q, rfl, hq⟩ := (h.2 x).1 hx
    simp only [Bool.and_eq_true, Int.toNat_natCast] at h1
    exact anyTo_iff.2 ⟨q, nbB_lt hP hq, by simp only [Bool.and_eq_true]; exact ⟨⟨hq, h1.1⟩, h1.2⟩⟩
  · intro h1
    obtain ⟨q, _, h2⟩ := anyTo_iff.1 h1
    simp only [Bool.and_eq_true] at h2
    exact ⟨q, (h.2 q).2 ⟨q, rfl, h2.1.1⟩, by simp only [Bool.and_eq_true, Int.toNat_natCast]; exact ⟨h2.1.2, h2.2⟩⟩
theorem nw_mem {c : Nat → Int} {P : Pl} {i : Nat} {l : List Int} (h : IsL l (nbB c P i)) (x : Int) : x ∈ nwL c P i l ↔ ∃ q : Nat, x = q ∧ rdB c P i q = true := by
  unfold nwL rdB
  rw [List.mem_filter]
  constructor
  · rintro ⟨hx, h1⟩
    obtain ⟨q, rfl, hq⟩ := (h.2 x).1 hx
    exact ⟨q, rfl, by simp only [Bool.and_eq_true]; exact ⟨hq, by simpa using h1⟩⟩
  · rintro ⟨q, rfl, h1⟩
    simp only [Bool.and_eq_true] at h1
    exact ⟨(h.2 q).2 ⟨q, rfl, h1.1⟩, by simpa using h1.2⟩
/-- Is one of the places a last one? -/
theorem fin_nw {c : Nat → Int} {P : Pl} {i : Nat} {l ll : List Int} (hP : P.Ok) (h : IsL l (nbB c P i)) (hl : IsL ll P.la) : ((nwL c P i l).any fun x => ll.any fun y => decide (y = x)) = finB c P (i + 1) := by
  rw [Bool.eq_iff_iff, List.any_eq_true]
  unfold finB
  rw [if_neg (by omega)]
  constructor
  · rintro ⟨x, hx, h1⟩
    obtain ⟨q, rfl, hq⟩ := (nw_mem h x).1 hx
    obtain ⟨y, hy, h2⟩ := List.any_eq_true.1 h1
    have e : y = q := of_decide_eq_true h2
    subst e
    obtain ⟨r, hr, hla⟩ := (hl.2 _).1 hy
    obtain rfl : q = r := by omega
    have hn : q < P.n := Decidable.byContradiction fun hn => by rw [hP.la q (by omega)] at hla; cases hla
    exact anyTo_iff.2 ⟨q, hn, by simp only [Bool.and_eq_true]; exact ⟨hq, hla⟩⟩
  · intro h1
    obtain ⟨q, _, h2⟩ := anyTo_iff.1 h1
    simp only [Bool.and_eq_true] at h2
    exact ⟨q, (nw_mem h q).2 ⟨q, rfl, h2.1⟩, List.any_eq_true.2 ⟨q, (hl.2 q).2 ⟨q, rfl, h2.2⟩, decide_eq_true rfl⟩⟩
theorem nw_take_yes {c : Nat → Int} {P : Pl} {i k : Nat} {l : List Int} (hk : k < l.length) (h : hasI (P.set (l.getD k 0).toNat) (c i) = true) : nwL c P i (l.take (k + 1)) = nwL c P i (l.take k) ++ [l.getD k 0] := by
  unfold nwL; rw [take_next hk, List.filter_append]; generalize l.getD k 0 = x at h ⊢; congr 1; simp [h]
theorem nw_take_no {c : Nat → Int} {P : Pl} {i k : Nat} {l : List Int} (hk : k < l.length) (h : hasI (P.set (l.getD k 0).toNat) (c i) = false) : nwL c P i (l.take (k + 1)) = nwL c P i (l.take k) := by
  unfold nwL; rw [take_next hk, List.filter_append]; generalize l.getD k 0 = x at h ⊢; simp [h]
theorem th_take_yes {c : Nat → Int} {P : Pl} {i k : Nat} {l : List Int} (hk : k < l.length) (h : hasI (P.set (l.getD k 0).toNat) (c i) = true) (r : Nat) : thB c P i (l.take (k + 1)) r = (thB c P i (l.take k) r || P.fo (l.getD k 0).toNat r) := by
  unfold thB; rw [take_next hk, List.any_append]; generalize l.getD k 0 = x at h ⊢; simp [h]
theorem th_take_no {c : Nat → Int} {P : Pl} {i k : Nat} {l : List Int} (hk : k < l.length) (h : hasI (P.set (l.getD k 0).toNat) (c i) = false) (r : Nat) : thB c P i (l.take (k + 1)) r = thB c P i (l.take k) r := by
  unfold thB; rw [take_next hk, List.any_append]; generalize l.getD k 0 = x at h ⊢; simp [h]
theorem own_below {w w' : World} {B e size n : Nat} {v : Value} {xs : List Value} (h : w.ownsRow B e size v n xs) (hb : Below w.heap.size w w') : w'.ownsRow B e size v n xs :=
  h.kept (grown_of_below hb none) (by cases hv : v.ownBlock <;> simp)
theorem own_lt {w : World} {B e size n : Nat} {v : Value} {xs : List Value} (h : w.ownsRow B e size v n xs) : ∀ k, v.ownBlock = some k → k < w.heap.size := fun k hk => by
  obtain ⟨_, cs, hcs⟩ := own_type h k hk
  exact lt_heap hcs
theorem il_off {w w' : World} {v : Value} {l : List Int} {row : Option Nat} (h : IL w v l) (hg : w.grownBy w' row) (hne : 0 < l.length → ∀ b, v.ownBlock = some b → row ≠ some b) : IL w' v l := by
  obtain ⟨a, cap, hv, h1, h2, h0, h3⟩ := h
  refine ⟨a, cap, hv, h1, h2, h0, fun hp => ?_⟩
  obtain ⟨g, off, cs, f, ha, hg', hc⟩ := h3 hp
  have hb := hg.block g (lt_heap hg') fun e => hne hp g (by rw [hv, ha]; rfl) e.symm
  exact ⟨g, off, cs, f, ha, hb.trans hg', fun i hi => (World.cell?_of_block (a := ⟨g, off + i, none⟩) hb).trans (hc i hi)⟩
/-- While the law looks at the places that may read a byte. -/
structure TwI (win : World) (vn vt : Value) (nw lt : List Int) (wq : World) : Prop where
  own : wq.ownsRow win.heap.size 3 1 vn nw.length (nw.map (Value.int .i64))
  il : IL wq vt lt
  ap : 0 < lt.length → ∀ b, vt.ownBlock = some b → vn.ownBlock ≠ some b
  bel : Below win.heap.size win wq
theorem TwI.start (w : World) : TwI w (.slice none 0 0) (.slice none 0 0) [] [] w :=
  ⟨World.ownsRow_nil _ _ _ _, il_nil w, fun h => absurd h (Nat.lt_irrefl 0), Below.refl _ _⟩
theorem TwI.below {win : World} {vn vt : Value} {nw lt : List Int} {wq w1 : World} (h : TwI win vn vt nw lt wq) (hb : Below wq.heap.size wq w1) : TwI win vn vt nw lt w1 :=
  ⟨own_below h.own hb, h.il.below hb, h.ap, h.bel.trans (hb.mono h.bel.size)⟩
theorem TwI.app {win : World} {vn vt : Value} {nw lt : List Int} {wq wa w1 : World} (h : TwI win vn vt nw lt wq) (ha : Below wq.heap.size wq wa) {x : Int} {g cap : Nat} (hg : wa.grownBy w1 vn.ownBlock) (hown : w1.ownsRow win.heap.size 3 1 (.slice (some ⟨g, 0, none⟩) (nw.length + 1) cap) (nw.length + 1) (nw.map (Value.int .i64) ++ [.int .i64 x])) (hat : vn.ownBlock = some g ∨ g = wa.heap.size) : TwI win (.slice (some ⟨g, 0, none⟩) (nw.length + 1) cap) vt (nw ++ [x]) lt w1 := by
  have h' := h.below ha
  refine ⟨by simpa using hown, il_off h'.il hg fun hp b hb e => h'.ap hp b hb e, fun hp b hb e => ?_, h'.bel.trans (grown_below h'.own h'.bel.size hg)⟩
  have eg : g = b := Option.some.inj e
  subst eg
  rcases hat with hat | hat
  · exact h'.ap hp g hb hat
  · obtain ⟨a, c, hv, _, _, _, h3⟩ := h'.il
    obtain ⟨g', off, cs, f, e1, e2, _⟩ := h3 hp
    rw [hv, e1] at hb
    have : g' = g := Option.some.inj hb
    have := lt_heap e2
    omega
/-- What Add comes to, in a row of its own. -/
def GivesO (w : World) (l : List Int) (e : Ending) (w' : World) : Prop := ∃ v, e = .returned v ∧ w'.ownsRow w.heap.size 3 1 v l.length (l.map (Value.int .i64)) ∧ Below w.heap.size w w'
theorem TwI.add {win : World} {vn vt v2 : Value} {nw lt l2 : List Int} {wq w2 : World} (h : TwI win vn vt nw lt wq) (hown : w2.ownsRow wq.heap.size 3 1 v2 l2.length (l2.map (Value.int .i64))) (hb : Below wq.heap.size wq w2) : TwI win vn v2 nw l2 w2 :=
  ⟨own_below h.own hb, il_row hown, fun _ b h2 e => by
    have h3 := own_ge hown b h2
    have h4 := own_lt h.own b e
    omega, h.bel.trans (hb.mono h.bel.size)⟩
theorem AdI.fin2 {w : World} {r l m : List Int} {i k : Nat} {o : List Int} {v : Value} {wr : World} (h : AdI w r l m i k o v wr) (hi : i = l.length) (hk : k = m.length) : GivesO w r (.returned v) wr :=
  ⟨v, rfl, by
    have : r = o := by rw [h.eq, List.drop_eq_nil_of_le (by omega), List.drop_eq_nil_of_le (by omega)]; simp [mrg]
    rw [this]; exact h.own, h.bel⟩
set_option maxRecDepth 100000 in
set_option maxHeartbeats 8000000 in
theorem add_own9 (l m : List Int) (va vb : Value) (w : World) (hla : IL w va l) (hlb : IL w vb m) (hl : l.Pairwise (· < ·)) (hK : l.length + m.length ≤ 5000) :
    Calls Try.prog 17 #[va, vb] w (GivesO w (mrg l m)) := by
  obtain ⟨i0, hi0, hz0, hz1, hz2⟩ := info_parts info3c
  have HA := Lib.hid hla
  have HB := Lib.hid hlb
  have HL := Lib.hid hl
  obtain ⟨r, hr⟩ : ∃ r, r = mrg l m := ⟨_, rfl⟩
  rw [← hr]
  have HST : Hid (AdI w r l m 0 0 [] (.slice none 0 0) w) := Lib.hid ⟨Nat.zero_le _, Nat.zero_le _, World.ownsRow_nil _ _ _ _, Below.refl _ _, by rw [hr]; rfl, by simp⟩
  obtain ⟨aa, ca, rfl, a1, a2, _⟩ := hla
  obtain ⟨ab, cb, rfl, b1, b2, _⟩ := hlb
  obtain ⟨na, hna⟩ : ∃ na, na = l.length := ⟨_, rfl⟩
  obtain ⟨nb, hnb⟩ : ∃ nb, nb = m.length := ⟨_, rfl⟩
  have HNA := Lib.hid hna
  have HNB := Lib.hid hnb
  rw [← hna] at a1 hK ⊢
  rw [← hnb] at b1 hK ⊢
  clear hr hl hna hnb
  go_enter Try.func17, Try.ntmps17
  go_wp2
  go_loopw [5, 6, 7] (fun v x y wr => ∃ i k : Nat, ∃ o : List Int, x = .int .i64 i ∧ y = .int .i64 k ∧ i ≤ na ∧ k ≤ nb ∧ Hid (AdI w r l m i k o v wr)) (fun _ x y _ => (na - (intOf x).toNat) + (nb - (intOf y).toNat))
  case atStart => exact ⟨0, 0, [], rfl, rfl, by omega, by omega, HST⟩
  case round =>
    obtain ⟨i, k, o, rfl, rfl, hi, hk, HI⟩ := hrel
    have hlen := HI.out.len
    obtain ⟨av, cv, rfl⟩ := row_slice HI.out.own
    have hb := HI.out.bel
    have HOW := Lib.hid HI.out.own
    have HSZ := Lib.hid hb.size
    obtain ⟨u, hu⟩ : ∃ u, u = o.length := ⟨_, rfl⟩
    rw [← hu] at hlen HOW ⊢
    by_cases hin : i < na
    · obtain ⟨ga, fa, ca', he, _, _, cx⟩ := il_cells HA.out hb (show i < l.length by rw [← HNA.out]; exact hin)
      injection he with he1 _ he3
      subst he1 he3
      obtain ⟨x, hx⟩ : ∃ x, x = l.getD i 0 := ⟨_, rfl⟩
      rw [← hx] at cx
      have hin' : (i : Int) < (na : Int) := by omega
      have hin2 : decide (i < na) = true := decide_eq_true hin
      have hin3 : ((i : Int) == (na : Int)) = false := by simp; omega
      by_cases hkn : k < nb
      · obtain ⟨gb, fb, cb', he, _, _, cy⟩ := il_cells HB.out hb (show k < m.length by rw [← HNB.out]; exact hkn)
        injection he with he1 _ he3
        subst he1 he3
        obtain ⟨y, hy⟩ : ∃ y, y = m.getD k 0 := ⟨_, rfl⟩
        rw [← hy] at cy
        have hkn' : (k : Int) < (nb : Int) := by omega
        have hkn2 : decide (k < nb) = true := decide_eq_true hkn
        have hkn3 : ((k : Int) == (nb : Int)) = false := by simp; omega
        rcases Int.lt_trichotomy x y with hxy | hxy | hxy
        · have d1 : decide (x < y) = true := decide_eq_true hxy
          have HN : Hid (∀ v' w1, wr.grownBy w1 (Value.slice av u cv).ownBlock → w1.ownsRow w.heap.size 3 1 v' (u + 1) (o.map (Value.int .i64) ++ [.int .i64 x]) → ∃ o', AdI w r l m (i + 1) k o' v' w1) := Lib.hid (by
            rw [hx, hu]; exact fun v' w1 h1 h2 => HI.out.stepA (by rw [← HNA.out]; exact hin) (Or.inr ⟨by rw [← HNB.out]; exact hkn, by rw [← hx, ← hy]; exact hxy⟩) h1 h2)
          clear hb HI hu hx hy
          go_wp2_with fail
          go_quiet (fail)
          go_wp2_with (at_builtin; refine wpList_append_own _ rfl _ _ 37 rfl w.heap.size 3 i0 (.int .i64 0) 1 8 Try.underlying37 hi0 hz0 hz1 hz2 rfl (by decide) _ _ _ rfl (World.ownsRow.alloc (w := wr.drewN _) HOW.out _) ⟨wr.heap.size, 0, none⟩ 1 1 [.int .i64 x] rfl rfl (cell_one_new _ _ _) (by simp [Value.oneCell']) (by unfold maxLen; omega) (by omega) (by have := HSZ.out; simp; omega) ?_; intro v1 w1 hown1 hgr1 _; obtain ⟨o', HI1⟩ := HN.out v1 w1 (grownBy_trans (grownBy_trans (grownBy_drewN wr _ _) (World.grownBy_alloc _ _ _)) hgr1) hown1; clear hown1 hgr1)
          go_roundw
          case rel => exact ⟨(i + 1), k, o', by go_num, by go_num, by omega, by omega, Lib.hid HI1⟩
          case measure => simp [intOf]; omega
        · have d1 : decide (x < y) = false := decide_eq_false (by omega)
          have d2 : decide (y < x) = false := decide_eq_false (by omega)
          have HN : Hid (∀ v' w1, wr.grownBy w1 (Value.slice av u cv).ownBlock → w1.ownsRow w.heap.size 3 1 v' (u + 1) (o.map (Value.int .i64) ++ [.int .i64 x]) → ∃ o', AdI w r l m (i + 1) (k + 1) o' v' w1) := Lib.hid (by
            rw [hx, hu]; exact fun v' w1 h1 h2 => HI.out.stepC HL.out (by rw [← HNA.out]; exact hin) (by rw [← HNB.out]; exact hkn) (by rw [← hx, ← hy]; exact hxy) h1 h2)
          obtain rfl : x = y := hxy
          clear hb HI hu hx hy
          go_wp2_with fail
          go_quiet (fail)
          go_wp2_with fail
          go_quiet (fail)
          go_wp2_with (at_builtin; refine wpList_append_own _ rfl _ _ 37 rfl w.heap.size 3 i0 (.int .i64 0) 1 8 Try.underlying37 hi0 hz0 hz1 hz2 rfl (by decide) _ _ _ rfl (World.ownsRow.alloc (w := wr.drewN _) HOW.out _) ⟨wr.heap.size, 0, none⟩ 1 1 [.int .i64 x] rfl rfl (cell_one_new _ _ _) (by simp [Value.oneCell']) (by unfold maxLen; omega) (by omega) (by have := HSZ.out; simp; omega) ?_; intro v1 w1 hown1 hgr1 _; obtain ⟨o', HI1⟩ := HN.out v1 w1 (grownBy_trans (grownBy_trans (grownBy_drewN wr _ _) (World.grownBy_alloc _ _ _)) hgr1) hown1; clear hown1 hgr1)
          go_roundw
          case rel => exact ⟨(i + 1), (k + 1), o', by go_num, by go_num, by omega, by omega, Lib.hid HI1⟩
          case measure => simp [intOf]; omega
        · have d1 : decide (x < y) = false := decide_eq_false (by omega)
          have d2 : decide (y < x) = true := decide_eq_true hxy
          have HN : Hid (∀ v' w1, wr.grownBy w1 (Value.slice av u cv).ownBlock → w1.ownsRow w.heap.size 3 1 v' (u + 1) (o.map (Value.int .i64) ++ [.int .i64 y]) → ∃ o', AdI w r l m i (k + 1) o' v' w1) := Lib.hid (by
            rw [hy, hu]; exact fun v' w1 h1 h2 => HI.out.stepB (by rw [← HNB.out]; exact hkn) (Or.inr ⟨by rw [← HNA.out]; exact hin, by rw [← hx, ← hy]; exact hxy⟩) h1 h2)
          clear hb HI hu hx hy
          go_wp2_with fail
          go_quiet (fail)
          go_wp2_with fail
          go_quiet (fail)
          go_wp2_with (at_builtin; refine wpList_append_own _ rfl _ _ 37 rfl w.heap.size 3 i0 (.int .i64 0) 1 8 Try.underlying37 hi0 hz0 hz1 hz2 rfl (by decide) _ _ _ rfl (World.ownsRow.alloc (w := wr.drewN _) HOW.out _) ⟨wr.heap.size, 0, none⟩ 1 1 [.int .i64 y] rfl rfl (cell_one_new _ _ _) (by simp [Value.oneCell']) (by unfold maxLen; omega) (by omega) (by have := HSZ.out; simp; omega) ?_; intro v1 w1 hown1 hgr1 _; obtain ⟨o', HI1⟩ := HN.out v1 w1 (grownBy_trans (grownBy_trans (grownBy_drewN wr _ _) (World.grownBy_alloc _ _ _)) hgr1) hown1; clear hown1 hgr1)
          go_roundw
          case rel => exact ⟨i, (k + 1), o', by go_num, by go_num, by omega, by omega, Lib.hid HI1⟩
          case measure => simp [intOf]; omega
      · obtain rfl : nb = k := by omega
        have HN : Hid (∀ v' w1, wr.grownBy w1 (Value.slice av u cv).ownBlock → w1.ownsRow w.heap.size 3 1 v' (u + 1) (o.map (Value.int .i64) ++ [.int .i64 x]) → ∃ o', AdI w r l m (i + 1) nb o' v' w1) := Lib.hid (by
          rw [hx, hu]; exact fun v' w1 h1 h2 => HI.out.stepA (by rw [← HNA.out]; exact hin) (Or.inl HNB.out) h1 h2)
        clear hb HI hu hx
        go_wp2_with fail
        go_quiet (fail)
        go_wp2_with (at_builtin; refine wpList_append_own _ rfl _ _ 37 rfl w.heap.size 3 i0 (.int .i64 0) 1 8 Try.underlying37 hi0 hz0 hz1 hz2 rfl (by decide) _ _ _ rfl (World.ownsRow.alloc (w := wr.drewN _) HOW.out _) ⟨wr.heap.size, 0, none⟩ 1 1 [.int .i64 x] rfl rfl (cell_one_new _ _ _) (by simp [Value.oneCell']) (by unfold maxLen; omega) (by omega) (by have := HSZ.out; simp; omega) ?_; intro v1 w1 hown1 hgr1 _; obtain ⟨o', HI1⟩ := HN.out v1 w1 (grownBy_trans (grownBy_trans (grownBy_drewN wr _ _) (World.grownBy_alloc _ _ _)) hgr1) hown1; clear hown1 hgr1)
        go_roundw
        case rel => exact ⟨(i + 1), nb, o', by go_num, by go_num, by omega, by omega, Lib.hid HI1⟩
        case measure => simp [intOf]; omega
    · obtain rfl : na = i := by omega
      by_cases hkn : k < nb
      · obtain ⟨gb, fb, cb', he, _, _, cy⟩ := il_cells HB.out hb (show k < m.length by rw [← HNB.out]; exact hkn)
        injection he with he1 _ he3
        subst he1 he3
        obtain ⟨y, hy⟩ : ∃ y, y = m.getD k 0 := ⟨_, rfl⟩
        rw [← hy] at cy
        have hkn' : (k : Int) < (nb : Int) := by omega
        have hkn2 : decide (k < nb) = true := decide_eq_true hkn
        have hkn3 : ((k : Int) == (nb : Int)) = false := by simp; omega
        have HN : Hid (∀ v' w1, wr.grownBy w1 (Value.slice av u cv).ownBlock → w1.ownsRow w.heap.size 3 1 v' (u + 1) (o.map (Value.int .i64) ++ [.int .i64 y]) → ∃ o', AdI w r l m na (k + 1) o' v' w1) := Lib.hid (by
          rw [hy, hu]; exact fun v' w1 h1 h2 => HI.out.stepB (by rw [← HNB.out]; exact hkn) (Or.inl HNA.out) h1 h2)
        clear hb HI hu hy
        go_wp2_with fail
        go_quiet (fail)
        go_wp2_with fail
        go_quiet (fail)
        go_wp2_with (at_builtin; refine wpList_append_own _ rfl _ _ 37 rfl w.heap.size 3 i0 (.int .i64 0) 1 8 Try.underlying37 hi0 hz0 hz1 hz2 rfl (by decide) _ _ _ rfl (World.ownsRow.alloc (w := wr.drewN _) HOW.out _) ⟨wr.heap.size, 0, none⟩ 1 1 [.int .i64 y] rfl rfl (cell_one_new _ _ _) (by simp [Value.oneCell']) (by unfold maxLen; omega) (by omega) (by have := HSZ.out; simp; omega) ?_; intro v1 w1 hown1 hgr1 _; obtain ⟨o', HI1⟩ := HN.out v1 w1 (grownBy_trans (grownBy_trans (grownBy_drewN wr _ _) (World.grownBy_alloc _ _ _)) hgr1) hown1; clear hown1 hgr1)
        go_roundw
        case rel => exact ⟨na, (k + 1), o', by go_num, by go_num, by omega, by omega, Lib.hid HI1⟩
        case measure => simp [intOf]; omega
      · obtain rfl : nb = k := by omega
        have HR := Lib.hid (HI.out.fin2 HNA.out HNB.out)
        rw [← hu] at HR
        clear hb HI hu
        go_wp2
        go_ret
        exact HR.out
end Go.Proofs.Ytbahadgcmaabcaa
