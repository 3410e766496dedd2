/- The law PlaceSize: an append of rows, what a pattern's places say of the empty text, the walk. -/
import Derived.Test.YtbahadgcmaabcaaKm
import Derived.Test.YtbahadgcmaabcaaMg
import Derived.Test.YtbahadgcmaabcaaBc
import Derived.Test.YtbahadgcmaabcaaFb
namespace Go.Proofs.Ytbahadgcmaabcaa
open Go.RowKit Go
theorem allTo_nu {f : Nat → Pl} : ∀ n, (Pl.catTo f n).nu = allTo (fun i => (f i).nu) n
  | 0 => rfl
  | n + 1 => by show ((Pl.catTo f n).nu && (f n).nu) = _; rw [allTo_nu n]; rfl
theorem anyTo_nu {f : Nat → Pl} : ∀ n, (Pl.altTo f n).nu = anyTo (fun i => (f i).nu) n
  | 0 => rfl
  | n + 1 => by show ((Pl.altTo f n).nu || (f n).nu) = _; rw [anyTo_nu n]; rfl
theorem allTo_congr9 {p q : Nat → Bool} : ∀ {n : Nat}, (∀ i, i < n → p i = q i) → allTo p n = allTo q n
  | 0, _ => rfl
  | n + 1, h => by rw [allTo, allTo, allTo_congr9 (n := n) fun i hi => h i (by omega), h n (by omega)]
theorem anyTo_congr9 {p q : Nat → Bool} : ∀ {n : Nat}, (∀ i, i < n → p i = q i) → anyTo p n = anyTo q n
  | 0, _ => rfl
  | n + 1, h => by rw [anyTo, anyTo, anyTo_congr9 (n := n) fun i hi => h i (by omega), h n (by omega)]
theorem pows_nu (x : Pl) : ∀ n, (x.pows n).nu = (decide (n = 0) || x.nu)
  | 0 => rfl
  | n + 1 => by
    show ((x.pows n).nu && x.nu) = _
    rw [pows_nu x n, decide_eq_false (by omega : ¬ n + 1 = 0)]
    cases decide (n = 0) <;> cases x.nu <;> rfl
theorem opts_nu (x : Pl) : ∀ n, (x.opts n).nu = true
  | 0 => rfl
  | _n + 1 => Bool.or_true _
theorem rep_nu {x : Pl} {lo hi : Int} (h : countsB lo hi = true) : (x.rep lo hi).nu = (decide (lo = 0) || x.nu) := by
  simp only [countsB, Bool.and_eq_true, Bool.or_eq_true, decide_eq_true_eq] at h
  unfold Pl.rep
  split
  · show ((x.pows _).nu && (x.nu || decide (lo = 0))) = _
    rw [pows_nu]
    by_cases h0 : lo = 0
    · rw [decide_eq_true h0, decide_eq_true (by omega : (lo - 1).toNat = 0)]; simp
    · rw [decide_eq_false h0]; cases x.nu <;> simp
  · show ((x.pows _).nu && (x.opts _).nu) = _
    rw [pows_nu, opts_nu, Bool.and_true]
    congr 1
    exact decide_eq_decide.2 (by omega)
/-- A pattern's places match the empty text just if the pattern does. -/
theorem plT_nu : ∀ t : Tr, fitT t = true → (plT t).nu = nullT t
  | .node k s lo hi a n cap kid, h => by
    have hf := fitT_fits h
    have hk := fun i hi => plT_nu (kid i) (fitT_kid h (i := i) hi)
    have hc := fits_cases hf
    have hct := fits_counts hf
    simp only [Tr.k, Tr.n, Tr.lo, Tr.hi] at hc hct
    unfold nullT
    rcases hc with ⟨h1, h2⟩ | ⟨h1, h2⟩ | ⟨h1 | h1, h2⟩ | ⟨h1, h2, _⟩
    · rw [plT_1 (t := .node k s lo hi a n cap kid) h1, if_pos h1]; rfl
    · rw [plT_2 (t := .node k s lo hi a n cap kid) h1, if_neg (by omega), if_neg (by omega), if_neg (by omega), if_neg (by omega)]; rfl
    · rw [plT_3 (t := .node k s lo hi a n cap kid) h1, if_neg (by omega), if_neg (by omega), if_neg (by omega), if_pos h1, allTo_nu]
      exact allTo_congr9 hk
    · rw [plT_4 (t := .node k s lo hi a n cap kid) h1, if_neg (by omega), if_pos h1, anyTo_nu]
      exact anyTo_congr9 hk
    · rw [plT_5 (t := .node k s lo hi a n cap kid) h1, if_neg (by omega), if_neg (by omega), if_pos h1]
      show ((plT (kid 0)).rep lo hi).nu = _
      rw [rep_nu (hct h1).1]
      subst h2
      rw [hk 0 (show 0 < 1 by omega)]
      simp [allTo]
  | .nul, h => by cases h
/-- 'append' of some lists to a row of the call's own. -/
theorem wpList_append_rl {w : World} {ops : Array Oper} {rest : List Oper} {o : Oper} {a : Act} {Q : Exit → Act → World → Prop} (hgd : o.guard = none) (s x : Operand)
    (ho : o.op = .call { callee := .builtin .append, args := #[s, x], argTypes := #[38, 38] }) (base : Nat) (v u : Value) (n m : Nat) (xs : List Value) (us : Nat → Value) (hs : a.eval s = v) (hown : w.ownsRow base 37 1 v n xs) (hx : a.eval x = u) (hu : RL w u us m)
    (h1c : ∀ i, i < m → (us i).oneCell' = true) (hlen : n + m ≤ 100000) (hbase : base ≤ w.heap.size)
    (h : ∀ v' w', w'.ownsRow base 37 1 v' (n + m) (xs ++ rowV us m) → w.grownBy w' v.ownBlock → wpList Try.prog ops Q rest (a.put o.dst v') w') : wpList Try.prog ops Q (o :: rest) a w := by
  obtain ⟨i0, hi, hz0, hz1, hz2⟩ := info_parts info37
  obtain ⟨ad, cap, rfl, h1, h2, h0, h3⟩ := hu
  cases ad with
  | none =>
    obtain rfl := h0 rfl
    obtain rfl : m = 0 := by omega
    refine wpList_plain hgd fun K hK => ?_
    have hrun := run_append_owned_none (P := Try.prog) w base 38 o.type 37 i0 1 Try.underlying38 hi v _ _ hown
    unfold Oper.wp execOp
    simp only [ho, resolve, invoke, builtin, Sem.run_bind, Sem.run_pure, Result.andThen_ok, List.map_toArray, List.map_cons, List.map_nil, hs, hx, hrun]
    exact hK _ _ (h _ _ (by simpa [rowV] using hown) (World.grownBy.refl _ _))
  | some ad =>
    refine wpList_append_own w hgd s x 38 ho base 37 i0 (.slice none 0 0) 1 24 Try.underlying38 hi hz0 hz1 hz2 rfl (by omega) v n xs hs hown ad m cap (rowV us m) hx (by rw [rowV_len]; omega) (fun j w1 hj => ?_) (fun u hu => ?_) (by unfold maxLen; omega) (by omega) hbase fun v' w' k1 k2 _ => h v' w' k1 k2
    · have hjl : j < m := by have := (List.getElem?_eq_some_iff.1 hj).1; rwa [rowV_len] at this
      obtain ⟨g, off, ha, _, hc⟩ := h3 (by omega)
      cases ha
      rw [rowV_get us hjl] at hj
      rw [Addr.add_lit, hc j hjl]
      exact hj
    · unfold rowV at hu
      obtain ⟨i, hi, rfl⟩ := List.mem_map.1 hu
      exact h1c i (List.mem_range.1 hi)
/-- What a list of places tells. -/
theorem isL_at {l : List Int} {p : Nat → Bool} {N : Nat} (h : IsL l p) (hp : ∀ i, N ≤ i → p i = false) {i : Nat} (hi : i < l.length) : 0 ≤ l.getD i 0 ∧ l.getD i 0 < (N : Int) ∧ (0 < i → l.getD (i - 1) 0 < l.getD i 0) := by
  have e : l.getD i 0 = l[i] := by rw [List.getD_eq_getElem?_getD, List.getElem?_eq_getElem hi]; rfl
  obtain ⟨j, hj, hpj⟩ := (h.2 l[i]).1 (List.getElem_mem hi)
  have hjN : j < N := Decidable.byContradiction fun hn => by rw [hp j (by omega)] at hpj; cases hpj
  refine ⟨by rw [e, hj]; omega, by rw [e, hj]; omega, fun h0 => ?_⟩
  have hi' : i - 1 < l.length := by omega
  have e' : l.getD (i - 1) 0 = l[i - 1] := by rw [List.getD_eq_getElem?_getD, List.getElem?_eq_getElem hi']; rfl
  rw [e, e']
  exact List.pairwise_iff_getElem.1 h.1 (i - 1) i hi' hi (by omega)
/-- The lists that the law looks at. -/
def gRow (vf vl : Value) (us : Nat → Value) (i : Nat) : Value := if i = 0 then vf else if i = 1 then vl else us (i - 2)
theorem gRow_row (vf vl : Value) (us : Nat → Value) (n : Nat) {i : Nat} (hi : i < 2 + n) : ([vf, vl] ++ rowV us n)[i]? = some (gRow vf vl us i) := by
  unfold gRow
  by_cases h0 : i = 0
  · subst h0; rfl
  · by_cases h1 : i = 1
    · subst h1; rfl
    · rw [if_neg h0, if_neg h1, List.getElem?_append_right (by simp; omega)]
      exact rowV_get us (by simp; omega)
theorem gRow_rows (vf vl : Value) (us : Nat → Value) (n : Nat) : [vf, vl] ++ rowV us n = rowV (gRow vf vl us) (2 + n) := by
  refine List.ext_getElem? fun i => ?_
  by_cases hi : i < 2 + n
  · rw [gRow_row vf vl us n hi, rowV_get _ hi]
  · rw [List.getElem?_eq_none (by rw [List.length_append, rowV_len]; show 2 + n ≤ i; omega), List.getElem?_eq_none (by rw [rowV_len]; omega)]
theorem il_one_cell {w : World} {v : Value} {l : List Int} (h : IL w v l) : v.oneCell' = true := by
  obtain ⟨a, cap, rfl, _⟩ := h; rfl
theorem lit_two {w : World} {g : Nat} {u v : Value} (h : w.heap[g]? = some (.cells #[u, v] 37 (0, 0))) : w.ownsRow g 37 1 (.slice (some ⟨g, 0, none⟩) 2 2) 2 [u, v] :=
  ⟨rfl, Or.inr ⟨g, 2, #[u, v], rfl, Nat.le_refl _, h, Nat.le_refl _, by unfold maxLen; omega, by simp, by simp⟩⟩
set_option maxRecDepth 100000 in
set_option maxHeartbeats 2000000 in
theorem plsize_walk (a : Option Addr) (n cap : Nat) (F0 : Nat → Int) (w : World) (h : ByteRow w a n F0) (hF : ∀ i, 0 ≤ F0 i ∧ F0 i < 256) (hn : n ≤ cap) (hc : cap ≤ maxLen) : Calls Try.prog 6 #[.slice a n cap] w fun e w' => e = .returned (.bool true) ∧ Below w.heap.size w w' := by
  have HMD : Hid (∀ w1, Below w.heap.size w w1 → Calls Try.prog 11 #[.slice a n cap] w1 (MadeI w1)) := Lib.hid fun w1 hb => made_any w1 a n cap F0 (h.below hb) hF hn hc
  have HAW := Lib.hid (awake9_any w)
  clear h hF hn hc
  go_enter Try.func6, Try.ntmps6
  go_wp2_with fail
  refine HAW.out.mono ?_
  rintro e w1 ⟨rfl, hb1⟩
  have HB1 := Lib.hid hb1
  clear hb1 HAW
  go_wp2_with fail
  refine (HMD.out w1 HB1.out).mono ?_
  rintro e w2 ⟨T, rfl, hok, hsz, hcs, hL, hb2⟩
  have hb3 := alloc_below w2 (.cells (row8 T.k T.s T.lo T.hi (.slice T.a T.n T.cap)) 27)
  have HB3 := Lib.hid (HB1.out.trans ((hb2.trans (hb3.mono hb2.size)).mono HB1.out.size))
  have HX3 := Lib.hid (heap_alloc_new w2 (.cells (row8 T.k T.s T.lo T.hi (.slice T.a T.n T.cap)) 27))
  have HL3 := Lib.hid (hL.now hb3)
  have HRT := Lib.hid (made_right hok hsz hcs.1)
  have HFT := Lib.hid (fit_of_ok hok)
  have HSZ := Lib.hid hsz
  clear hok hsz hcs hL hb2 hb3 HB1 HMD
  go_upto_region 5 with fail
  obtain ⟨w3, hw⟩ : ∃ x, x = w2.alloc (.cells (row8 T.k T.s T.lo T.hi (.slice T.a T.n T.cap)) 27) := ⟨_, rfl⟩
  obtain ⟨p, hp⟩ : ∃ q, q = w2.heap.size := ⟨_, rfl⟩
  rw [← hw] at HB3 HL3
  rw [← hw, ← hp] at HX3
  rw [← hw, ← hp]
  clear hw hp
  have HP := Lib.hid (placeOf_any T w3 HL3.out)
  unfold OfE at HP
  rw [HRT.out, if_pos rfl, if_pos rfl, show T.val = nodeV T.k T.s T.lo T.hi (.slice T.a T.n T.cap) from rfl] at HP
  obtain ⟨x0, x1, x2, x3, x4, x5, x6, x7⟩ := cell8 HX3.out
  go_wp2_with fail
  refine HP.out.mono ?_
  rintro e w4 ⟨v, rfl, hV, hb4⟩
  have hN : (plT T).n = sz T := plT_n T HFT.out
  have hNU : (plT T).nu = nullT T := plT_nu T HFT.out
  obtain ⟨N, hNN⟩ : ∃ N, N = sz T := ⟨_, rfl⟩
  obtain ⟨nu, hnu⟩ : ∃ N, N = nullT T := ⟨_, rfl⟩
  have HSN : Hid (∀ W, Below w3.heap.size w3 W → Calls Try.prog 12 #[nodeV T.k T.s T.lo T.hi (.slice T.a T.n T.cap)] W fun e w' => e = .returned (.int .i64 N) ∧ Below W.heap.size W w') := Lib.hid fun W hb => by
    have := refsize_any T W HFT.out (HL3.out.now hb)
    rwa [show min 1000000 (sz T) = N by have := HSZ.out; omega] at this
  have HNL : Hid (∀ W, Below w3.heap.size w3 W → Calls Try.prog 14 #[nodeV T.k T.s T.lo T.hi (.slice T.a T.n T.cap)] W fun e w' => e = .returned (.bool nu) ∧ Below W.heap.size W w') := Lib.hid fun W hb => by
    rw [hnu]; exact refnull_any T W HFT.out (HL3.out.now hb)
  have hN40 : N ≤ 40 := by have := HSZ.out; omega
  rw [← hNN] at hN
  rw [← hnu] at hNU
  clear hNN hnu HP HSZ HFT HRT HL3
  obtain ⟨vs, vf, vl, vo, lf, ll, us, F, rfl, hX⟩ := hV
  obtain ⟨P, hP⟩ : ∃ P, P = plT T := ⟨_, rfl⟩
  rw [← hP] at hX hN hNU
  rw [← hP]
  clear hP
  rw [hNU]
  have HX := Lib.hid hX
  obtain ⟨a1, c1, rfl, -⟩ := hX.sets
  obtain ⟨af, cf, rfl, -⟩ := hX.ffi
  obtain ⟨al, cl, rfl, -⟩ := hX.fla
  obtain ⟨ao, co, rfl, -⟩ := hX.rows
  have hb5 := alloc_below w4 (.cells (pl5 (.slice a1 P.n c1) (.slice af lf.length cf) (.slice al ll.length cl) (.slice ao P.n co) nu) 40)
  have HR5 := Lib.hid (heap_alloc_new w4 (.cells (pl5 (.slice a1 P.n c1) (.slice af lf.length cf) (.slice al ll.length cl) (.slice ao P.n co) nu) 40))
  have HX5 := Lib.hid (HX.out.below hb5)
  have HW5 := Lib.hid (hb4.trans (hb5.mono hb4.size))
  subst hN
  clear hX hNU HX hb4 hb5 x0 x1 x2 x3 x4 x5 x6 x7
  go_upto_region 6 with fail
  obtain ⟨w5, hw⟩ : ∃ x, x = w4.alloc (.cells (pl5 (.slice a1 P.n c1) (.slice af lf.length cf) (.slice al ll.length cl) (.slice ao P.n co) nu) 40) := ⟨_, rfl⟩
  obtain ⟨r, hr⟩ : ∃ q, q = w4.heap.size := ⟨_, rfl⟩
  rw [← hw] at HX5 HW5
  rw [← hw, ← hr] at HR5
  rw [← hw, ← hr]
  clear hw hr
  obtain ⟨x0, x1, x2, x3, x4, x5, x6, x7⟩ := cell8 ((HW5.out.block _ (lt_heap HX3.out)).trans HX3.out)
  go_wp2_with fail
  refine (HSN.out w5 HW5.out).mono ?_
  rintro e w6 ⟨rfl, hb6⟩
  have HW6 := Lib.hid (HW5.out.trans (hb6.mono HW5.out.size))
  have HR6 := Lib.hid ((hb6.block _ (lt_heap HR5.out)).trans HR5.out)
  have HX6 := Lib.hid (HX5.out.below hb6)
  clear hb6 HW5 HR5 HX5 HSN x0 x1 x2 x3 x4 x5 x6 x7
  obtain ⟨y0, y1, y2, y3, y4⟩ := cell5 HR6.out
  have HOW := Lib.hid (lit_two (heap_alloc_new w6 (.cells #[.slice af lf.length cf, .slice al ll.length cl] 37)))
  have HBA := Lib.hid (alloc_below w6 (.cells #[.slice af lf.length cf, .slice al ll.length cl] 37))
  have cA := (HBA.out.cell (p := ⟨r, 3, none⟩) (lt_heap HR6.out)).trans y3
  have HRL : Hid (RL (w6.alloc (.cells #[.slice af lf.length cf, .slice al ll.length cl] 37)) (.slice ao P.n co) us P.n) := Lib.hid (HX6.out.rows.below HBA.out)
  have HC1 : Hid (∀ i, i < P.n → (us i).oneCell' = true) := Lib.hid fun i hi => il_one_cell (HX6.out.lists i hi).1
  go_upto_region 10 with (at_builtin; refine wpList_append_rl rfl (.tmp 43) (.tmp 45) rfl w6.heap.size (.slice (some ⟨w6.heap.size, 0, none⟩) 2 2) (.slice ao P.n co) 2 P.n _ us (by rfl) HOW.out (by rfl) HRL.out HC1.out (by omega) HBA.out.size ?_; intro v' w7 hown7 hgr7; obtain ⟨a7, c7, rfl⟩ := row_slice hown7; have HOW7 := Lib.hid hown7; have HGR7 := Lib.hid hgr7)
  have hb7 : Below w6.heap.size w6 w7 := HBA.out.trans (grown_below HOW.out HBA.out.size HGR7.out)
  have HW7 := Lib.hid (HW6.out.trans (hb7.mono HW6.out.size))
  have HR7 := Lib.hid ((hb7.block _ (lt_heap HR6.out)).trans HR6.out)
  have HRL7 : Hid (RL w7 (.slice a7 (2 + P.n) c7) (gRow (.slice af lf.length cf) (.slice al ll.length cl) us) (2 + P.n)) := Lib.hid (rl_row (gRow_rows _ _ us P.n ▸ HOW7.out))
  have HGD : Hid (∀ q, q < 2 + P.n → ∃ l, IL w7 ((gRow (.slice af lf.length cf) (.slice al ll.length cl) us) q) l ∧ l.length ≤ P.n ∧ ∀ i, i < l.length → 0 ≤ l.getD i 0 ∧ l.getD i 0 < (P.n : Int) ∧ (0 < i → l.getD (i - 1) 0 < l.getD i 0)) := Lib.hid fun q hq => by
    unfold gRow
    by_cases h0 : q = 0
    · rw [if_pos h0]
      exact ⟨lf, HX6.out.ffi.below hb7, HX6.out.sfi.len HX6.out.ok.fi, fun i hi => isL_at HX6.out.sfi HX6.out.ok.fi hi⟩
    · rw [if_neg h0]
      by_cases h1 : q = 1
      · rw [if_pos h1]
        exact ⟨ll, HX6.out.fla.below hb7, HX6.out.sla.len HX6.out.ok.la, fun i hi => isL_at HX6.out.sla HX6.out.ok.la hi⟩
      · rw [if_neg h1]
        have hx := HX6.out.lists (q - 2) (by omega)
        have ho := fun i (hi : P.n ≤ i) => HX6.out.ok.fo (q - 2) i (Or.inr hi)
        exact ⟨F (q - 2), hx.1.below hb7, hx.2.len ho, fun i hi => isL_at hx.2 ho hi⟩
  obtain ⟨G, hG⟩ : ∃ G, G = (gRow (.slice af lf.length cf) (.slice al ll.length cl) us) := ⟨_, rfl⟩
  rw [← hG] at HRL7 HGD
  have HBW := Lib.hid (HB3.out.trans (HW7.out.mono HB3.out.size))
  have hp3 : p < w3.heap.size := lt_heap HX3.out
  have HX7 := Lib.hid ((HW7.out.block _ hp3).trans HX3.out)
  clear hb7 hown7 hgr7 HOW7 HGR7 HOW HBA HRL HC1 hG HX6 HR6 HW6 cA y0 y1 y2 y3 y4 hp3
  go_loopw [48] (fun c wr => ∃ j : Nat, j ≤ 2 + P.n ∧ c = .int .i64 j ∧ Hid (Below w7.heap.size w7 wr)) (fun c _ => 2 + P.n - (intOf c).toNat)
  case atStart => exact ⟨0, by omega, rfl, Lib.hid (Below.refl _ _)⟩
  case round =>
    obtain ⟨j, hj, rfl, HS⟩ := hrel
    by_cases hlt : j < 2 + P.n
    · have hlt' : (j : Int) < ((2 + P.n : Nat) : Int) := by omega
      obtain ⟨l, hil, hln, hgl⟩ := HGD.out j hlt
      obtain ⟨g, o, c, he, hg, z0⟩ := HRL7.out.cells HS.out hlt
      injection he with he1 _ he3
      obtain ⟨u, hu⟩ : ∃ u, u = G j := ⟨_, rfl⟩
      rw [← hu] at hil z0
      have HIL := Lib.hid hil
      have HGL := Lib.hid hgl
      obtain ⟨b, d, rfl, -⟩ := hil
      subst he1
      clear hu he3 hgl
      go_upto_region 13 with fail
      clear z0
      go_loopw [10] (fun c wq => ∃ i : Nat, i ≤ l.length ∧ c = .int .i64 i ∧ Hid (Below w7.heap.size w7 wq)) (fun c _ => l.length - (intOf c).toNat)
      case atStart => exact ⟨0, by omega, rfl, HS⟩
      case round =>
        obtain ⟨i, hi, rfl, HS2⟩ := hrel
        by_cases hit : i < l.length
        · have hit' : (i : Int) < (l.length : Int) := by omega
          obtain ⟨g2, o2, k2, he2, -, -, z1⟩ := il_cells HIL.out HS2.out hit
          injection he2 with e1 _ e3
          subst e1
          obtain ⟨q0, q1, q2⟩ := HGL.out i hit
          have HQ2 := Lib.hid q2
          obtain ⟨x, hx⟩ : ∃ x, x = l.getD i 0 := ⟨_, rfl⟩
          rw [← hx] at z1 q0 q1 HQ2
          have hd1 : decide (x < 0) = false := decide_eq_false (by omega)
          have hd2 : decide ((P.n : Int) ≤ x) = false := decide_eq_false (by omega)
          clear e3 hx q0 q1 q2
          by_cases h0 : i = 0
          · subst h0
            rw [Nat.add_zero] at z1
            go_wp2_with fail
            go_quiet (fail)
            go_wp2
            go_roundw
            case rel => exact ⟨1, hit, by go_num, Lib.hid (HS2.out.trans (below_drewN (Below.refl _ _) _))⟩
            case measure => simp [intOf]; omega
          · have hd0 : decide ((0 : Int) < (i : Int)) = true := decide_eq_true (by omega)
            have hd0' : decide (0 < i) = true := decide_eq_true (by omega)
            obtain ⟨g3, o3, k3, he3, -, -, z2⟩ := il_cells HIL.out HS2.out (i := i - 1) (by omega)
            injection he3 with e1 _ e3
            injection e1 with e1
            injection e1 with e1 e2
            subst e1 e2
            have hq2 := HQ2.out (by omega)
            obtain ⟨y, hy⟩ : ∃ y, y = l.getD (i - 1) 0 := ⟨_, rfl⟩
            rw [← hy] at z2 hq2
            have hd3 : decide (x ≤ y) = false := decide_eq_false (by omega)
            have hsub : ((i : Int) - 1).toNat = i - 1 := by omega
            have hge : (0 : Int) ≤ (i : Int) - 1 := by omega
            have hle : (i : Int) - 1 < (l.length : Int) := by omega
            clear e3 hy hq2
            go_wp2_with fail
            go_quiet (fail)
            go_wp2
            go_roundw
            case rel => exact ⟨i + 1, hit, by go_num, Lib.hid (HS2.out.trans (below_drewN (Below.refl _ _) _))⟩
            case measure => simp [intOf]; omega
        · obtain rfl : i = l.length := by omega
          go_wp2
          go_roundw
          case rel => exact ⟨j + 1, hlt, by go_num, HS2⟩
          case measure => simp [intOf]; omega
    · obtain rfl : j = 2 + P.n := by omega
      go_wp2_with fail
      have HNL2 : Hid (Calls Try.prog 14 #[nodeV T.k T.s T.lo T.hi (.slice T.a T.n T.cap)] wr.drew fun e w' => e = .returned (.bool nu) ∧ Below wr.drew.heap.size wr.drew w') := Lib.hid (HNL.out wr.drew (HW7.out.trans ((HS.out.mono (Nat.le_trans HW7.out.size (Nat.le_refl _))).drew)))
      have HKP : Hid (∀ W, Below wr.heap.size wr W → W.cell? ⟨r, 4, none⟩ = some (.bool nu) ∧ (W.cell? ⟨p, 0, none⟩ = some (.int .i64 T.k) ∧ W.cell? ⟨p, 1, none⟩ = some (.int .u64 (T.s 0)) ∧ W.cell? ⟨p, 2, none⟩ = some (.int .u64 (T.s 1)) ∧ W.cell? ⟨p, 3, none⟩ = some (.int .u64 (T.s 2)) ∧ W.cell? ⟨p, 4, none⟩ = some (.int .u64 (T.s 3)) ∧ W.cell? ⟨p, 5, none⟩ = some (.int .i64 T.lo) ∧ W.cell? ⟨p, 6, none⟩ = some (.int .i64 T.hi) ∧ W.cell? ⟨p, 7, none⟩ = some (.slice T.a T.n T.cap))) := Lib.hid fun W h => by
        have hb := HS.out.trans (h.mono HS.out.size)
        exact ⟨(cell5 ((hb.block _ (lt_heap HR7.out)).trans HR7.out)).2.2.2.2, cell8 ((hb.block _ (lt_heap HX7.out)).trans HX7.out)⟩
      have HB0 : Below wr.heap.size wr wr.drew := (Below.refl _ _).drew
      clear HRL7 HGD HNL HX7 HR7 HX3 hN40
      go_region_held3 (fun W => W.cell? ⟨r, 4, none⟩ = some (.bool nu) ∧ (W.cell? ⟨p, 0, none⟩ = some (.int .i64 T.k) ∧ W.cell? ⟨p, 1, none⟩ = some (.int .u64 (T.s 0)) ∧ W.cell? ⟨p, 2, none⟩ = some (.int .u64 (T.s 1)) ∧ W.cell? ⟨p, 3, none⟩ = some (.int .u64 (T.s 2)) ∧ W.cell? ⟨p, 4, none⟩ = some (.int .u64 (T.s 3)) ∧ W.cell? ⟨p, 5, none⟩ = some (.int .i64 T.lo) ∧ W.cell? ⟨p, 6, none⟩ = some (.int .i64 T.hi) ∧ W.cell? ⟨p, 7, none⟩ = some (.slice T.a T.n T.cap)))
        ((first | with_reducible exact HKP.out _ HB0 | with_reducible exact HKP.out _ HBx))
        (first
          | (go_at_call 14; refine HNL2.out.mono ?_; rintro e wx ⟨rfl, hbx⟩; have HBx : Below wr.heap.size wr wx := undrew hbx)
          | fail)
      have HN := Lib.hid (HBW.out.trans ((HS.out.trans (HBx.mono HS.out.size)).mono HBW.out.size))
      go_wp2
      go_ret
      exact ⟨ret_bool (by simp), HN.out⟩
end Go.Proofs.Ytbahadgcmaabcaa
