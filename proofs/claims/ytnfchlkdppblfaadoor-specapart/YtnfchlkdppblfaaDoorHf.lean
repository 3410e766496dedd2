/- The law's Made of layer 6: what lies in memory while a specification is made. -/
import Derived.Test.YtnfchlkdppblfaaDoorHe
namespace Go.Proofs.YtnfchlkdppblfaaDoor
open Go.RowKit Go
abbrev row6 (ex : Bool) : Array Value := #[.string ⟨#[73, 78, 73, 84, 73, 65, 76]⟩, .bool false, .string ⟨#[66]⟩, .bool ex, .string ⟨#[67, 95, 49]⟩, .bool false]
def cnM (ex : Bool) (i : Nat) : Cn := if i = 0 then ⟨⟨#[73, 78, 73, 84, 73, 65, 76]⟩, false⟩ else if i = 1 then ⟨⟨#[66]⟩, ex⟩ else ⟨⟨#[67, 95, 49]⟩, false⟩
/-- The conditions. -/
def csM (c k : Nat) (ex : Bool) : Cs := ⟨some ⟨c, 0, none⟩, k, 3, cnM ex⟩
set_option maxRecDepth 100000 in
theorem csM_right (c k : Nat) (ex : Bool) (h1 : 1 ≤ k) (h3 : k ≤ 3) : condsB (csM c k ex) = true := by
  have key : ∀ k : Nat, (k = 1 ∨ k = 2 ∨ k = 3) → ∀ ex : Bool, (decide (1 ≤ k) && (decide (k ≤ 8) && (initC (cnM ex 0) && namesB (cnM ex) k))) = true := by
    rintro k (rfl | rfl | rfl) (_ | _) <;> decide +kernel
  exact key k (by omega) ex
theorem csM_in {w : World} {B c k : Nat} {ex : Bool} {e : TypeId} (h : w.heap[c]? = some (.cells (row6 ex) e (0, 0))) (hc : c < B) (h3 : k ≤ 3) : CsIn w B (csM c k ex) := by
  have key : ∀ j v, (row6 ex)[j]? = some v → w.cell? ⟨c, j, none⟩ = some v := fun j v hv => (cell_of_row w c j _ _ _ h).trans hv
  refine ⟨h3, by show 3 ≤ maxLen; simp [maxLen], fun _ => ⟨c, 0, rfl, hc, fun i hi => ?_⟩, fun i hi => ?_⟩
  · have hi' : i < k := hi
    have : i = 0 ∨ i = 1 ∨ i = 2 := by omega
    rcases this with rfl | rfl | rfl
    · exact ⟨key 0 _ rfl, key 1 _ rfl⟩
    · exact ⟨key 2 _ rfl, key 3 _ rfl⟩
    · exact ⟨key 4 _ rfl, key 5 _ rfl⟩
  · show (cnM ex i).nm.size ≤ maxLen
    unfold cnM
    split
    · simp [maxLen, ByteArray.size]
    · split <;> simp [maxLen, ByteArray.size]
/-- A box that holds no numbers holds no pattern. -/
abbrev spO (v0 : Value) (b : Bool) (v2 : Value) : Array Value := #[v0, .bool b, v2]
theorem keepF_spec {w w' : World} {x : Nat} {a1 a2 : Option Addr} {n1 c1 n2 c2 : Nat} {b : Bool} {e : TypeId} (h : w.heap[x]? = some (.cells #[.slice a1 n1 c1, .bool b, .slice a2 n2 c2] e (0, 0))) (hG : ∀ g, g < w.heap.size → g ≠ x → w'.heap[g]? = w.heap[g]?) : KeepF w w' :=
  keepF_but (x := x) (fun o u q _ => by
    have q0 := q.1
    rw [cell_of_row w x o _ _ _ h] at q0
    match o with
    | 0 => simp at q0
    | 1 => simp at q0
    | 2 => simp at q0
    | k + 3 => simp at q0) hG
theorem noneB_n {t : Tr} (h : noneB t = true) : t.n = 0 := by
  unfold noneB at h
  rw [sameT_eq, Bool.and_eq_true] at h
  have := h.1
  unfold likeB at this
  simp only [Bool.and_eq_true, decide_eq_true_eq] at this
  exact this.2.2.2.2
theorem lives_bare {w w' : World} {B B' : Nat} : ∀ {t : Tr}, t.n = 0 → Lives w B t → Lives w' B' t
  | .node _ _ _ _ _ n _ _, h, ⟨hs, h1, h2, _, _⟩ => ⟨hs, h1, h2, fun hp => absurd hp (by have : n = 0 := h; omega), fun i hi => absurd hi (by have : n = 0 := h; omega)⟩
  | .nul, _, h => False.elim h
theorem right_fit {t : Tr} (h : rightB t = true) : fitT t = true := by
  unfold rightB at h
  simp only [Bool.and_eq_true] at h
  exact fit_of_ok h.1
theorem lives_or {w w' : World} {B B' : Nat} (hK : KeepF w w') (hB : B ≤ B') {t : Tr} (h : noneB t = true ∨ rightB t = true) (hL : Lives w B t) : Lives w' B' t := by
  rcases h with h | h
  · exact lives_bare (noneB_n h) hL
  · exact (hL.keep hK (right_fit h)).mono hB
theorem rule_pats {r : Rl} {k : Int} (h : ruleB r k = true) : (noneB r.rx = true ∨ rightB r.rx = true) ∧ (noneB r.tr = true ∨ rightB r.tr = true) := by
  unfold ruleB patB at h
  simp only [Bool.and_eq_true] at h
  have h2 := h.2.2
  split at h2
  · simp only [Bool.and_eq_true] at h2; exact ⟨Or.inl h2.2.1, Or.inl h2.2.2⟩
  · simp only [Bool.and_eq_true, Bool.or_eq_true] at h2; exact ⟨Or.inr h2.1, h2.2⟩
/-- A rule that is made: right, and its conditions lie apart from the row of rules. -/
def RlK (W : World) (B : Nat) (own : Option Nat) (r : Rl) (k : Nat) : Prop :=
  RlIn W W.heap.size r ∧ ruleB r k = true ∧ (cnt r.rx ≤ 100 ∧ cnt r.tr ≤ 100) ∧ (0 < r.cn → ∃ g off, r.ca = some ⟨g, off, none⟩ ∧ B ≤ g ∧ some g ≠ own)
theorem RlK.keep {W W' : World} {B : Nat} {own own' : Option Nat} {r : Rl} {k : Nat} (h : RlK W B own r k) (hK : KeepF W W') (hs : W.heap.size ≤ W'.heap.size) (hb : ∀ g, B ≤ g → g < W.heap.size → some g ≠ own → W'.heap[g]? = W.heap[g]?)
    (ho : ∀ g, B ≤ g → g < W.heap.size → some g ≠ own → some g ≠ own') : RlK W' B own' r k := by
  obtain ⟨⟨⟨i1, i2, i3, i4⟩, lx, lt⟩, hr, hc, hg⟩ := h
  obtain ⟨px, pt⟩ := rule_pats hr
  refine ⟨⟨⟨i1, i2, fun hp => ?_, i4⟩, lives_or hK hs px lx, lives_or hK hs pt lt⟩, hr, hc, fun hp => ?_⟩
  · obtain ⟨g, off, e, hB, hne⟩ := hg hp
    obtain ⟨g', off', e', hlt, hcl⟩ := i3 hp
    rw [e] at e'
    cases e'
    exact ⟨g, off, e, Nat.lt_of_lt_of_le hlt hs, fun i hi => (World.cell?_of_block (a := ⟨g, off + i, none⟩) (hb g hB hlt hne)).trans (hcl i hi)⟩
  · obtain ⟨g, off, e, hB, hne⟩ := hg hp
    obtain ⟨g', off', e', hlt, _⟩ := i3 hp
    rw [e] at e'
    cases e'
    exact ⟨g, off, e, hB, ho g hB hlt hne⟩
/-- While a specification is made. -/
structure MdI (w : World) (p : Nat) (a : Option Addr) (n cap : Nat) (F : Nat → Int) (x c k : Nat) (ex b : Bool) (l : Rs) (A : Nat) (W : World) : Prop where
  box : W.heap[x]? = some (.cells #[.slice (some ⟨c, 0, none⟩) k 3, .bool b, .slice l.a l.n l.cap] 38 (0, 0))
  con : W.heap[c]? = some (.cells (row6 ex) 48 (0, 0))
  out : W.heap[w.heap.size]? = some (.cells #[.slice none 0 0, .bool false, .slice none 0 0] 38 (0, 0))
  mkr : Mk W p a n cap F A
  bel : Below w.heap.size w W
  old : w.heap.size < p ∧ p < x ∧ p < c ∧ x ≠ c
  rws : RwI W (max x c + 1) l
  rul : ∀ i, i < l.n → RlK W (max x c + 1) l.val.ownBlock (l.r i) k
theorem MdI.lt {w : World} {p : Nat} {a : Option Addr} {n cap : Nat} {F : Nat → Int} {x c k : Nat} {ex b : Bool} {l : Rs} {A : Nat} {W : World} (h : MdI w p a n cap F x c k ex b l A W) : max x c + 1 ≤ W.heap.size := by
  have := lt_of_heap h.box; have := lt_of_heap h.con; omega
theorem RwI.keep {W W' : World} {B : Nat} {l : Rs} (h : RwI W B l) (hb : ∀ g, B ≤ g → g < W.heap.size → W'.heap[g]? = W.heap[g]?) : RwI W' B l := by
  refine ⟨h.le, h.max, h.z, ?_⟩
  rcases h.row with q | ⟨g, cur, ha, hB, hg, hR⟩
  · exact Or.inl q
  · exact Or.inr ⟨g, cur, ha, hB, (hb g hB (lt_of_heap hg)).trans hg, hR⟩
/-- The maker goes on. -/
theorem MdI.pick {w : World} {p : Nat} {a : Option Addr} {n cap : Nat} {F : Nat → Int} {x c k : Nat} {ex b : Bool} {l : Rs} {A A' : Nat} {W W' : World} (h : MdI w p a n cap F x c k ex b l A W) (hM : Mk W' p a n cap F A') (hG : W.grownBy W' (some p)) : MdI w p a n cap F x c k ex b l A' W' := by
  obtain ⟨o1, o2, o3, o4⟩ := h.old
  have hbl : ∀ g, g < W.heap.size → g ≠ p → W'.heap[g]? = W.heap[g]? := fun g h1 h2 => hG.block g h1 (fun e => h2 (Option.some.inj e))
  refine ⟨(hbl x (lt_of_heap h.box) (by omega)).trans h.box, (hbl c (lt_of_heap h.con) (by omega)).trans h.con, (hbl _ (lt_of_heap h.out) (by omega)).trans h.out, hM, grown_below_p h.bel hG (by omega), h.old, h.rws.keep fun g h1 h2 => hbl g h2 (by omega), fun i hi => (h.rul i hi).keep (keepF_mk h.mkr hG) hG.size (fun g h1 h2 _ => hbl g h2 (by omega)) fun _ _ _ q => q⟩
theorem MdI.below {w : World} {p : Nat} {a : Option Addr} {n cap : Nat} {F : Nat → Int} {x c k : Nat} {ex b : Bool} {l : Rs} {A : Nat} {W W' : World} (h : MdI w p a n cap F x c k ex b l A W) (hb : Below W.heap.size W W') : MdI w p a n cap F x c k ex b l A W' :=
  h.pick (h.mkr.below hb) (grown_of_below hb _)
/-- A rule is made. -/
theorem MdI.rule {w : World} {p : Nat} {a : Option Addr} {n cap : Nat} {F : Nat → Int} {x c k : Nat} {ex b : Bool} {l : Rs} {A : Nat} {W W' : World} {e : Ending} (h : MdI w p a n cap F x c k ex b l A W) (hM : MrI W p a n cap F A k e W') :
    ∃ r A', e = .returned (ruleV r) ∧ A' ≤ A + 60 ∧ MdI w p a n cap F x c k ex b l A' W' ∧ RlK W' (max x c + 1) l.val.ownBlock r k := by
  obtain ⟨r, he, hin, hr, hc, hg, A', hA, hMk, hG⟩ := hM
  refine ⟨r, A', he, hA, h.pick hMk hG, hin, hr, hc, fun hp => ?_⟩
  obtain ⟨g, off, e1, h1⟩ := hg hp
  refine ⟨g, off, e1, by have := h.lt; omega, fun e2 => ?_⟩
  rcases h.rws.row with ⟨q, _⟩ | ⟨g', cur, ha, hB, hg', hR⟩
  · rw [show l.val.ownBlock = none by unfold Rs.val; rw [q]; rfl] at e2; cases e2
  · have := lt_of_heap hg'
    rw [show l.val.ownBlock = some g' by unfold Rs.val; rw [ha]; rfl] at e2
    have := Option.some.inj e2
    omega
theorem own_lt {W : World} {B : Nat} {l : Rs} (h : RwI W B l) : ∀ g, l.val.ownBlock = some g → B ≤ g ∧ g < W.heap.size := fun g hg => by
  rcases h.row with ⟨q, _⟩ | ⟨g', cur, ha, hB, hg', hR⟩
  · rw [show l.val.ownBlock = none by unfold Rs.val; rw [q]; rfl] at hg; cases hg
  · rw [show l.val.ownBlock = some g' by unfold Rs.val; rw [ha]; rfl] at hg
    cases hg
    exact ⟨hB, lt_of_heap hg'⟩
/-- It is put behind the others. -/
theorem MdI.app {w : World} {p : Nat} {a : Option Addr} {n cap : Nat} {F : Nat → Int} {x c k : Nat} {ex b : Bool} {l : Rs} {A : Nat} {W W' : World} {r : Rl} {v : Value} (h : MdI w p a n cap F x c k ex b l A W) (hr : RlK W (max x c + 1) l.val.ownBlock r k) (hA : AppI W (max x c + 1) l r v W') :
    (W'.cell? ⟨x, 2, none⟩ = some (.slice l.a l.n l.cap) ∧ W'.frozen? ⟨x, 2, none⟩ = false) ∧ ∃ a' c', v = .slice a' (l.n + 1 : Nat) c' ∧ MdI w p a n cap F x c k ex b ⟨a', l.n + 1, c', putR l.r l.n r⟩ A (W'.setCell ⟨x, 2, none⟩ v) := by
  obtain ⟨o1, o2, o3, o4⟩ := h.old
  obtain ⟨a', c', rfl, hI, hK, hG, hg⟩ := hA
  have hbl : ∀ g, g < W.heap.size → g < max x c + 1 → W'.heap[g]? = W.heap[g]? := fun g h1 h2 => hG.block g h1 (fun e => by have := (own_lt h.rws g e.symm).1; omega)
  have hbox := (hbl x (lt_of_heap h.box) (by omega)).trans h.box
  have hst : ∀ g, g ≠ x → (W'.setCell ⟨x, 2, none⟩ (.slice a' (l.n + 1 : Nat) c')).heap[g]? = W'.heap[g]? := fun g hg => Below.heap_setCell _ _ _ _ hg
  have hK2 : KeepF W' (W'.setCell ⟨x, 2, none⟩ (.slice a' (l.n + 1 : Nat) c')) := keepF_spec hbox fun g _ hne => hst g hne
  have hsz : (W'.setCell ⟨x, 2, none⟩ (.slice a' (l.n + 1 : Nat) c')).heap.size = W'.heap.size := by simp
  refine ⟨⟨(cell_of_row W' x 2 _ _ _ hbox).trans rfl, frozen_of_row _ _ 2 _ _ hbox⟩, a', c', rfl, ?_⟩
  refine ⟨?_, (hst c (by omega)).trans ((hbl c (lt_of_heap h.con) (by omega)).trans h.con), (hst _ (by omega)).trans ((hbl _ (lt_of_heap h.out) (by omega)).trans h.out), ?_, ?_, h.old, hI.keep fun g h1 _ => hst g (by omega), ?_⟩
  · rw [heap_setCell_same W' x 2 _ _ _ hbox]; rfl
  · refine ⟨(hst p (by omega)).trans ((hbl p h.mkr.lt (by omega)).trans h.mkr.box), fun hn => ?_⟩
    obtain ⟨g, off, ha, hgp, hc⟩ := h.mkr.row hn
    refine ⟨g, off, ha, hgp, fun i hi => ?_⟩
    have hgl := lt_of_cell (hc i hi)
    exact (World.cell?_of_block (a := ⟨g, off + i, none⟩) ((hst g (by omega)).trans (hbl g hgl (by omega)))).trans (hc i hi)
  · refine (h.bel.trans ((Below.refl w.heap.size W).grown hG h.bel.size fun k hk => ?_)).setCell (by show w.heap.size ≤ x; omega) _
    have := (own_lt h.rws k hk).1
    omega
  · have hown' : ∀ g, max x c + 1 ≤ g → g < W.heap.size → some g ≠ l.val.ownBlock → some g ≠ (Rs.val ⟨a', l.n + 1, c', putR l.r l.n r⟩).ownBlock := fun g h1 h2 h3 e => by
      rcases hI.row with ⟨q, _⟩ | ⟨g', cur, ha, _, _, _⟩
      · dsimp only at q; subst q; cases e
      · dsimp only at ha
        subst ha
        have e' : g = g' := by
          have : (Rs.val ⟨some ⟨g', 0, none⟩, l.n + 1, c', putR l.r l.n r⟩).ownBlock = some g' := rfl
          rw [this] at e; exact Option.some.inj e
        subst e'
        rcases hg g rfl with q | q
        · exact h3 q.symm
        · omega
    have hall : ∀ r', RlK W (max x c + 1) l.val.ownBlock r' k → RlK (W'.setCell ⟨x, 2, none⟩ (.slice a' (l.n + 1 : Nat) c')) (max x c + 1) (Rs.val ⟨a', l.n + 1, c', putR l.r l.n r⟩).ownBlock r' k := fun r' hr' =>
      hr'.keep (hK.trans hK2) (by rw [hsz]; exact hG.size) (fun g h1 h2 h3 => (hst g (by omega)).trans (hG.block g h2 h3)) hown'
    intro i hi
    dsimp only at hi ⊢
    by_cases e : i = l.n
    · rw [e, putR_same]; exact hall r hr
    · rw [putR_ne _ _ e]; exact hall _ (h.rul i (by omega))
/-- What Made gives back. -/
def SpMade (w : World) (e : Ending) (w' : World) : Prop :=
  ∃ s : Sp, e = .returned (specV s) ∧ SpIn w' s ∧ Sm s.rs ∧ specB s = true ∧ (1 ≤ s.rs.n ∧ s.rs.n ≤ 4) ∧ (∃ c k ex, s.cs = csM c k ex ∧ 1 ≤ k ∧ k ≤ 3) ∧ (∀ i, i < s.rs.n → cnt (s.rs.r i).rx ≤ 100 ∧ cnt (s.rs.r i).tr ≤ 100) ∧ Below w.heap.size w w'
/-- The answer is copied into its box. -/
theorem MdI.fin {w : World} {p : Nat} {a : Option Addr} {n cap : Nat} {F : Nat → Int} {x c k : Nat} {ex b : Bool} {l : Rs} {A : Nat} {W W' : World} (h : MdI w p a n cap F x c k ex b l A W) (hk1 : 1 ≤ k) (hk3 : k ≤ 3) (h1 : 1 ≤ l.n) (h4 : l.n ≤ 4)
    (hs : W'.heap.size = W.heap.size) (hst : ∀ g, g ≠ w.heap.size → W'.heap[g]? = W.heap[g]?) (hB : Below w.heap.size w W') : SpMade w (.returned (specV ⟨csM c k ex, b, l⟩)) W' := by
  obtain ⟨o1, o2, o3, o4⟩ := h.old
  have hK : KeepF W W' := keepF_spec h.out fun g _ hne => hst g hne
  have hrul : ∀ i, i < l.n → RlK W' (max x c + 1) l.val.ownBlock (l.r i) k := fun i hi => (h.rul i hi).keep hK (by omega) (fun g h1 _ _ => hst g (by omega)) fun _ _ _ q => q
  have hrw : RwI W' (max x c + 1) l := h.rws.keep fun g h1 _ => hst g (by omega)
  refine ⟨⟨csM c k ex, b, l⟩, rfl, ⟨csM_in ((hst c (by omega)).trans h.con) (by have := lt_of_heap h.con; omega) hk3, hrw.le, hrw.max, fun _ => ?_, fun i hi => (hrul i hi).1⟩, fun i hi => ?_, ?_, ⟨h1, h4⟩, ⟨c, k, ex, rfl, hk1, hk3⟩, fun i hi => (hrul i hi).2.2.1, hB⟩
  · rcases hrw.row with ⟨_, q, _⟩ | ⟨g, cur, ha, _, hg, hR⟩
    · omega
    · refine ⟨g, 0, ha, lt_of_heap hg, fun i hi => ?_⟩
      have hle := hrw.le
      have key : ∀ j v, j < 22 → (row22 (l.r i))[j]? = some v → W'.cell? ⟨g, 0 + i * 22 + j, none⟩ = some v := fun j v hj hv => by
        rw [cell_of_row W' g _ _ _ _ hg, Nat.zero_add, hR.2 i j (by dsimp only at hi; omega) hj, hv]
      exact ⟨key 0 _ (by omega) rfl, key 1 _ (by omega) rfl, key 2 _ (by omega) rfl, key 3 _ (by omega) rfl, key 4 _ (by omega) rfl, key 5 _ (by omega) rfl, key 6 _ (by omega) rfl, key 7 _ (by omega) rfl, key 8 _ (by omega) rfl, key 9 _ (by omega) rfl, key 10 _ (by omega) rfl, key 11 _ (by omega) rfl, key 12 _ (by omega) rfl, key 13 _ (by omega) rfl, key 14 _ (by omega) rfl, key 15 _ (by omega) rfl, key 16 _ (by omega) rfl, key 17 _ (by omega) rfl, key 18 _ (by omega) rfl, key 19 _ (by omega) rfl, key 20 _ (by omega) rfl, key 21 _ (by omega) rfl⟩
  · have q := (hrul i hi).2.2.1; exact ⟨Nat.le_trans q.1 (by omega), Nat.le_trans q.2 (by omega)⟩
  · unfold specB rulesB
    rw [csM_right c k ex hk1 hk3, decide_eq_true (show l.n ≤ 40 by omega), Bool.true_and, Bool.true_and]
    exact allTo_iff.2 fun i hi => (hrul i hi).2.1
end Go.Proofs.YtnfchlkdppblfaaDoor
