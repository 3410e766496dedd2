/- Lists of patterns that are read: in memory, and as they should be; what is joined of them. -/
import Derived.Test.YtnloepanbjgbaaaGreatDoorQm
import Derived.Test.YtnloepanbjgbaaaGreatDoorQo
import Derived.Test.YtnloepanbjgbaaaGreatDoorPb
namespace Go.Proofs.YtnloepanbjgbaaaGreatDoor
open Go.RowKit
theorem same_like {t u : Tr} (h : sameT t u = true) : t.k = u.k ∧ eqS t.s u.s = true ∧ t.lo = u.lo ∧ t.hi = u.hi ∧ t.n = u.n ∧ ∀ i, i < t.n → sameT (t.kid i) (u.kid i) = true := by
  rw [sameT_eq, Bool.and_eq_true] at h
  have h1 := h.1
  simp only [likeB, Bool.and_eq_true, decide_eq_true_eq] at h1
  exact ⟨h1.1, h1.2.1, h1.2.2.1, h1.2.2.2.1, h1.2.2.2.2, fun i hi => allTo_iff.1 h.2 i hi⟩
theorem sameL_append : ∀ {L M L' M' : List Tr}, sameL L M → sameL L' M' → sameL (L ++ L') (M ++ M')
  | [], [], _, _, _, h => h
  | _ :: L, _ :: M, _, _, h, h' => ⟨h.1, sameL_append (L := L) (M := M) h.2 h'⟩
  | [], _ :: _, _, _, h, _ => False.elim h
  | _ :: _, [], _, _, h, _ => False.elim h
theorem sameL_one {t u : Tr} (h : sameT t u = true) : sameL [t] [u] := ⟨h, trivial⟩
theorem sameL_range {f g : Nat → Tr} : ∀ n : Nat, (∀ i, i < n → sameT (f i) (g i) = true) → sameL (kidsL f n) (kidsL g n)
  | 0, _ => trivial
  | n + 1, h => by rw [kidsL_succ, kidsL_succ]; exact sameL_append (sameL_range n fun i hi => h i (by omega)) (sameL_one (h n (by omega)))
theorem sameL_part (kind : Int) {t u : Tr} (h : sameT t u = true) : sameL (partL kind t) (partL kind u) := by
  obtain ⟨hk, _, _, _, hn, hkid⟩ := same_like h
  unfold partL
  rw [← hk, ← hn]
  split
  · exact sameL_range _ hkid
  · exact sameL_one h
theorem sameL_flat (kind : Int) : ∀ {L M : List Tr}, sameL L M → sameL (L.flatMap (partL kind)) (M.flatMap (partL kind))
  | [], [], _ => trivial
  | _ :: L, _ :: M, h => by rw [List.flatMap_cons, List.flatMap_cons]; exact sameL_append (sameL_part kind h.1) (sameL_flat kind (L := L) (M := M) h.2)
  | [], _ :: _, h => False.elim h
  | _ :: _, [], h => False.elim h
theorem same_row {kind : Int} {a a' : Option Addr} {cap cap' : Nat} {L M : List Tr} (h : sameL L M) : sameT (rowT kind a cap L) (rowT kind a' cap' M) = true :=
  same_mk rfl (eqS_refl _) rfl rfl (sameL_get h).1 fun i hi => (sameL_get h).2 i hi
/-- Patterns that are joined. -/
def joinP (kind : Int) (L : List Tr) : Tr :=
  match L with
  | [] => lfT 1 z0
  | [t] => t
  | L => rowT kind none 0 (L.flatMap (partL kind))
theorem joinTo_flat (kind : Int) (tt : Nat → Tr) : ∀ n, joinTo kind tt n = (kidsL tt n).flatMap (partL kind)
  | 0 => rfl
  | n + 1 => by rw [joinTo, joinTo_flat kind tt n, kidsL_succ, List.flatMap_append]; simp
theorem same_join {kind : Int} {L M : List Tr} (h : sameL L M) {B : Nat} {x : Tr} (hx : JnT kind L.length (fun i => L.getD i .nul) B x) : sameT x (joinP kind M) = true := by
  have hlen := (sameL_get h).1
  rcases hx with ⟨h0, rfl⟩ | ⟨h1, rfl⟩ | ⟨h2, g, cap, _, rfl⟩
  · match L, M, h0, h with
    | [], [], _, _ => exact same_self _
  · match L, M, h1, h with
    | [t], [u], _, h => exact h.1
  · rw [joinTo_flat, kidsL_get]
    match L, M, h2, h with
    | _ :: _ :: _, _ :: _ :: _, _, h => exact same_row (sameL_flat kind h)
def Gd (t : Tr) : Prop := t.n ≤ 20000 ∧ (t.k = 3 ∨ t.k = 4 → 0 < t.n)
theorem Gd.same {t u : Tr} (h : Gd u) (hs : sameT t u = true) : Gd t := by
  obtain ⟨hk, _, _, _, hn, _⟩ := same_like hs
  unfold Gd at *
  rw [hk, hn]; exact h
theorem Off.livesB {w w' : World} {q B : Nat} (hk : ∀ g, g < B → g ≠ q → w'.heap[g]? = w.heap[g]?) : ∀ {t : Tr}, Off q t → Lives w B t → Lives w' B t
  | .node _ _ _ _ _ _ _ kid, ⟨u1, u2⟩, ⟨hs, h1, h2, hc, hkid⟩ => ⟨hs, h1, h2, fun hp => by
      obtain ⟨g, off, ha, hg, hc⟩ := hc hp
      refine ⟨g, off, ha, hg, fun i hi => ?_⟩
      have key : ∀ o : Nat, w'.cell? ⟨g, o, none⟩ = w.cell? ⟨g, o, none⟩ := fun o => World.cell?_of_block (hk g hg (u1 hp _ ha))
      obtain ⟨h0, h1, h2, h3, h4, h5, h6, h7⟩ := hc i hi
      exact ⟨(key _).trans h0, (key _).trans h1, (key _).trans h2, (key _).trans h3, (key _).trans h4, (key _).trans h5, (key _).trans h6, (key _).trans h7⟩,
      fun i hi => Off.livesB hk (t := kid i) (u2 i hi) (hkid i hi)⟩
  | .nul, _, h => False.elim h
/-- A list that is being read. -/
structure LsT (q : Nat) (v : Value) (L Ls : List Tr) (w : World) : Prop where
  own : w.ownsRow (q + 1) 31 8 v L.length (flatT L)
  same : sameL L Ls
  good : ∀ u ∈ L, Gd u
  lives : ∀ u ∈ L, Lives w w.heap.size u
  up : ∀ u ∈ L, Up (q + 1) u
  off : ∀ g, v.ownBlock = some g → ∀ u ∈ L, Off g u
theorem LsT.nil (q : Nat) (w : World) : LsT q (.slice none 0 0) [] [] w := ⟨World.ownsRow_nil _ _ _ _, trivial, fun u h => by simp at h, fun u h => by simp at h, fun u h => by simp at h, fun g _ u h => by simp at h⟩
theorem LsT.on {q p : Nat} {v : Value} {L Ls : List Tr} {w w' : World} {C : Cx} {i deep cop : Nat} (h : LsT q v L Ls w) (hR : Rd w p C i deep cop) (hp : p ≤ q) (hG : w.grownBy w' (some p)) : LsT q v L Ls w' :=
  ⟨h.own.kept (row := some p) hG (Or.inr fun e => by have := (h.own.lt _ e).1; omega), h.same, h.good, fun u hu => (h.lives u hu).on hR hG, h.up, h.off⟩
theorem LsT.below {q : Nat} {v : Value} {L Ls : List Tr} {w w' : World} (h : LsT q v L Ls w) (hb : Below w.heap.size w w') : LsT q v L Ls w' :=
  ⟨ownsRow_below h.own hb, h.same, h.good, fun u hu => (h.lives u hu).now hb, h.up, h.off⟩
/-- One more. -/
theorem LsT.snoc {q : Nat} {v v1 : Value} {L Ls : List Tr} {w w3 : World} {t T : Tr} (h : LsT q v L Ls w) (ht : sameT t T = true) (hg : Gd t) (hL : Lives w w.heap.size t) (hU : Up (q + 1) t) (hO : ∀ g, v.ownBlock = some g → Off g t)
    (hown : w3.ownsRow (q + 1) 31 8 v1 (L.length + 1) (flatT L ++ cells8 t)) (hG : w.grownBy w3 v.ownBlock) (hat : v1.ownBlock = v.ownBlock ∨ v1.ownBlock = some w.heap.size) : LsT q v1 (L ++ [t]) (Ls ++ [T]) w3 := by
  have hall : ∀ u ∈ L ++ [t], Lives w w.heap.size u ∧ Up (q + 1) u ∧ Gd u ∧ ∀ g, v.ownBlock = some g → Off g u := fun u hu => by
    rcases List.mem_append.1 hu with hu | hu
    · exact ⟨h.lives u hu, h.up u hu, h.good u hu, fun g hg => h.off g hg u hu⟩
    · rw [List.mem_singleton] at hu; subst hu; exact ⟨hL, hU, hg, hO⟩
  refine ⟨by rw [flatT_append, flatT_one, List.length_append]; exact hown, sameL_append h.same (sameL_one ht), fun u hu => (hall u hu).2.2.1, fun u hu => ?_, fun u hu => (hall u hu).2.1, fun g hg u hu => ?_⟩
  · cases hv : v.ownBlock with
    | none =>
      rw [hv] at hG
      exact ((hall u hu).1.below ⟨hG.os, hG.tape, hG.output, hG.size, fun k hk => hG.block k hk (by simp)⟩).mono hG.size
    | some g =>
      rw [hv] at hG
      exact (Off.livesB (fun k hk hne => hG.block k hk (fun e => hne (by injection e))) ((hall u hu).2.2.2 g hv) (hall u hu).1).mono hG.size
  · rcases hat with hat | hat
    · exact (hall u hu).2.2.2 g (by rw [← hat]; exact hg)
    · rw [hat] at hg; injection hg with hg; subst hg; exact Lives.offq (Nat.le_refl _) (hall u hu).1
/-- The list is joined. -/
theorem LsT.joins {q : Nat} {v : Value} {L Ls : List Tr} {w : World} (h : LsT q v L Ls w) (kind : Int) (hk : kind = 3 ∨ kind = 4) (hn : L.length ≤ 20000) :
    Calls Tryz.prog 65 #[.int .i64 kind, v] w (PJ w kind L.length fun i => L.getD i .nul) := by
  obtain ⟨a, c, rfl⟩ := row_slice h.own
  refine join_any kind w a L.length c _ hn (fun hp => ?_) (fun i hi => h.lives _ (getD_mem hi)) (fun i hi => (h.good _ (getD_mem hi)).1) (fun i hi e => (h.good _ (getD_mem hi)).2 (by omega))
  obtain ⟨g, cap, hv, _, hg, _, _, hc⟩ := row_cells h.own hp
  injection hv with h1 h2 h3
  subst h1
  exact ⟨g, 0, rfl, hg, fun i hi => at8_of (L := L) (fun j u hu => by rw [Addr.add_lit, Nat.zero_add]; exact hc j u hu) hi⟩
theorem up_row {A : Nat} {kind : Int} {g cap : Nat} {L : List Tr} (hg : A ≤ g) (h : ∀ u ∈ L, Up A u) : Up A (rowT kind (some ⟨g, 0, none⟩) cap L) := ⟨fun _ b hb => by cases hb; exact hg, fun i hi => h _ (getD_mem hi)⟩
theorem Up.kids {A : Nat} {t : Tr} (h : Up A t) : ∀ i, i < t.n → Up A (t.kid i) := by
  cases t with
  | nul => intro i hi; exact absurd hi (by show ¬ i < 0; omega)
  | node => exact h.2
theorem up_part {A : Nat} {kind : Int} {t : Tr} (h : Up A t) : ∀ u ∈ partL kind t, Up A u := by
  intro u hu
  unfold partL at hu
  split at hu
  · obtain ⟨i, hi, rfl⟩ := kidsL_mem hu; exact h.kids i hi
  · rw [List.mem_singleton] at hu; subst hu; exact h
theorem LsT.joined_up {q : Nat} {v : Value} {L Ls : List Tr} {w : World} (h : LsT q v L Ls w) (hq : q + 1 ≤ w.heap.size) {kind : Int} {x : Tr} (hx : JnT kind L.length (fun i => L.getD i .nul) w.heap.size x) : Up (q + 1) x := by
  rcases hx with ⟨_, rfl⟩ | ⟨h1, rfl⟩ | ⟨h2, g, cap, hg, rfl⟩
  · exact up_lf _ _ _
  · exact h.up _ (getD_mem (by omega))
  · refine up_row (by omega) fun u hu => ?_
    rw [joinTo_flat, kidsL_get] at hu
    obtain ⟨t, ht, hu⟩ := List.mem_flatMap.1 hu
    exact up_part (h.up t ht) u hu
end Go.Proofs.YtnloepanbjgbaaaGreatDoor
/- The landed code's sequence. -/
namespace Go.Proofs.YtnloepanbjgbaaaGreatDoor
open Go.RowKit
def seqG (P : Nat → Nat → Rs (Tr × Nat)) (N : Nat → Int) : Nat → List Tr → Nat → Nat → Rs (Tr × Nat)
  | 0, _, i, _ => .er 20 i
  | n + 1, L, i, c => if N i = 124 ∨ N i = 41 ∨ N i = -1 then .ok (joinP 3 L, c) i else (match P i c with
    | .er e k => .er e k
    | .ok T j => seqG P N n (L ++ [T.1]) j T.2)
/-- In the midst of a sequence. -/
structure SqI (w : World) (p q : Nat) (C : Cx) (D : Df) (deep : Nat) (L Ls : List Tr) (v : Value) (i c : Nat) (wr : World) : Prop where
  rd : Rd wr p C i deep c
  grown : w.grownBy wr (some p)
  br : wr.heap[q]? = some (.cells (row8 0 z0 0 0 (.slice none 0 0)) 31 (0, 0))
  df : DfAt wr p C D
  ls : LsT q v L Ls wr
  len : L.length ≤ i + 1
def SqR (w : World) (p q : Nat) (C : Cx) (D : Df) (deep : Nat) (P : Nat → Nat → Rs (Tr × Nat)) (R : Rs (Tr × Nat)) (gk : Nat) (v u : Value) (wr : World) : Prop :=
  ∃ (L Ls : List Tr) (i c : Nat), u = .int .i64 (nx C.S i) ∧ R = seqG P (nx C.S) gk Ls i c ∧ C.S.size < i + gk ∧ SqI w p q C D deep L Ls v i c wr
/-- A list is joined and stored into the result's box. -/
theorem join_end {w w1 w2 : World} {p q : Nat} {C : Cx} {D : Df} {deep : Nat} {L Ls : List Tr} {v : Value} {i c : Nat} {kind : Int} {e : Ending} (h : SqI w p q C D deep L Ls v i c w1) (hp : p < w.heap.size) (hq : w.heap.size ≤ q) (hJ : PJ w1 kind L.length (fun i => L.getD i .nul) e w2) :
    ∃ x : Tr, e = .returned (nodeV x.k x.s x.lo x.hi (.slice x.a x.n x.cap)) ∧ w2.heap[q]? = some (.cells (row8 0 z0 0 0 (.slice none 0 0)) 31 (0, 0)) ∧
      PT w p C deep (.ok (joinP kind Ls, c) i) (.returned (.tuple #[nodeV x.k x.s x.lo x.hi (.slice x.a x.n x.cap), .nilIface])) (put8 w2 q x.k x.s x.lo x.hi (.slice x.a x.n x.cap)) ∧ (put8 w2 q x.k x.s x.lo x.hi (.slice x.a x.n x.cap)).heap[q]? = some (.cells (row8 x.k x.s x.lo x.hi (.slice x.a x.n x.cap)) 31 (0, 0)) := by
  obtain ⟨x, he, hx, hL, hb⟩ := hJ
  have hql := (Array.getElem?_eq_some_iff.1 h.br).1
  have hQ2 := (hb.block q hql).trans h.br
  have hU := h.ls.joined_up hql hx
  obtain ⟨f1, f2, f3⟩ := fin8r (h.rd.below hb) (gbelow h.grown hb) hp hq hQ2 x.k x.s x.lo x.hi (.slice x.a x.n x.cap)
  exact ⟨x, he, hQ2, ⟨f3, x, rfl, same_join h.ls.same hx, lives_put8u hU hL _ _ _ _ _, hU.mono (by omega), f2⟩, f1⟩
set_option maxRecDepth 100000 in
set_option maxHeartbeats 4000000 in
theorem sequence_any (P : Nat → Nat → Rs (Tr × Nat)) (D : Df) (w : World) (p : Nat) (C : Cx) (i deep cop : Nat) (h : Rd w p C i deep cop) (hD : DfAt w p C D)
    (hP : ∀ (w1 : World) (i c : Nat), Rd w1 p C i deep c → DfAt w1 p C D → i < C.S.size → Calls Tryz.prog 82 #[rp p] w1 (PT w1 p C deep (P i c)))
    (hPb : ∀ (i c : Nat) (T : Tr × Nat) (j : Nat), P i c = .ok T j → j ≤ C.S.size → i < j ∧ Gd T.1) :
    Calls Tryz.prog 64 #[rp p] w (PT w p C deep (seqG P (nx C.S) (C.S.size + 1) [] i cop)) := by
  obtain ⟨i0, hi, hz0, hz1, hz2⟩ := info_parts info27
  have hpq := h.lt
  have hz := h.sz
  have hb0 := alloc_below w (.cells (row8 0 z0 0 0 (.slice none 0 0)) 31)
  have HR0 := Lib.hid (h.below hb0)
  have HG0 := Lib.hid (grown_of_below hb0 (some p))
  have HQ0 := Lib.hid (heap_alloc_new w (.cells (row8 0 z0 0 0 (.slice none 0 0)) 31))
  have HD0 := Lib.hid (hD.on hpq HG0.out)
  have HN := Lib.hid (next_any _ p C i deep cop HR0.out)
  have HP := Lib.hid hP
  have HPB := Lib.hid hPb
  obtain ⟨R, hR⟩ : ∃ R, R = seqG P (nx C.S) (C.S.size + 1) [] i cop := ⟨_, rfl⟩
  rw [← hR]
  have HE := Lib.hid hR
  clear hR h hb0 hD hP hPb
  obtain ⟨q, hqq⟩ : ∃ q, q = w.heap.size := ⟨_, rfl⟩
  have hqs : w.heap.size ≤ q := by omega
  rw [← hqq] at HQ0
  go_enter Tryz.func64, Tryz.ntmps64
  go_wp2_with fail
  refine HN.out.mono ?_
  rintro e w0 ⟨rfl, hw⟩
  rw [hw] at HR0 HG0 HQ0 HD0
  rw [← hqq]
  have hpq2 : p ≤ q := by omega
  clear hw HN hqq
  go_wp2
  go_loopg [4, 5] (C.S.size + 1) (fun gk v u wr => SqR w p q C D deep P R gk v u wr)
  case atStart => exact ⟨[], [], i, cop, rfl, HE.out, by omega, HR0.out, HG0.out, HQ0.out, HD0.out, LsT.nil _ _, by simp⟩
  case round =>
    obtain ⟨L, Ls, j, c, rfl, hRR, hgk, hI⟩ := hrel
    obtain ⟨av, cv, rfl⟩ := row_slice hI.ls.own
    have hjl := hI.rd.le
    have hql := (Array.getElem?_eq_some_iff.1 hI.br).1
    cases gk with
    | zero => omega
    | succ gk =>
    obtain ⟨y, hy⟩ : ∃ y, y = nx C.S j := ⟨_, rfl⟩
    rw [← hy]
    have HRR := Lib.hid hRR
    rw [seqG, ← hy] at HRR
    have HY := Lib.hid hy
    have HI := Lib.hid hI
    have hlen := hI.len
    clear hRR hy hI HR0 HG0 HQ0 HD0 HE
    by_cases hend : y = 124 ∨ y = 41 ∨ y = -1
    · have HPP := Lib.hid (show R = .ok (joinP 3 Ls, c) j by rw [HRR.out, if_pos hend])
      have HJ := Lib.hid (HI.out.ls.joins 3 (Or.inl rfl) (by omega))
      clear HRR
      rcases hend with rfl | rfl | rfl
      all_goals
        go_wp2_with fail
        refine HJ.out.mono ?_
        intro e w2 h2
        obtain ⟨x, rfl, hQ2, hPT, hst⟩ := join_end HI.out hpq hqs h2
        obtain ⟨d0, d1, d2, d3, d4, d5, d6, d7⟩ := cell8 (s := z0) hQ2
        obtain ⟨f0, f1, f2, f3, f4, f5, f6, f7⟩ := frozen8 (s := z0) hQ2
        have HPT := Lib.hid hPT
        have HST := Lib.hid hst
        clear h2 hQ2 hPT hst
        go_wp2
        exact bodyPost_ret (v := .tuple #[nodeV x.k x.s x.lo x.hi (.slice x.a x.n x.cap), .nilIface]) (ret8t Tryz.results64 rfl rfl HST.out) rfl (by rw [HPP.out]; exact HPT.out)
    · have e1 : (y != 124) = true := by simp; omega
      have e2 : (y != 41) = true := by simp; omega
      have e3 : (y != -1) = true := by simp; omega
      have hlt := nx_lt (S := C.S) (i := j) (by rw [← HY.out]; omega)
      have HRR2 := Lib.hid HRR.out
      rw [if_neg hend] at HRR2
      clear HRR hend
      go_wp2_with fail
      refine (HP.out wr j c HI.out.rd HI.out.df hlt).mono ?_
      intro e w1 h1
      have hG1 := h1.1
      have HQ1 := Lib.hid (box_on HI.out.br (show p ≠ q by omega) hG1)
      have HG1 := Lib.hid (gtrans HI.out.grown hG1)
      have HD1 := Lib.hid (HI.out.df.on HI.out.rd.lt hG1)
      have HL1 := Lib.hid (HI.out.ls.on HI.out.rd hpq2 hG1)
      have hq1 := (Array.getElem?_eq_some_iff.1 HQ1.out).1
      cases hr1 : P j c with
      | er e0 k =>
        rw [hr1] at h1 HRR2
        obtain ⟨_, ⟨k0, s, lo, hi', a, n, cap, rfl⟩, hk, j1, c1, hR1⟩ := h1
        have hb1 := alloc_below w1 (.cells (row8 k0 s lo hi' (.slice a n cap)) 31)
        have HQ2 := Lib.hid ((hb1.block q hq1).trans HQ1.out)
        have HF := Lib.hid (fin8r (hR1.below hb1) (gbelow HG1.out hb1) hpq hqs HQ2.out 0 z0 0 0 (.slice none 0 0))
        obtain ⟨d0, d1, d2, d3, d4, d5, d6, d7⟩ := cell8 (s := z0) HQ2.out
        obtain ⟨f0, f1, f2, f3, f4, f5, f6, f7⟩ := frozen8 (s := z0) HQ2.out
        have HPP := Lib.hid (show R = .er e0 k from HRR2.out)
        clear hR1 hb1 hr1 hG1 HRR2 HQ1 HG1 HD1 HL1 HI hq1 hql
        go_wp2
        exact bodyPost_ret (v := .tuple #[nodeV 0 z0 0 0 (.slice none 0 0), errV e0 k]) (ret8t Tryz.results64 rfl rfl HF.out.1) rfl (by rw [HPP.out]; exact ⟨HF.out.2.2, ⟨0, z0, 0, 0, none, 0, 0, rfl⟩, hk, j1, c1, HF.out.2.1⟩)
      | ok T j1 =>
        rw [hr1] at h1 HRR2
        obtain ⟨_, t, rfl, hs, hLt, hUt, hR1⟩ := h1
        obtain ⟨hjj, hGd⟩ := HPB.out j c T j1 hr1 hR1.le
        have hb1 := alloc_below w1 (.cells (row8 t.k t.s t.lo t.hi (.slice t.a t.n t.cap)) 31)
        have hb2 : Below w1.heap.size w1 ((w1.alloc (.cells (row8 t.k t.s t.lo t.hi (.slice t.a t.n t.cap)) 31)).alloc (.cells (row8 t.k t.s t.lo t.hi (.slice t.a t.n t.cap)) 31)) := hb1.alloc (by simp) _
        have HL2 := Lib.hid (HL1.out.below hb2)
        have HT := Lib.hid (show sameT t T.1 = true ∧ Gd t ∧ Lives _ _ t ∧ Up (q + 1) t ∧ ∀ g, (Value.slice av L.length cv).ownBlock = some g → Off g t from
          ⟨hs, hGd.same hs, hLt.now hb2, hUt.mono (by omega), fun g hg => Up.off (hUt.mono (by have := (HI.out.ls.own.lt _ hg).2; omega))⟩)
        have HR2 := Lib.hid (hR1.below hb2)
        have HG2 := Lib.hid (gbelow HG1.out hb2)
        have HQ2 := Lib.hid ((hb2.block q hq1).trans HQ1.out)
        have HD2 := Lib.hid (HD1.out.on hR1.lt (grown_of_below hb2 _))
        have HPP := Lib.hid (show R = seqG P (nx C.S) gk (Ls ++ [T.1]) j1 T.2 from HRR2.out)
        clear hs hGd hLt hUt hR1 hb1 hb2 hr1 hG1 HRR2 HQ1 HG1 HD1 HL1 HI hql
        unfold Tr.val
        go_wp2_with (first | (at_builtin; refine wpList_append_own_at _ rfl _ _ 29 rfl (q + 1) 31 i0 _ 8 80 Tryz.underlying29 hi hz0 hz1 hz2 rfl (by decide) _ _ _ rfl HL2.out.own ⟨w1.heap.size + 1, 0, none⟩ 1 1 (cells8 t) rfl rfl ?d1 ?d2 ?d3 ?d4 ?d5 ?_))
        case d1 => exact World.news_of_block (cs := row8 t.k t.s t.lo t.hi (.slice t.a t.n t.cap)) (t := 31) (fr := (0, 0)) (two_newb w1 _ _)
        case d2 => have := flatT_one_cell [t]; rwa [flatT_one] at this
        case d3 => unfold maxLen; omega
        case d4 => omega
        case d5 => simp; omega
        · intro v1 w3 hown3 hgrow _ hat
          obtain ⟨t1, t2, t3, t4, t5⟩ := HT.out
          have HL3 := Lib.hid (HL2.out.snoc t1 t2 t3 t4 t5 hown3 hgrow (by simpa using hat))
          obtain ⟨a1, cp1, rfl⟩ := row_slice hown3
          have hgp : ∀ k, k < q + 1 → some k ≠ (Value.slice av L.length cv).ownBlock := fun k hk e => by have := (HL2.out.own.lt _ e.symm).1; omega
          have hb3 : Below (q + 1) ((w1.alloc (.cells (row8 t.k t.s t.lo t.hi (.slice t.a t.n t.cap)) 31)).alloc (.cells (row8 t.k t.s t.lo t.hi (.slice t.a t.n t.cap)) 31)) w3 := ⟨hgrow.os, hgrow.tape, hgrow.output, hgrow.size, fun k hk => hgrow.block k (by simp; omega) (hgp k hk)⟩
          have HR3 := Lib.hid (show Rd w3 p C j1 deep T.2 from ⟨(hb3.block p (by omega)).trans HR2.out.box, HR2.out.sz, HR2.out.le, HR2.out.dp, HR2.out.cp⟩)
          have HI3 := Lib.hid (show SqI w p q C D deep (L ++ [t]) (Ls ++ [T.1]) (.slice a1 (L.length + 1) cp1) j1 T.2 w3 from
            ⟨HR3.out, ⟨hb3.os.trans HG2.out.os, hb3.tape.trans HG2.out.tape, hb3.output.trans HG2.out.output, Nat.le_trans HG2.out.size hb3.size, fun k hk hr => (hb3.block k (by omega)).trans (HG2.out.block k hk hr)⟩, (hb3.block q (by omega)).trans HQ2.out,
              ⟨HD2.out.len, fun hn => by obtain ⟨g, off, ha, hg, hc⟩ := HD2.out.row hn; exact ⟨g, off, ha, hg, fun i hi => ⟨(hb3.cell (p := ⟨g, _, none⟩) (by show g < q + 1; omega)).trans (hc i hi).1, (hc i hi).2.below (show g < q + 1 by omega) hb3⟩⟩, fun i hi => ⟨(HD2.out.tr i hi).1.below (hb3.mono (by omega)), (HD2.out.tr i hi).2⟩⟩, HL3.out, by simp; omega⟩)
          have HN3 := Lib.hid (next_any w3 p C j1 deep T.2 HR3.out)
          clear hown3 hgrow hat hgp hb3 t1 t2 t3 t4 t5 HT HL2 HR2 HG2 HQ2 HD2
          go_wp2_with (go_at_call 44; refine HN3.out.mono ?_; rintro e w' ⟨rfl, rfl⟩)
          go_roundg gk
          case rel => exact ⟨L ++ [t], Ls ++ [T.1], j1, T.2, rfl, HPP.out, by omega, HI3.out⟩
          case measure => omega
end Go.Proofs.YtnloepanbjgbaaaGreatDoor
/- The landed code's choice. -/
namespace Go.Proofs.YtnloepanbjgbaaaGreatDoor
open Go.RowKit
def choiceG (Q : Nat → Nat → Rs (Tr × Nat)) (N : Nat → Int) : Nat → List Tr → Nat → Nat → Rs (Tr × Nat)
  | 0, _, i, _ => .er 20 i
  | n + 1, L, i, c => match Q i c with
    | .er e k => .er e k
    | .ok T j => if N j = 124 then choiceG Q N n (L ++ [T.1]) (j + 1) T.2 else .ok (joinP 4 (L ++ [T.1]), T.2) j
def ChR (w : World) (p q : Nat) (C : Cx) (D : Df) (deep : Nat) (Q : Nat → Nat → Rs (Tr × Nat)) (R : Rs (Tr × Nat)) (gk : Nat) (v : Value) (wr : World) : Prop :=
  ∃ (L Ls : List Tr) (i c : Nat), R = choiceG Q (nx C.S) gk Ls i c ∧ C.S.size < i + gk ∧ L.length ≤ i ∧ SqI w p q C D deep L Ls v i c wr
set_option maxRecDepth 100000 in
set_option maxHeartbeats 4000000 in
theorem choice_any (P : Nat → Nat → Rs (Tr × Nat)) (D : Df) (w : World) (p : Nat) (C : Cx) (i deep cop : Nat) (h : Rd w p C i deep cop) (hD : DfAt w p C D)
    (hP : ∀ (w1 : World) (i c : Nat), Rd w1 p C i deep c → DfAt w1 p C D → Calls Tryz.prog 64 #[rp p] w1 (PT w1 p C deep (P i c)))
    (hPb : ∀ (i c : Nat) (T : Tr × Nat) (j : Nat), P i c = .ok T j → j ≤ C.S.size → i ≤ j ∧ Gd T.1) :
    Calls Tryz.prog 43 #[rp p] w (PT w p C deep (choiceG P (nx C.S) (C.S.size + 1) [] i cop)) := by
  obtain ⟨i0, hi, hz0, hz1, hz2⟩ := info_parts info27
  have hpq := h.lt
  have hz := h.sz
  have hb0 := alloc_below w (.cells (row8 0 z0 0 0 (.slice none 0 0)) 31)
  have HR0 := Lib.hid (h.below hb0)
  have HG0 := Lib.hid (grown_of_below hb0 (some p))
  have HQ0 := Lib.hid (heap_alloc_new w (.cells (row8 0 z0 0 0 (.slice none 0 0)) 31))
  have HD0 := Lib.hid (hD.on hpq HG0.out)
  have HP := Lib.hid hP
  have HPB := Lib.hid hPb
  obtain ⟨R, hR⟩ : ∃ R, R = choiceG P (nx C.S) (C.S.size + 1) [] i cop := ⟨_, rfl⟩
  rw [← hR]
  have HE := Lib.hid hR
  clear hR h hb0 hD hP hPb
  obtain ⟨q, hqq⟩ : ∃ q, q = w.heap.size := ⟨_, rfl⟩
  have hqs : w.heap.size ≤ q := by omega
  rw [← hqq] at HQ0
  go_enter Tryz.func43, Tryz.ntmps43
  go_wp2
  rw [← hqq]
  have hpq2 : p ≤ q := by omega
  clear hqq
  go_loopg [4] (C.S.size + 1) (fun gk v wr => ChR w p q C D deep P R gk v wr)
  case atStart => exact ⟨[], [], i, cop, HE.out, by omega, by simp, HR0.out, HG0.out, HQ0.out, HD0.out, LsT.nil _ _, by simp⟩
  case round =>
    obtain ⟨L, Ls, j, c, hRR, hgk, hli, hI⟩ := hrel
    obtain ⟨av, cv, rfl⟩ := row_slice hI.ls.own
    have hjl := hI.rd.le
    have hql := (Array.getElem?_eq_some_iff.1 hI.br).1
    cases gk with
    | zero => omega
    | succ gk =>
    have HRR2 := Lib.hid hRR
    rw [choiceG] at HRR2
    have HI := Lib.hid hI
    have hlen := hI.len
    clear hRR hI HR0 HG0 HQ0 HD0 HE
    go_wp2_with fail
    refine (HP.out wr j c HI.out.rd HI.out.df).mono ?_
    intro e w1 h1
    have hG1 := h1.1
    have HQ1 := Lib.hid (box_on HI.out.br (show p ≠ q by omega) hG1)
    have HG1 := Lib.hid (gtrans HI.out.grown hG1)
    have HD1 := Lib.hid (HI.out.df.on HI.out.rd.lt hG1)
    have HL1 := Lib.hid (HI.out.ls.on HI.out.rd hpq2 hG1)
    have hq1 := (Array.getElem?_eq_some_iff.1 HQ1.out).1
    cases hr1 : P j c with
    | er e0 k =>
      rw [hr1] at h1 HRR2
      obtain ⟨_, ⟨k0, s, lo, hi', a, n, cap, rfl⟩, hk, j1, c1, hR1⟩ := h1
      have hb1 := alloc_below w1 (.cells (row8 k0 s lo hi' (.slice a n cap)) 31)
      have HQ2 := Lib.hid ((hb1.block q hq1).trans HQ1.out)
      have HF := Lib.hid (fin8r (hR1.below hb1) (gbelow HG1.out hb1) hpq hqs HQ2.out 0 z0 0 0 (.slice none 0 0))
      obtain ⟨d0, d1, d2, d3, d4, d5, d6, d7⟩ := cell8 (s := z0) HQ2.out
      obtain ⟨f0, f1, f2, f3, f4, f5, f6, f7⟩ := frozen8 (s := z0) HQ2.out
      have HPP := Lib.hid (show R = .er e0 k from HRR2.out)
      clear hR1 hb1 hr1 hG1 HRR2 HQ1 HG1 HD1 HL1 HI hq1 hql
      go_wp2
      exact bodyPost_ret (v := .tuple #[nodeV 0 z0 0 0 (.slice none 0 0), errV e0 k]) (ret8t Tryz.results43 rfl rfl HF.out.1) rfl (by rw [HPP.out]; exact ⟨HF.out.2.2, ⟨0, z0, 0, 0, none, 0, 0, rfl⟩, hk, j1, c1, HF.out.2.1⟩)
    | ok T j1 =>
      rw [hr1] at h1 HRR2
      obtain ⟨_, t, rfl, hs, hLt, hUt, hR1⟩ := h1
      obtain ⟨hjj, hGd⟩ := HPB.out j c T j1 hr1 hR1.le
      have hb1 := alloc_below w1 (.cells (row8 t.k t.s t.lo t.hi (.slice t.a t.n t.cap)) 31)
      have hb2 : Below w1.heap.size w1 ((w1.alloc (.cells (row8 t.k t.s t.lo t.hi (.slice t.a t.n t.cap)) 31)).alloc (.cells (row8 t.k t.s t.lo t.hi (.slice t.a t.n t.cap)) 31)) := hb1.alloc (by simp) _
      have HL2 := Lib.hid (HL1.out.below hb2)
      have HT := Lib.hid (show sameT t T.1 = true ∧ Gd t ∧ Lives _ _ t ∧ Up (q + 1) t ∧ ∀ g, (Value.slice av L.length cv).ownBlock = some g → Off g t from
        ⟨hs, hGd.same hs, hLt.now hb2, hUt.mono (by omega), fun g hg => Up.off (hUt.mono (by have := (HI.out.ls.own.lt _ hg).2; omega))⟩)
      have HR2 := Lib.hid (hR1.below hb2)
      have HG2 := Lib.hid (gbelow HG1.out hb2)
      have HQ2 := Lib.hid ((hb2.block q hq1).trans HQ1.out)
      have HD2 := Lib.hid (HD1.out.on hR1.lt (grown_of_below hb2 _))
      have HPP0 := Lib.hid (show R = if nx C.S j1 = 124 then choiceG P (nx C.S) gk (Ls ++ [T.1]) (j1 + 1) T.2 else .ok (joinP 4 (Ls ++ [T.1]), T.2) j1 from HRR2.out)
      clear hs hGd hLt hUt hR1 hb1 hb2 hr1 hG1 HRR2 HQ1 HG1 HD1 HL1 HI hql
      unfold Tr.val
      go_wp2_with (first | (at_builtin; refine wpList_append_own_at _ rfl _ _ 29 rfl (q + 1) 31 i0 _ 8 80 Tryz.underlying29 hi hz0 hz1 hz2 rfl (by decide) _ _ _ rfl HL2.out.own ⟨w1.heap.size + 1, 0, none⟩ 1 1 (cells8 t) rfl rfl ?d1 ?d2 ?d3 ?d4 ?d5 ?_))
      case d1 => exact World.news_of_block (cs := row8 t.k t.s t.lo t.hi (.slice t.a t.n t.cap)) (t := 31) (fr := (0, 0)) (two_newb w1 _ _)
      case d2 => have := flatT_one_cell [t]; rwa [flatT_one] at this
      case d3 => unfold maxLen; omega
      case d4 => omega
      case d5 => simp; omega
      · intro v1 w3 hown3 hgrow _ hat
        obtain ⟨t1, t2, t3, t4, t5⟩ := HT.out
        have HL3 := Lib.hid (HL2.out.snoc t1 t2 t3 t4 t5 hown3 hgrow (by simpa using hat))
        obtain ⟨a1, cp1, rfl⟩ := row_slice hown3
        have hgp : ∀ k, k < q + 1 → some k ≠ (Value.slice av L.length cv).ownBlock := fun k hk e => by have := (HL2.out.own.lt _ e.symm).1; omega
        have hb3 : Below (q + 1) ((w1.alloc (.cells (row8 t.k t.s t.lo t.hi (.slice t.a t.n t.cap)) 31)).alloc (.cells (row8 t.k t.s t.lo t.hi (.slice t.a t.n t.cap)) 31)) w3 := ⟨hgrow.os, hgrow.tape, hgrow.output, hgrow.size, fun k hk => hgrow.block k (by simp; omega) (hgp k hk)⟩
        have HR3 := Lib.hid (show Rd w3 p C j1 deep T.2 from ⟨(hb3.block p (by omega)).trans HR2.out.box, HR2.out.sz, HR2.out.le, HR2.out.dp, HR2.out.cp⟩)
        have HI3 := Lib.hid (show SqI w p q C D deep (L ++ [t]) (Ls ++ [T.1]) (.slice a1 (L.length + 1) cp1) j1 T.2 w3 from
          ⟨HR3.out, ⟨hb3.os.trans HG2.out.os, hb3.tape.trans HG2.out.tape, hb3.output.trans HG2.out.output, Nat.le_trans HG2.out.size hb3.size, fun k hk hr => (hb3.block k (by omega)).trans (HG2.out.block k hk hr)⟩, (hb3.block q (by omega)).trans HQ2.out,
            ⟨HD2.out.len, fun hn => by obtain ⟨g, off, ha, hg, hc⟩ := HD2.out.row hn; exact ⟨g, off, ha, hg, fun i hi => ⟨(hb3.cell (p := ⟨g, _, none⟩) (by show g < q + 1; omega)).trans (hc i hi).1, (hc i hi).2.below (show g < q + 1 by omega) hb3⟩⟩, fun i hi => ⟨(HD2.out.tr i hi).1.below (hb3.mono (by omega)), (HD2.out.tr i hi).2⟩⟩, HL3.out, by simp; omega⟩)
        have HN3 := Lib.hid (next_any w3 p C j1 deep T.2 HR3.out)
        obtain ⟨y, hy⟩ : ∃ y, y = nx C.S j1 := ⟨_, rfl⟩
        rw [← hy] at HN3 HPP0
        have HY := Lib.hid hy
        have hle3 := HR3.out.le
        clear hown3 hgrow hat hgp hb3 t1 t2 t3 t4 t5 HT HL2 HR2 HG2 HQ2 HD2 hy
        by_cases hm : y = 124
        · have HPP := Lib.hid (show R = choiceG P (nx C.S) gk (Ls ++ [T.1]) (j1 + 1) T.2 by rw [HPP0.out, if_pos hm])
          have hlt3 := nx_lt (S := C.S) (i := j1) (by rw [← HY.out]; omega)
          obtain ⟨c0, c1, c2, c3, c4, c5⟩ := HR3.out.cells
          have hf := HR3.out.free 3
          have hst := HR3.out.step (j := j1 + 1) (by omega) (v := (j1 : Int) + 1) (by omega)
          have HI4 := Lib.hid (show SqI w p q C D deep (L ++ [t]) (Ls ++ [T.1]) (.slice a1 (L.length + 1) cp1) (j1 + 1) T.2 (w3.setCell ⟨p, 3, none⟩ (.int .i64 ((j1 : Int) + 1))) from
            ⟨hst.1, gtrans HI3.out.grown hst.2, box_on HI3.out.br (show p ≠ q by omega) hst.2, HI3.out.df.on HR3.out.lt hst.2, HI3.out.ls.on HR3.out hpq2 hst.2, by have := HI3.out.len; omega⟩)
          clear hst HI3 HR3 HPP0
          subst hm
          go_wp2_with (go_at_call 44; refine HN3.out.mono ?_; rintro e w' ⟨rfl, rfl⟩)
          go_roundg gk
          case rel => exact ⟨L ++ [t], Ls ++ [T.1], j1 + 1, T.2, HPP.out, by omega, by simp; omega, HI4.out⟩
          case measure => omega
        · have HPP := Lib.hid (show R = .ok (joinP 4 (Ls ++ [T.1]), T.2) j1 by rw [HPP0.out, if_neg hm])
          have hm' : (y != 124) = true := by simp [hm]
          have HJ := Lib.hid (HI3.out.ls.joins 4 (Or.inr rfl) (by have := HI3.out.len; omega))
          go_wp2_with fail
          refine HN3.out.mono ?_
          rintro e w' ⟨rfl, rfl⟩
          go_wp2_with fail
          refine HJ.out.mono ?_
          intro e w2 h2
          obtain ⟨x, rfl, hQ2, hPT, hst⟩ := join_end HI3.out hpq hqs h2
          obtain ⟨d0, d1, d2, d3, d4, d5, d6, d7⟩ := cell8 (s := z0) hQ2
          obtain ⟨f0, f1, f2, f3, f4, f5, f6, f7⟩ := frozen8 (s := z0) hQ2
          have HPT := Lib.hid hPT
          have HST := Lib.hid hst
          clear h2 hQ2 hPT hst
          go_wp2
          exact bodyPost_ret (v := .tuple #[nodeV x.k x.s x.lo x.hi (.slice x.a x.n x.cap), .nilIface]) (ret8t Tryz.results43 rfl rfl HST.out) rfl (by rw [HPP.out]; exact HPT.out)
end Go.Proofs.YtnloepanbjgbaaaGreatDoor
/- The landed code's group. -/
namespace Go.Proofs.YtnloepanbjgbaaaGreatDoor
open Go.RowKit
def grpG (Ch : Nat → Nat → Rs (Tr × Nat)) (N : Nat → Int) (i c : Nat) : Rs (Tr × Nat) :=
  match Ch (i + 1) c with
  | .er e k => .er e k
  | .ok T j => if N j = 41 then .ok T (j + 1) else .er 20 j
set_option maxRecDepth 100000 in
set_option maxHeartbeats 4000000 in
theorem group_full (w : World) (p : Nat) (C : Cx) (i cop : Nat) (h : Rd w p C i 20 cop) : Calls Tryz.prog 108 #[rp p] w (PT w p C 20 (.er 2 i)) := by
  have hpq := h.lt
  have hle := h.le
  have hb0 := alloc_below w (.cells (row8 0 z0 0 0 (.slice none 0 0)) 31)
  have HR0 := Lib.hid (h.below hb0)
  have HW := Lib.hid (wrong_any 2 _ p C i 20 cop HR0.out)
  have HQ0 := Lib.hid (heap_alloc_new w (.cells (row8 0 z0 0 0 (.slice none 0 0)) 31))
  have HG0 := Lib.hid (grown_of_below hb0 (some p))
  obtain ⟨c0, c1, c2, c3, c4, c5⟩ := h.cells
  obtain ⟨q, hqq⟩ : ∃ q, q = w.heap.size := ⟨_, rfl⟩
  have hqs : w.heap.size ≤ q := by omega
  rw [← hqq] at HQ0
  clear h hb0
  go_enter Tryz.func108, Tryz.ntmps108
  go_wp2_with fail
  refine HW.out.mono ?_
  rintro e w0 ⟨rfl, hw⟩
  rw [hw] at HR0 HG0 HQ0
  rw [← hqq]
  clear hw HW hqq c0 c1 c2 c3 c4 c5
  have HF := Lib.hid (fin8r HR0.out HG0.out hpq hqs HQ0.out 0 z0 0 0 (.slice none 0 0))
  obtain ⟨d0, d1, d2, d3, d4, d5, d6, d7⟩ := cell8 (s := z0) HQ0.out
  obtain ⟨f0, f1, f2, f3, f4, f5, f6, f7⟩ := frozen8 (s := z0) HQ0.out
  go_wp2
  exact bodyPost_ret (v := .tuple #[nodeV 0 z0 0 0 (.slice none 0 0), errV 2 i]) (ret8t Tryz.results108 rfl rfl HF.out.1) rfl ⟨HF.out.2.2, ⟨0, z0, 0, 0, none, 0, 0, rfl⟩, hle, _, _, HF.out.2.1⟩
set_option maxRecDepth 100000 in
set_option maxHeartbeats 4000000 in
theorem group_any (Ch : Nat → Nat → Rs (Tr × Nat)) (D : Df) (w : World) (p : Nat) (C : Cx) (i deep cop : Nat) (h : Rd w p C i deep cop) (hD : DfAt w p C D) (hd : deep < 20) (hi : i < C.S.size)
    (hC : ∀ w1 : World, Rd w1 p C (i + 1) (deep + 1) cop → DfAt w1 p C D → Calls Tryz.prog 43 #[rp p] w1 (PT w1 p C (deep + 1) (Ch (i + 1) cop))) :
    Calls Tryz.prog 108 #[rp p] w (PT w p C deep (grpG Ch (nx C.S) i cop)) := by
  have hpq := h.lt
  have hz := h.sz
  have hdp := h.dp
  obtain ⟨c0, c1, c2, c3, c4, c5⟩ := h.cells
  have hf3 := h.free 3
  have hf4 := h.free 4
  have hst := h.step (j := i + 1) (by omega) (v := (i : Int) + 1) (by omega)
  have hst2 := hst.1.deeper (j := deep + 1) (by omega) (v := (deep : Int) + 1) (by omega)
  have hb0 := alloc_below ((w.setCell ⟨p, 3, none⟩ (.int .i64 ((i : Int) + 1))).setCell ⟨p, 4, none⟩ (.int .i64 ((deep : Int) + 1))) (.cells (row8 0 z0 0 0 (.slice none 0 0)) 31)
  have HR0 := Lib.hid (hst2.1.below hb0)
  have HG0 := Lib.hid (gbelow (gtrans hst.2 hst2.2) hb0)
  have HD0 := Lib.hid (hD.on hpq HG0.out)
  have hsz0 : ((w.setCell ⟨p, 3, none⟩ (.int .i64 ((i : Int) + 1))).setCell ⟨p, 4, none⟩ (.int .i64 ((deep : Int) + 1))).heap.size = w.heap.size := by simp
  have HQ0 := Lib.hid (show (((w.setCell ⟨p, 3, none⟩ (.int .i64 ((i : Int) + 1))).setCell ⟨p, 4, none⟩ (.int .i64 ((deep : Int) + 1))).alloc (.cells (row8 0 z0 0 0 (.slice none 0 0)) 31)).heap[w.heap.size]? = some (.cells (row8 0 z0 0 0 (.slice none 0 0)) 31 (0, 0)) by
    have := heap_alloc_new ((w.setCell ⟨p, 3, none⟩ (.int .i64 ((i : Int) + 1))).setCell ⟨p, 4, none⟩ (.int .i64 ((deep : Int) + 1))) (.cells (row8 0 z0 0 0 (.slice none 0 0)) 31)
    rwa [hsz0] at this)
  have HZ0 := Lib.hid (show (((w.setCell ⟨p, 3, none⟩ (.int .i64 ((i : Int) + 1))).setCell ⟨p, 4, none⟩ (.int .i64 ((deep : Int) + 1))).alloc (.cells (row8 0 z0 0 0 (.slice none 0 0)) 31)).heap.size = w.heap.size + 1 by simp)
  have HC := Lib.hid (hC _ HR0.out HD0.out)
  obtain ⟨R, hR⟩ : ∃ R, R = grpG Ch (nx C.S) i cop := ⟨_, rfl⟩
  rw [← hR]
  unfold grpG at hR
  have HE := Lib.hid hR
  clear hR h hb0 hD hC hst hst2 hsz0
  obtain ⟨q, hqq⟩ : ∃ q, q = w.heap.size := ⟨_, rfl⟩
  have hqs : w.heap.size ≤ q := by omega
  rw [← hqq] at HQ0 HZ0
  have e20 : ((deep : Int) == 20) = false := by simp; omega
  go_enter Tryz.func108, Tryz.ntmps108
  go_wp2_with fail
  refine HC.out.mono ?_
  intro e w1 h1
  rw [← hqq]
  have hq1 : q + 1 ≤ w1.heap.size := by have := h1.1.size; rw [HZ0.out] at this; exact this
  have HG1 := Lib.hid (gtrans HG0.out h1.1)
  have HQ1 := Lib.hid (box_on HQ0.out (show p ≠ q by omega) h1.1)
  have hp1 : p < w1.heap.size := by omega
  have hq2 : q < w1.heap.size := by omega
  clear HC hqq c0 c1 c2 c3 c4 c5 hf3 hf4 e20
  obtain ⟨dd, hdd⟩ : ∃ dd, dd = deep + 1 := ⟨_, rfl⟩
  rw [← hdd] at h1
  have key : ∀ (k0 : Int) (s : Nat → Int) (lo hi' : Int) (a : Option Addr) (n cap j cc : Nat), Rd w1 p C j dd cc →
      Rd ((w1.setCell ⟨p, 4, none⟩ (.int .i64 ((dd : Int) - 1))).alloc (.cells (row8 k0 s lo hi' (.slice a n cap)) 31)) p C j deep cc ∧
      w.grownBy ((w1.setCell ⟨p, 4, none⟩ (.int .i64 ((dd : Int) - 1))).alloc (.cells (row8 k0 s lo hi' (.slice a n cap)) 31)) (some p) ∧
      ((w1.setCell ⟨p, 4, none⟩ (.int .i64 ((dd : Int) - 1))).alloc (.cells (row8 k0 s lo hi' (.slice a n cap)) 31)).heap[q]? = some (.cells (row8 0 z0 0 0 (.slice none 0 0)) 31 (0, 0)) ∧
      ((w1.setCell ⟨p, 4, none⟩ (.int .i64 ((dd : Int) - 1))).alloc (.cells (row8 k0 s lo hi' (.slice a n cap)) 31)).heap[w1.heap.size]? = some (.cells (row8 k0 s lo hi' (.slice a n cap)) 31 (0, 0)) := fun k0 s lo hi' a n cap j cc hr => by
    have hst := hr.deeper (j := deep) hdp (v := (dd : Int) - 1) (by omega)
    have hb := alloc_below (w1.setCell ⟨p, 4, none⟩ (.int .i64 ((dd : Int) - 1))) (.cells (row8 k0 s lo hi' (.slice a n cap)) 31)
    have hzz : (w1.setCell ⟨p, 4, none⟩ (.int .i64 ((dd : Int) - 1))).heap.size = w1.heap.size := by simp
    have hnew := heap_alloc_new (w1.setCell ⟨p, 4, none⟩ (.int .i64 ((dd : Int) - 1))) (.cells (row8 k0 s lo hi' (.slice a n cap)) 31)
    rw [hzz] at hnew
    exact ⟨hst.1.below hb, gbelow (gtrans HG1.out hst.2) hb, (hb.block q (by rw [hzz]; exact hq2)).trans (box_on HQ1.out (show p ≠ q by omega) hst.2), hnew⟩
  have KEY := Lib.hid key
  have hd1 : 1 ≤ dd := by omega
  have hd20 : dd ≤ 20 := by omega
  have HDD := Lib.hid hdd
  clear key hdd
  cases hr1 : Ch (i + 1) cop with
  | er e0 k =>
    rw [hr1] at h1 HE
    obtain ⟨_, ⟨k0, s, lo, hi', a, n, cap, rfl⟩, hk, j1, cc, hR1⟩ := h1
    obtain ⟨c0, c1, c2, c3, c4, c5⟩ := hR1.cells
    have hf4 := hR1.free 4
    obtain ⟨hR2, hG2, hQ2, hX2⟩ := KEY.out k0 s lo hi' a n cap j1 cc hR1
    have HF := Lib.hid (fin8r hR2 hG2 hpq hqs hQ2 k0 s lo hi' (.slice a n cap))
    have HPT := Lib.hid (show PT w p C deep R (.returned (.tuple #[nodeV k0 s lo hi' (.slice a n cap), errV e0 k])) _ by rw [HE.out]; exact ⟨HF.out.2.2, ⟨k0, s, lo, hi', a, n, cap, rfl⟩, hk, j1, cc, HF.out.2.1⟩)
    obtain ⟨d0, d1, d2, d3, d4, d5, d6, d7⟩ := cell8 (s := z0) hQ2
    obtain ⟨f0, f1, f2, f3, f4, f5, f6, f7⟩ := frozen8 (s := z0) hQ2
    clear hR1 hR2 hG2 hQ2 hX2 hr1 HE KEY hq1 hq2
    go_wp2
    exact bodyPost_ret (v := .tuple #[nodeV k0 s lo hi' (.slice a n cap), errV e0 k]) (ret8t Tryz.results108 rfl rfl HF.out.1) rfl HPT.out
  | ok T j1 =>
    rw [hr1] at h1 HE
    have HE := Lib.hid (show R = if nx C.S j1 = 41 then .ok T (j1 + 1) else .er 20 j1 from HE.out)
    obtain ⟨_, x, rfl, hs, hL, hU, hR1⟩ := h1
    obtain ⟨c0, c1, c2, c3, c4, c5⟩ := hR1.cells
    have hf4 := hR1.free 4
    obtain ⟨hR2, hG2, hQ2, hX2⟩ := KEY.out x.k x.s x.lo x.hi x.a x.n x.cap j1 T.2 hR1
    have hU2 : Up (q + 1) x := hU.mono (by rw [HZ0.out]; exact Nat.le_refl _)
    have hL2 : Lives ((w1.setCell ⟨p, 4, none⟩ (.int .i64 ((dd : Int) - 1))).alloc (.cells (row8 x.k x.s x.lo x.hi (.slice x.a x.n x.cap)) 31)) _ x := (hL.on hR1 (hR1.deeper (j := deep) hdp (v := (dd : Int) - 1) (by have := HDD.out; omega)).2).now (alloc_below _ _)
    have HL2 := Lib.hid hL2
    have HU2 := Lib.hid hU2
    have HS := Lib.hid hs
    have HR2 := Lib.hid hR2
    have HG2 := Lib.hid hG2
    have HQ2 := Lib.hid hQ2
    have HX2 := Lib.hid hX2
    have hjl := hR2.le
    clear hs hL hU hR1 hR2 hG2 hQ2 hX2 hU2 hL2 hr1 KEY
    obtain ⟨xb, hxb⟩ : ∃ xb, xb = w1.heap.size := ⟨_, rfl⟩
    rw [← hxb] at HX2
    have hxq : xb ≠ q := by omega
    have hxp : xb ≠ p := by omega
    have hqx : q < xb := by omega
    unfold Tr.val
    by_cases hm : nx C.S j1 = 41
    · rw [if_pos hm] at HE
      have HK := Lib.hid (skip_yes 41 _ p C j1 deep T.2 HR2.out hm (by omega))
      clear hm hq1 hq2
      go_wp2_with fail
      refine HK.out.mono ?_
      rintro e w3 ⟨rfl, hR3, hG3⟩
      rw [← hxb]
      have hQ3 := box_on HQ2.out (show p ≠ q by omega) hG3
      have hX3 := box_on HX2.out (show p ≠ xb by omega) hG3
      have HF := Lib.hid (fin8r hR3 (gtrans HG2.out hG3) hpq hqs hQ3 x.k x.s x.lo x.hi (.slice x.a x.n x.cap))
      have HPT := Lib.hid (show PT w p C deep R (.returned (.tuple #[nodeV x.k x.s x.lo x.hi (.slice x.a x.n x.cap), .nilIface])) _ by
        rw [HE.out]; exact ⟨HF.out.2.2, x, rfl, HS.out, lives_put8u HU2.out (HL2.out.on HR2.out hG3) _ _ _ _ _, HU2.out.mono (by omega), HF.out.2.1⟩)
      obtain ⟨d0, d1, d2, d3, d4, d5, d6, d7⟩ := cell8 (s := z0) hQ3
      obtain ⟨f0, f1, f2, f3, f4, f5, f6, f7⟩ := frozen8 (s := z0) hQ3
      obtain ⟨b0, b1, b2, b3, b4, b5, b6, b7⟩ := cell8 hX3
      clear hR3 hG3 hQ3 hX3 HK hxb HE
      go_wp2
      exact bodyPost_ret (v := .tuple #[nodeV x.k x.s x.lo x.hi (.slice x.a x.n x.cap), .nilIface]) (ret8t Tryz.results108 rfl rfl HF.out.1) rfl HPT.out
    · rw [if_neg hm] at HE
      have HK := Lib.hid (skip_no 41 _ p C j1 deep T.2 HR2.out hm)
      clear hm hq1 hq2
      go_wp2_with fail
      refine HK.out.mono ?_
      rintro e w3 ⟨rfl, hw⟩
      rw [hw] at HR2 HG2 HQ2 HX2
      rw [← hxb]
      have HF := Lib.hid (fin8r HR2.out HG2.out hpq hqs HQ2.out x.k x.s x.lo x.hi (.slice x.a x.n x.cap))
      have HPT := Lib.hid (show PT w p C deep R (.returned (.tuple #[nodeV x.k x.s x.lo x.hi (.slice x.a x.n x.cap), errV 20 j1])) _ by
        rw [HE.out]; exact ⟨HF.out.2.2, ⟨x.k, x.s, x.lo, x.hi, x.a, x.n, x.cap, rfl⟩, hjl, _, _, HF.out.2.1⟩)
      obtain ⟨d0, d1, d2, d3, d4, d5, d6, d7⟩ := cell8 (s := z0) HQ2.out
      obtain ⟨f0, f1, f2, f3, f4, f5, f6, f7⟩ := frozen8 (s := z0) HQ2.out
      obtain ⟨b0, b1, b2, b3, b4, b5, b6, b7⟩ := cell8 HX2.out
      clear HK hxb HE hw HL2
      go_wp2
      exact bodyPost_ret (v := .tuple #[nodeV x.k x.s x.lo x.hi (.slice x.a x.n x.cap), errV 20 j1]) (ret8t Tryz.results108 rfl rfl HF.out.1) rfl HPT.out
end Go.Proofs.YtnloepanbjgbaaaGreatDoor
/- The whole of reading: what is to be done, and that the landed code's choice does it. -/
namespace Go.Proofs.YtnloepanbjgbaaaGreatDoor
open Go.RowKit
/-- The definitions are as they should be. -/
def DfOk (D : Df) (n : Nat) : Prop := ∀ i, i < n → Flat (D.dt i) ∧ ((D.dt i).k = 3 ∨ (D.dt i).k = 4 → 0 < (D.dt i).n)
def Kd (t : Tr) : Prop := t.k = 3 ∨ t.k = 4 → 0 < t.n
/-- What is read is no longer than its text. -/
def Nb (F : Nat → Nat → Rs (Tr × Nat)) : Prop := ∀ i c T j, F i c = .ok T j → i < j ∧ T.1.n ≤ j - i ∧ Kd T.1
theorem itemsP_lt {N : Nat → Int} : ∀ {n : Nat} {s f : Nat → Int} {i j : Nat}, itemsP N n s i = .ok f j → i < j
  | 0, _, _, _, _, h => by cases h
  | n + 1, s, f, i, j, h => by
    rw [itemsP] at h
    split at h
    · cases h
    · rename_i t k hk
      have h1 := itemP_lt hk
      split at h
      · cases h; omega
      · have := itemsP_lt h; omega
theorem classP_lt {N : Nat → Int} {n : Nat} {fold : Bool} {i j : Nat} {f : Nat → Int} (h : classP N n fold i = .ok f j) : i < j := by
  unfold classP at h
  split at h
  · cases h
  · rename_i s k hk
    have h1 := itemsP_lt hk
    have h2 : i + 1 ≤ (if N (i + 1) = 94 then i + 2 else i + 1) := by split <;> omega
    generalize (if N (i + 1) = 94 then notS (foldB fold s) else foldB fold s) = F at h
    split at h
    · cases h
    · cases h; omega
theorem findD_some {D : Df} {nm : ByteArray} {t : Tr} : ∀ {n j : Nat}, findD D nm n j = some t → ∃ m, m < n + j ∧ t = D.dt m
  | 0, _, h => by cases h
  | n + 1, j, h => by
    rw [findD] at h
    split at h
    · cases h; exact ⟨j, by omega, rfl⟩
    · obtain ⟨m, hm, e⟩ := findD_some h; exact ⟨m, by omega, e⟩
theorem kd_lf (s : Nat → Int) (k : Int) (h : k = 1 ∨ k = 2) : Kd (lfT k s) := fun q => by have : (lfT k s).k = k := rfl; omega
theorem nb_atom {G : Nat → Nat → Rs (Tr × Nat)} (hG : Nb G) {S : ByteArray} {D : Df} {n : Nat} (hD : DfOk D n) (fold : Bool) : Nb (atomG G S D n fold) := by
  intro i c T j h
  unfold atomG at h
  split at h
  · exact hG i c T j h
  · split at h
    · unfold leafR at h
      split at h
      · rename_i s k hk
        cases h
        exact ⟨classP_lt hk, Nat.zero_le _, kd_lf _ _ (Or.inr rfl)⟩
      · cases h
    · split at h
      · unfold definedP at h
        split at h
        · cases h
        · rename_i hn
          split at h
          · split at h
            · rename_i t ht
              cases h
              have hsz : 1 ≤ (nmAt S (i + 1)).size := by
                have : nameB (nmAt S (i + 1)) = true := by simpa using hn
                simp only [nameB, Bool.and_eq_true, decide_eq_true_eq] at this
                exact this.1
              obtain ⟨m, hm, rfl⟩ := findD_some ht
              obtain ⟨hf, hk⟩ := hD m (by omega)
              unfold useT
              split
              · exact ⟨by omega, Nat.zero_le _, kd_lf _ _ (Or.inl rfl)⟩
              · refine ⟨by omega, ?_, hk⟩
                rcases hf with hf | hf
                · show (D.dt m).n ≤ _; omega
                · show (D.dt m).n ≤ _; omega
            · cases h
          · cases h
      · split at h
        · cases h; exact ⟨by omega, Nat.zero_le _, kd_lf _ _ (Or.inr rfl)⟩
        · unfold charR at h
          split at h
          · rename_i b k hk
            cases h
            exact ⟨oneP_lt hk, Nat.zero_le _, kd_lf _ _ (Or.inr rfl)⟩
          · cases h
theorem nb_quants {N : Nat → Int} : ∀ {n : Nat} {t T : Tr} {i j : Nat}, quantsG N n t i = .ok T j → i ≤ j ∧ (T = t ∨ (i < j ∧ T.n = 1 ∧ T.k = 5))
  | 0, _, _, _, _, h => by cases h
  | n + 1, t, T, i, j, h => by
    rw [quantsG] at h
    split at h
    · split at h
      · cases h
      · rename_i a k hk
        have h1 := quantP_lt hk
        obtain ⟨h2, h3⟩ := nb_quants h
        refine ⟨by omega, Or.inr ?_⟩
        rcases h3 with rfl | ⟨_, h4, h5⟩
        · exact ⟨by omega, rfl, rfl⟩
        · exact ⟨by omega, h4, h5⟩
    · cases h; exact ⟨Nat.le_refl _, Or.inl rfl⟩
theorem nb_piece {A : Nat → Nat → Rs (Tr × Nat)} (hA : Nb A) (S : ByteArray) : Nb (pieceG A S) := by
  intro i c T j h
  unfold pieceG at h
  split at h
  · cases h
  · rename_i T1 j1 h1
    obtain ⟨g1, g2, g3⟩ := hA i c T1 j1 h1
    split at h
    · cases h
    · rename_i T2 j2 h2
      cases h
      obtain ⟨k1, k2⟩ := nb_quants h2
      rcases k2 with rfl | ⟨k2, k3, k4⟩
      · exact ⟨by omega, by show T1.1.n ≤ _; omega, g3⟩
      · exact ⟨by omega, by show T2.n ≤ _; omega, fun q => by show 0 < T2.n; omega⟩
/-- How many parts there may be. -/
def wt (L : List Tr) : Nat := (L.map fun t => max 1 t.n).sum
theorem wt_snoc (L : List Tr) (t : Tr) : wt (L ++ [t]) = wt L + max 1 t.n := by simp [wt]
theorem flat_len (kind : Int) : ∀ L : List Tr, (L.flatMap (partL kind)).length ≤ wt L
  | [] => by simp [wt]
  | t :: L => by
    have h1 := flat_len kind L
    have h2 : (partL kind t).length ≤ max 1 t.n := by
      unfold partL; split
      · rw [kidsL_len]; omega
      · simp; omega
    simp only [List.flatMap_cons, List.length_append, wt, List.map_cons, List.sum_cons] at *
    omega
theorem flat_pos {kind : Int} (hk : kind = 3 ∨ kind = 4) {t : Tr} {L : List Tr} (h : Kd t) : 0 < ((t :: L).flatMap (partL kind)).length := by
  rw [List.flatMap_cons, List.length_append]
  have : 0 < (partL kind t).length := by
    unfold partL; split
    · rename_i e; rw [kidsL_len]; exact h (by omega)
    · simp
  omega
theorem nb_join {kind : Int} (hk : kind = 3 ∨ kind = 4) : ∀ (L : List Tr), (∀ t ∈ L, Kd t) → (joinP kind L).n ≤ wt L ∧ Kd (joinP kind L)
  | [], _ => ⟨Nat.zero_le _, kd_lf _ _ (Or.inl rfl)⟩
  | [t], h => ⟨by simp [joinP, wt]; omega, h t (by simp)⟩
  | t :: u :: L, h => ⟨flat_len kind (t :: u :: L), fun _ => flat_pos hk (h t (by simp))⟩
theorem kd_snoc {L : List Tr} {t : Tr} (h : ∀ u ∈ L, Kd u) (ht : Kd t) : ∀ u ∈ L ++ [t], Kd u := fun u hu => by
  rcases List.mem_append.1 hu with hu | hu
  · exact h u hu
  · rw [List.mem_singleton] at hu; subst hu; exact ht
theorem nb_seq {P : Nat → Nat → Rs (Tr × Nat)} (hP : Nb P) {N : Nat → Int} : ∀ {n : Nat} {L : List Tr} {i c j : Nat} {T : Tr × Nat}, (∀ t ∈ L, Kd t) → seqG P N n L i c = .ok T j → i ≤ j ∧ T.1.n ≤ wt L + (j - i) ∧ Kd T.1
  | 0, _, _, _, _, _, _, h => by cases h
  | n + 1, L, i, c, j, T, hL, h => by
    rw [seqG] at h
    split at h
    · cases h
      have := nb_join (kind := 3) (Or.inl rfl) L hL
      exact ⟨Nat.le_refl _, by show (joinP 3 L).n ≤ _; omega, this.2⟩
    · split at h
      · cases h
      · rename_i T1 j1 h1
        obtain ⟨g1, g2, g3⟩ := hP i c T1 j1 h1
        obtain ⟨k1, k2, k3⟩ := nb_seq hP (kd_snoc hL g3) h
        rw [wt_snoc] at k2
        exact ⟨by omega, by omega, k3⟩
theorem nb_choice {Q : Nat → Nat → Rs (Tr × Nat)} (hQ : ∀ i c T j, Q i c = .ok T j → i ≤ j ∧ T.1.n ≤ j - i ∧ Kd T.1) {N : Nat → Int} : ∀ {n : Nat} {L : List Tr} {i c j : Nat} {T : Tr × Nat}, (∀ t ∈ L, Kd t) → choiceG Q N n L i c = .ok T j → i ≤ j ∧ T.1.n ≤ wt L + (j - i) + 1 ∧ Kd T.1
  | 0, _, _, _, _, _, _, h => by cases h
  | n + 1, L, i, c, j, T, hL, h => by
    rw [choiceG] at h
    split at h
    · cases h
    · rename_i T1 j1 h1
      obtain ⟨g1, g2, g3⟩ := hQ i c T1 j1 h1
      split at h
      · obtain ⟨k1, k2, k3⟩ := nb_choice hQ (kd_snoc hL g3) h
        rw [wt_snoc] at k2
        exact ⟨by omega, by omega, k3⟩
      · cases h
        have := nb_join (kind := 4) (Or.inr rfl) (L ++ [T1.1]) (kd_snoc hL g3)
        rw [wt_snoc] at this
        exact ⟨by omega, by show (joinP 4 (L ++ [T1.1])).n ≤ _; omega, this.2⟩
/-- The text of a pattern, where what stands in brackets is read by G. -/
def seqF (G : Nat → Nat → Rs (Tr × Nat)) (S : ByteArray) (D : Df) (n : Nat) (fold : Bool) (i c : Nat) : Rs (Tr × Nat) := seqG (pieceG (atomG G S D n fold) S) (nx S) (S.size + 1) [] i c
def choF (G : Nat → Nat → Rs (Tr × Nat)) (S : ByteArray) (D : Df) (n : Nat) (fold : Bool) (i c : Nat) : Rs (Tr × Nat) := choiceG (seqF G S D n fold) (nx S) (S.size + 1) [] i c
def grpD (S : ByteArray) (D : Df) (n : Nat) (fold : Bool) : Nat → Nat → Nat → Rs (Tr × Nat)
  | 0 => fun i _ => .er 2 i
  | d + 1 => grpG (choF (grpD S D n fold d) S D n fold) (nx S)
theorem nb_seqF {G : Nat → Nat → Rs (Tr × Nat)} (hG : Nb G) (S : ByteArray) {D : Df} {n : Nat} (hD : DfOk D n) (fold : Bool) : ∀ i c T j, seqF G S D n fold i c = .ok T j → i ≤ j ∧ T.1.n ≤ j - i ∧ Kd T.1 := fun i c T j h => by
  have := nb_seq (nb_piece (nb_atom hG (S := S) hD fold) S) (L := []) (fun t ht => by simp at ht) h
  simpa [wt] using this
theorem nb_choF {G : Nat → Nat → Rs (Tr × Nat)} (hG : Nb G) (S : ByteArray) {D : Df} {n : Nat} (hD : DfOk D n) (fold : Bool) : ∀ i c T j, choF G S D n fold i c = .ok T j → i ≤ j ∧ T.1.n ≤ j - i + 1 ∧ Kd T.1 := fun i c T j h => by
  have := nb_choice (nb_seqF hG S hD fold) (L := []) (fun t ht => by simp at ht) h
  simpa [wt] using this
theorem nb_grp (S : ByteArray) {D : Df} {n : Nat} (hD : DfOk D n) (fold : Bool) : ∀ d, Nb (grpD S D n fold d)
  | 0 => fun i c T j h => by cases h
  | d + 1 => fun i c T j h => by
    rw [grpD] at h
    unfold grpG at h
    split at h
    · cases h
    · rename_i T1 j1 h1
      obtain ⟨g1, g2, g3⟩ := nb_choF (nb_grp S hD fold d) S hD fold _ _ _ _ h1
      split at h
      · cases h; exact ⟨by omega, by omega, g3⟩
      · cases h
/-- choice, at any depth. -/
theorem choice_all (D : Df) (p : Nat) (C : Cx) (hD : DfOk D C.n) : ∀ (d deep : Nat), deep + d = 20 → ∀ (w : World) (i cop : Nat), Rd w p C i deep cop → DfAt w p C D → Calls Tryz.prog 43 #[rp p] w (PT w p C deep (choF (grpD C.S D C.n C.fold d) C.S D C.n C.fold i cop)) := by
  intro d
  induction d with
  | zero =>
    intro deep hdd w i cop h hA
    obtain rfl : deep = 20 := by omega
    have hz := h.sz
    refine choice_any _ D w p C i 20 cop h hA (fun w1 i c hr ha => ?_) (fun i c T j e hj => ?_)
    · refine sequence_any _ D w1 p C i 20 c hr ha (fun w2 i c hr ha hi => ?_) (fun i c T j e hj => ?_)
      · exact piece_any _ D w2 p C i 20 c hr ha fun w3 hr ha => atom_any _ D w3 p C i 20 c hr ha hi fun w4 hr ha _ => group_full w4 p C i c hr
      · obtain ⟨g1, g2, g3⟩ := nb_piece (nb_atom (nb_grp C.S hD C.fold 0) (S := C.S) hD C.fold) C.S i c T j e
        exact ⟨g1, by omega, g3⟩
    · obtain ⟨g1, g2, g3⟩ := nb_seqF (nb_grp C.S hD C.fold 0) C.S hD C.fold i c T j e
      exact ⟨g1, by omega, g3⟩
  | succ d ih =>
    intro deep hdd w i cop h hA
    have hz := h.sz
    refine choice_any _ D w p C i deep cop h hA (fun w1 i c hr ha => ?_) (fun i c T j e hj => ?_)
    · refine sequence_any _ D w1 p C i deep c hr ha (fun w2 i c hr ha hi => ?_) (fun i c T j e hj => ?_)
      · exact piece_any _ D w2 p C i deep c hr ha fun w3 hr ha => atom_any _ D w3 p C i deep c hr ha hi fun w4 hr ha _ => group_any _ D w4 p C i deep c hr ha (by omega) hi fun w5 hr ha => ih (deep + 1) (by omega) w5 (i + 1) c hr ha
      · obtain ⟨g1, g2, g3⟩ := nb_piece (nb_atom (nb_grp C.S hD C.fold (d + 1)) (S := C.S) hD C.fold) C.S i c T j e
        exact ⟨g1, by omega, g3⟩
    · obtain ⟨g1, g2, g3⟩ := nb_seqF (nb_grp C.S hD C.fold (d + 1)) C.S hD C.fold i c T j e
      exact ⟨g1, by omega, g3⟩
end Go.Proofs.YtnloepanbjgbaaaGreatDoor
