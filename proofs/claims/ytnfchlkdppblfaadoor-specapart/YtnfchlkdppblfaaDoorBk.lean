/- Contracts of the document's own in of layer 3, and of Text but for Alt. -/
import Derived.Test.YtnfchlkdppblfaaDoorBh
import Derived.Test.YtnfchlkdppblfaaDoorBf
namespace Go.Proofs.YtnfchlkdppblfaaDoor
open Go.RowKit
/-- What Text is to do. -/
def Texts (t : Tr) : Prop := ∀ w : World, Lives w w.heap.size t → Calls Tryd.prog 48 #[t.val] w fun e w' => e = .returned (strV (txt t)) ∧ Below w.heap.size w w'
set_option maxRecDepth 100000 in
set_option maxHeartbeats 2000000 in
theorem in_of (t : Tr) (ht : Texts t) (hc : cnt t ≤ 2000) (b : Bool) (w : World) (hL : Lives w w.heap.size t) : Calls Tryd.prog 66 #[t.val, .bool b] w fun e w' => e = .returned (strV (encT (txt t) b)) ∧ Below w.heap.size w w' := by
  have HL := Lib.hid hL
  have HTX := Lib.hid ht
  have HLN := Lib.hid (txt_len t)
  clear hL ht
  obtain ⟨T, hT⟩ : ∃ T, T = txt t := ⟨_, rfl⟩
  rw [← hT]
  have HT := Lib.hid hT
  have HTL := Lib.hid (show T.length ≤ 6000000 by have := HLN.out; rw [hT]; omega)
  clear hT
  show Calls Tryd.prog 66 #[nodeV t.k t.s t.lo t.hi (.slice t.a t.n t.cap), .bool b] w _
  cases b
  · go_enter Tryd.func66, Tryd.ntmps66
    go_wp2_with fail
    refine (HTX.out _ (HL.out.now (alloc_below _ _))).mono ?_
    rintro e w1 ⟨rfl, hb1⟩
    rw [← HT.out]
    have HB1 := Lib.hid (box_below hb1)
    clear hb1
    go_wp2
    go_ret
    exact ⟨rfl, HB1.out⟩
  · have ha1 := fun w => str_add [40] T (by have := HTL.out; simp only [List.length_cons, List.length_nil]; omega) w
    have ha2 := fun w => str_add ([40] ++ T) [41] (by have := HTL.out; simp only [List.length_append, List.length_cons, List.length_nil]; omega) w
    have HX := Lib.hid (show encT T true = ([40] ++ T) ++ [41] from rfl)
    rw [HX.out]
    generalize hU : [40] ++ T = U at *
    have HU := Lib.hid hU
    clear hU
    go_enter Tryd.func66, Tryd.ntmps66
    go_wp2_with fail
    refine (HTX.out _ (HL.out.now (alloc_below _ _))).mono ?_
    rintro e w1 ⟨rfl, hb1⟩
    rw [← HT.out]
    have HB1 := Lib.hid (box_below hb1)
    clear hb1
    go_wp2
    go_ret
    exact ⟨rfl, HB1.out⟩
set_option maxRecDepth 100000 in
theorem keepT {wr w1 : World} {p g o : Nat} {k : Int} {s : Nat → Int} {lo hi : Int} {v : Value} {t : Tr} (hp : p < wr.heap.size) (hbox : wr.heap[p]? = some (.cells (row8 k s lo hi v) 28 (0, 0))) (hg : g < wr.heap.size) (hk : At8 wr g o t) (h : Below wr.heap.size wr w1) :
    Below wr.heap.size wr w1 ∧ w1.cell? ⟨p, 0, none⟩ = some (.int .i64 k) ∧ w1.cell? ⟨p, 5, none⟩ = some (.int .i64 lo) ∧ w1.cell? ⟨p, 7, none⟩ = some v ∧
    w1.cell? ⟨g, o, none⟩ = some (.int .i64 t.k) ∧ w1.cell? ⟨g, o + 1, none⟩ = some (.int .u64 (t.s 0)) ∧ w1.cell? ⟨g, o + 2, none⟩ = some (.int .u64 (t.s 1)) ∧ w1.cell? ⟨g, o + 3, none⟩ = some (.int .u64 (t.s 2)) ∧
    w1.cell? ⟨g, o + 4, none⟩ = some (.int .u64 (t.s 3)) ∧ w1.cell? ⟨g, o + 5, none⟩ = some (.int .i64 t.lo) ∧ w1.cell? ⟨g, o + 6, none⟩ = some (.int .i64 t.hi) ∧ w1.cell? ⟨g, o + 7, none⟩ = some (.slice t.a t.n t.cap) := by
  have c := cell8 ((h.block p hp).trans hbox)
  exact ⟨h, c.1, c.2.2.2.2.2.1, c.2.2.2.2.2.2.2, hk.below hg h⟩
set_option maxRecDepth 100000 in
theorem digits_any (n : Nat) (h : n ≤ 20) (w : World) : Calls Tryd.prog 67 #[.int .i64 n] w fun e w' => e = .returned (strV (digs n)) ∧ Below w.heap.size w w' := by
  by_cases h1 : n < 10
  · exact digits1 n h1 w
  · exact digits2 n (by omega) h w
set_option maxRecDepth 100000 in
set_option maxHeartbeats 2000000 in
theorem text_empty (s : Nat → Int) (lo hi : Int) (vk : Value) (w : World) : Calls Tryd.prog 48 #[nodeV 1 s lo hi vk] w fun e w' => e = .returned (strV [40, 41]) ∧ Below w.heap.size w w' := by
  go_enter Tryd.func48, Tryd.ntmps48
  go_wp2
  go_ret
  exact ⟨rfl, alloc_below _ _⟩
set_option maxRecDepth 100000 in
set_option maxHeartbeats 2000000 in
theorem text_bytes (s : Nat → Int) (hs : Wf s) (hne : eqS s z0 = false) (lo hi : Int) (vk : Value) (w : World) : Calls Tryd.prog 48 #[nodeV 2 s lo hi vk] w fun e w' => e = .returned (strV (setT s)) ∧ Below w.heap.size w w' := by
  have HNE := Lib.hid hne
  clear hne
  go_enter Tryd.func48, Tryd.ntmps48
  go_wp2_with fail
  refine (refbytes_any s hs HNE.out _).mono ?_
  rintro e w1 ⟨rfl, hb1⟩
  have HB1 := Lib.hid (box_below hb1)
  clear hb1
  go_wp2
  go_ret
  exact ⟨rfl, HB1.out⟩
set_option maxRecDepth 100000 in
set_option maxHeartbeats 8000000 in
theorem text_rep (s : Nat → Int) (lo hi : Int) (h1 : 0 ≤ lo) (h2 : lo ≤ 20) (h3 : -1 ≤ hi) (h4 : hi ≤ 20) (g off cap : Nat) (kid : Tr) (hkk : kid.k = 1 ∨ kid.k = 2 ∨ kid.k = 3 ∨ kid.k = 4 ∨ kid.k = 5) (ht : Texts kid) (hcn : cnt kid ≤ 2000) (w : World) (hg : g < w.heap.size) (hat : At8 w g off kid) (hL : Lives w w.heap.size kid) :
    Calls Tryd.prog 48 #[nodeV 5 s lo hi (.slice (some ⟨g, off, none⟩) 1 cap)] w fun e w' => e = .returned (strV (encT (txt kid) (enclB kid.k 5) ++ countsT lo hi)) ∧ Below w.heap.size w w' := by
  obtain ⟨T, hT⟩ : ∃ T, T = encT (txt kid) (enclB kid.k 5) := ⟨_, rfl⟩
  rw [← hT]
  have HT := Lib.hid hT
  have HTL := Lib.hid (show T.length ≤ 6000002 by rw [hT]; have := encT_len (txt kid) (enclB kid.k 5); have := txt_len kid; omega)
  obtain ⟨b, hb⟩ : ∃ b, b = enclB kid.k 5 := ⟨_, rfl⟩
  have HBB := Lib.hid hb
  have hge : decide (3 ≤ kid.k) = b := by
    rw [hb]; unfold enclB; rw [if_pos rfl]
    rcases hkk with h | h | h | h | h <;> rw [h] <;> rfl
  obtain ⟨L, rfl⟩ : ∃ L : Nat, lo = (L : Int) := ⟨lo.toNat, by omega⟩
  have HIN := Lib.hid (fun (w : World) (hL : Lives w w.heap.size kid) => (in_of kid ht hcn b w hL).mono (fun e w' h => (show e = .returned (strV T) ∧ Below w.heap.size w w' from ⟨by rw [h.1, HT.out, HBB.out], h.2⟩)))
  have HLK := Lib.hid hL
  have d1 := digs_len (show L ≤ 20 by omega)
  have ha1 := fun w => str_add T [123] (by have := HTL.out; simp only [List.length_cons, List.length_nil]; omega) w
  have ha2 := fun w => str_add (T ++ [123]) (digs L) (by have := HTL.out; simp only [List.length_append, List.length_cons, List.length_nil]; omega) w
  have ha3 := fun w => str_add ((T ++ [123]) ++ digs L) [44] (by have := HTL.out; simp only [List.length_append, List.length_cons, List.length_nil]; omega) w
  have HD1 := Lib.hid d1
  clear hT hb ht hcn hL hkk d1
  generalize hU1 : T ++ [123] = U1 at *
  generalize hU2 : U1 ++ digs L = U2 at *
  generalize hU3 : U2 ++ [44] = U3 at *
  have HU := Lib.hid (show U3 = T ++ [123] ++ digs L ++ [44] by rw [← hU3, ← hU2, ← hU1])
  have HU3L := Lib.hid (show U3.length ≤ 6000010 by rw [HU.out]; have := HTL.out; have := HD1.out; simp only [List.length_append, List.length_cons, List.length_nil]; omega)
  clear hU1 hU2 hU3
  have HAT := Lib.hid (hat.below hg (alloc_below w (.cells (row8 5 s L hi (.slice (some ⟨g, off, none⟩) 1 cap)) 28)))
  have HBX := Lib.hid (heap_alloc_new w (.cells (row8 5 s L hi (.slice (some ⟨g, off, none⟩) 1 cap)) 28))
  have HLQ := Lib.hid (HLK.out.now (alloc_below w (.cells (row8 5 s L hi (.slice (some ⟨g, off, none⟩) 1 cap)) 28)))
  have hBq := alloc_below w (.cells (row8 5 s L hi (.slice (some ⟨g, off, none⟩) 1 cap)) 28)
  have hpq : w.heap.size < (w.alloc (.cells (row8 5 s L hi (.slice (some ⟨g, off, none⟩) 1 cap)) 28)).heap.size := by simp
  have hgq : g < (w.alloc (.cells (row8 5 s L hi (.slice (some ⟨g, off, none⟩) 1 cap)) 28)).heap.size := by simp; omega
  clear hat
  go_enter Tryd.func48, Tryd.ntmps48
  go_wp2_with fail
  generalize hwq : w.alloc (.cells (row8 5 s L hi (.slice (some ⟨g, off, none⟩) 1 cap)) 28) = wq at *
  clear hwq
  obtain ⟨_, a0, a5, a7, k0, k1, k2, k3, k4, k5, k6, k7⟩ := keepT hpq HBX.out hgq HAT.out (Below.refl _ wq)
  obtain ⟨p, hp⟩ : ∃ p, p = w.heap.size := ⟨_, rfl⟩
  rw [← hp] at HBX hpq a0 a5 a7
  rw [← hp]
  have HPP := Lib.hid hp
  clear hp
  go_region_held3 (fun w' => Below wq.heap.size wq w' ∧ w'.cell? ⟨p, 0, none⟩ = some (.int .i64 5) ∧ w'.cell? ⟨p, 5, none⟩ = some (.int .i64 (L : Int)) ∧ w'.cell? ⟨p, 7, none⟩ = some (.slice (some ⟨g, off, none⟩) 1 cap) ∧
      w'.cell? ⟨g, off, none⟩ = some (.int .i64 kid.k) ∧ w'.cell? ⟨g, off + 1, none⟩ = some (.int .u64 (kid.s 0)) ∧ w'.cell? ⟨g, off + 2, none⟩ = some (.int .u64 (kid.s 1)) ∧ w'.cell? ⟨g, off + 3, none⟩ = some (.int .u64 (kid.s 2)) ∧
      w'.cell? ⟨g, off + 4, none⟩ = some (.int .u64 (kid.s 3)) ∧ w'.cell? ⟨g, off + 5, none⟩ = some (.int .i64 kid.lo) ∧ w'.cell? ⟨g, off + 6, none⟩ = some (.int .i64 kid.hi) ∧ w'.cell? ⟨g, off + 7, none⟩ = some (.slice kid.a kid.n kid.cap))
    ((refine keepT hpq HBX.out hgq HAT.out ?_; first | assumption | exact (Below.refl _ _).drew))
    (first
      | (go_at_call 66; go_split_ands; refine (fromB (w := wq) (HIN.out _ (HLQ.out.now ?_)) ?_).mono ?_; assumption; assumption; rintro e wz ⟨rfl, hBz⟩)
      | (go_at_call 67; go_split_ands; refine (fromB (w := wq) (digits_any L (by omega) _) ?_).mono ?_; assumption; rintro e wz ⟨rfl, hBz⟩))
  have z6 := (cell8 ((hBz.block p hpq).trans HBX.out)).2.2.2.2.2.2.1
  have hBw : Below w.heap.size w wz := hBq.trans (hBz.mono hBq.size)
  clear hBz a0 a5 a7 k0 k1 k2 k3 k4 k5 k6 k7 ha1 ha2 ha3
  by_cases hh : hi = -1
  · subst hh
    have HX := Lib.hid (show strV (T ++ countsT (L : Int) (-1)) = strV (U3 ++ [125]) by rw [HU.out]; simp [countsT])
    have ha4 := fun w => str_add U3 [125] (by have := HU3L.out; simp only [List.length_cons, List.length_nil]; omega) w
    go_wp2
    go_ret
    exact ⟨by rw [HX.out]; rfl, hBw⟩
  · obtain ⟨H, rfl⟩ : ∃ H : Nat, hi = (H : Int) := ⟨hi.toNat, by omega⟩
    have d2 := digs_len (show H ≤ 20 by omega)
    have HX := Lib.hid (show strV (T ++ countsT (L : Int) (H : Int)) = strV ((U3 ++ digs H) ++ [125]) by rw [HU.out]; unfold countsT; rw [if_neg hh]; simp)
    have ha4 := fun w => str_add U3 (digs H) (by have := HU3L.out; omega) w
    have ha5 := fun w => str_add (U3 ++ digs H) [125] (by have := HU3L.out; simp only [List.length_append, List.length_cons, List.length_nil]; omega) w
    generalize hU4 : U3 ++ digs H = U4 at *
    have hH0 : (0 : Int) ≤ (H : Int) := by omega
    go_wp2_with fail
    refine (digits_any H (by omega) _).mono ?_
    rintro e w3 ⟨rfl, hb3⟩
    have HB3 := Lib.hid (hBw.trans (hb3.mono hBw.size))
    clear hb3
    go_wp2
    go_ret
    exact ⟨by rw [HX.out]; rfl, HB3.out⟩
set_option maxRecDepth 100000 in
set_option maxHeartbeats 8000000 in
theorem text_3 (s : Nat → Int) (lo hi : Int) (a : Option Addr) (n cap : Nat) (kid : Nat → Tr) (ih : ∀ i, i < n → Texts (kid i)) (hck : ∀ i, i < n → cnt (kid i) ≤ 2000) (hcn : cnt (.node 3 s lo hi a n cap kid) ≤ 2000) (w : World) (hL : Lives w w.heap.size (.node 3 s lo hi a n cap kid)) :
    Calls Tryd.prog 48 #[nodeV 3 s lo hi (.slice a n cap)] w fun e w' => e = .returned (strV (catTo (pieceT 3 kid) n)) ∧ Below w.heap.size w w' := by
  obtain ⟨_, hcap, hm, hat, hkv⟩ := hL
  have HAT := Lib.hid hat
  have HKV := Lib.hid hkv
  have HIH := Lib.hid ih
  have HCK := Lib.hid hck
  have HCN := Lib.hid (show sumTo (fun i => cnt (kid i)) n ≤ 2000 by simp only [cnt] at hcn; omega)
  obtain ⟨T, hT⟩ : ∃ T, T = catTo (pieceT 3 kid) n := ⟨_, rfl⟩
  rw [← hT]
  have HT := Lib.hid hT
  unfold maxLen at hm
  clear hat hkv ih hck hcn hT
  go_enter Tryd.func48, Tryd.ntmps48
  go_wp2
  go_loopw [4, 5] (fun vt c wr => ∃ j : Nat, j ≤ n ∧ c = .int .i64 j ∧ Hid (vt = strV (catTo (pieceT 3 kid) j)) ∧ Hid (wr.heap[w.heap.size]? = some (.cells (row8 3 s lo hi (.slice a n cap)) 28 (0, 0))) ∧ Below w.heap.size w wr) (fun _ c _ => n - (intOf c).toNat)
  case atStart => exact ⟨0, by omega, rfl, Lib.hid rfl, Lib.hid (heap_alloc_new _ _), alloc_below _ _⟩
  case round =>
    obtain ⟨j, hj, rfl, HV, HK, hb⟩ := hrel
    obtain rfl := HV.out
    have hpr : w.heap.size < wr.heap.size := (Array.getElem?_eq_some_iff.1 HK.out).1
    have HCL := Lib.hid (show (catTo (pieceT 3 kid) j).length ≤ 6000000 by
      have h1 := cat_le 3 kid j; have h2 := sumTo_mono (fun i => cnt (kid i)) (show j ≤ n by omega); have h3 := HCN.out; omega)
    by_cases hlt : j < n
    · obtain ⟨g, off, rfl, hg, hc⟩ := HAT.out (by omega)
      have HATJ := Lib.hid ((hc j hlt).below hg hb)
      have hgr : g < wr.heap.size := Nat.lt_of_lt_of_le hg hb.size
      have HLJ := Lib.hid ((HKV.out j hlt).now hb)
      obtain ⟨en, hen⟩ : ∃ en, en = enclB (kid j).k 3 := ⟨_, rfl⟩
      have HEN := Lib.hid hen
      obtain ⟨E, hE⟩ : ∃ E, E = encT (txt (kid j)) (enclB (kid j).k 3) := ⟨_, rfl⟩
      have HEL := Lib.hid (show E.length ≤ 6000002 by rw [hE]; have := encT_len (txt (kid j)) (enclB (kid j).k 3); have := txt_len (kid j); have := HCK.out j hlt; omega)
      have HIN := Lib.hid (fun (w : World) (hL : Lives w w.heap.size (kid j)) => (in_of (kid j) (HIH.out j hlt) (HCK.out j hlt) en w hL).mono (fun e w' h => (show e = .returned (strV E) ∧ Below w.heap.size w w' from ⟨by rw [h.1, hE, hen], h.2⟩)))
      have HSTEP := Lib.hid (show catTo (pieceT 3 kid) (j + 1) = catTo (pieceT 3 kid) j ++ ((if 0 < j ∧ (3 : Int) = 4 then [124] else []) ++ E) by rw [hE]; rfl)
      have hgu : ((kid j).k == 4) = en := by rw [hen]; unfold enclB; rw [if_neg (by decide), if_pos rfl]; rfl
      have i1 : (j : Int) < (n : Int) := by omega
      clear hc hen hE
      generalize hcl : catTo (pieceT 3 kid) j = cl at *
      have HCLE := Lib.hid hcl
      clear hcl
      have HS2 := Lib.hid (show catTo (pieceT 3 kid) (j + 1) = cl ++ E by rw [HSTEP.out, if_neg (by omega)]; simp)
      have ha := fun w => str_add cl E (by have := HCL.out; have := HEL.out; omega) w
      obtain ⟨x0, _, _, _, _, _, _, x7⟩ := cell8 HK.out
      by_cases hj0 : j = 0
      · subst hj0
        simp only [Nat.zero_mul, Nat.add_zero] at HATJ
        go_wp2_with fail
        obtain ⟨_, a0, a5, a7, k0, k1, k2, k3, k4, k5, k6, k7⟩ := keepT hpr HK.out hgr HATJ.out (Below.refl _ wr)
        go_region_held3 (fun w' => Below wr.heap.size wr w' ∧ w'.cell? ⟨w.heap.size, 0, none⟩ = some (.int .i64 3) ∧ w'.cell? ⟨w.heap.size, 5, none⟩ = some (.int .i64 lo) ∧ w'.cell? ⟨w.heap.size, 7, none⟩ = some (.slice (some ⟨g, off, none⟩) n cap) ∧
            w'.cell? ⟨g, off, none⟩ = some (.int .i64 (kid 0).k) ∧ w'.cell? ⟨g, off + 1, none⟩ = some (.int .u64 ((kid 0).s 0)) ∧ w'.cell? ⟨g, off + 2, none⟩ = some (.int .u64 ((kid 0).s 1)) ∧ w'.cell? ⟨g, off + 3, none⟩ = some (.int .u64 ((kid 0).s 2)) ∧
            w'.cell? ⟨g, off + 4, none⟩ = some (.int .u64 ((kid 0).s 3)) ∧ w'.cell? ⟨g, off + 5, none⟩ = some (.int .i64 (kid 0).lo) ∧ w'.cell? ⟨g, off + 6, none⟩ = some (.int .i64 (kid 0).hi) ∧ w'.cell? ⟨g, off + 7, none⟩ = some (.slice (kid 0).a (kid 0).n (kid 0).cap))
          ((refine keepT hpr HK.out hgr HATJ.out ?_; first | assumption | exact (Below.refl _ _).drew))
          (first
            | (go_at_call 66; go_split_ands; refine (fromB (w := wr) (HIN.out _ (HLJ.out.now ?_)) ?_).mono ?_; assumption; assumption; rintro e wz ⟨rfl, hBz⟩))
        have HBw := Lib.hid (hb.trans (hBz.mono hb.size))
        have HKz := Lib.hid ((hBz.block _ hpr).trans HK.out)
        clear hBz a0 a5 a7 k0 k1 k2 k3 k4 k5 k6 k7
        go_wp2
        go_roundw
        case rel => exact ⟨0 + 1, by omega, by go_num, Lib.hid (by rw [HS2.out]), HKz, HBw.out⟩
        case measure => simp [intOf]; omega
      · have hj1 : (0 : Int) < (j : Int) := by omega
        go_wp2_with fail
        obtain ⟨_, a0, a5, a7, k0, k1, k2, k3, k4, k5, k6, k7⟩ := keepT hpr HK.out hgr HATJ.out (Below.refl _ wr)
        go_region_held3 (fun w' => Below wr.heap.size wr w' ∧ w'.cell? ⟨w.heap.size, 0, none⟩ = some (.int .i64 3) ∧ w'.cell? ⟨w.heap.size, 5, none⟩ = some (.int .i64 lo) ∧ w'.cell? ⟨w.heap.size, 7, none⟩ = some (.slice (some ⟨g, off, none⟩) n cap) ∧
            w'.cell? ⟨g, off + j * 8, none⟩ = some (.int .i64 (kid j).k) ∧ w'.cell? ⟨g, off + j * 8 + 1, none⟩ = some (.int .u64 ((kid j).s 0)) ∧ w'.cell? ⟨g, off + j * 8 + 2, none⟩ = some (.int .u64 ((kid j).s 1)) ∧ w'.cell? ⟨g, off + j * 8 + 3, none⟩ = some (.int .u64 ((kid j).s 2)) ∧
            w'.cell? ⟨g, off + j * 8 + 4, none⟩ = some (.int .u64 ((kid j).s 3)) ∧ w'.cell? ⟨g, off + j * 8 + 5, none⟩ = some (.int .i64 (kid j).lo) ∧ w'.cell? ⟨g, off + j * 8 + 6, none⟩ = some (.int .i64 (kid j).hi) ∧ w'.cell? ⟨g, off + j * 8 + 7, none⟩ = some (.slice (kid j).a (kid j).n (kid j).cap))
          ((refine keepT hpr HK.out hgr HATJ.out ?_; first | assumption | exact (Below.refl _ _).drew))
          (first
            | (go_at_call 66; go_split_ands; refine (fromB (w := wr) (HIN.out _ (HLJ.out.now ?_)) ?_).mono ?_; assumption; assumption; rintro e wz ⟨rfl, hBz⟩))
        have HBw := Lib.hid (hb.trans (hBz.mono hb.size))
        have HKz := Lib.hid ((hBz.block _ hpr).trans HK.out)
        clear hBz a0 a5 a7 k0 k1 k2 k3 k4 k5 k6 k7
        go_wp2
        go_roundw
        case rel => exact ⟨j + 1, by omega, by go_num, Lib.hid (by rw [HS2.out]), HKz, HBw.out⟩
        case measure => simp [intOf]; omega
    · obtain rfl : n = j := by omega
      have HX := Lib.hid (show T = catTo (pieceT 3 kid) n from HT.out)
      have x7 := (cell8 HK.out).2.2.2.2.2.2.2
      go_wp2
      go_ret
      exact ⟨by rw [HX.out]; rfl, hb⟩
end Go.Proofs.YtnfchlkdppblfaaDoor
/- Contract of the document's own Text of layer 3: Alt. -/
namespace Go.Proofs.YtnfchlkdppblfaaDoor
open Go.RowKit
set_option maxRecDepth 100000 in
set_option maxHeartbeats 8000000 in
theorem text_4 (s : Nat → Int) (lo hi : Int) (a : Option Addr) (n cap : Nat) (kid : Nat → Tr) (ih : ∀ i, i < n → Texts (kid i)) (hck : ∀ i, i < n → cnt (kid i) ≤ 2000) (hcn : cnt (.node 4 s lo hi a n cap kid) ≤ 2000) (w : World) (hL : Lives w w.heap.size (.node 4 s lo hi a n cap kid)) :
    Calls Tryd.prog 48 #[nodeV 4 s lo hi (.slice a n cap)] w fun e w' => e = .returned (strV (catTo (pieceT 4 kid) n)) ∧ Below w.heap.size w w' := by
  obtain ⟨_, hcap, hm, hat, hkv⟩ := hL
  have HAT := Lib.hid hat
  have HKV := Lib.hid hkv
  have HIH := Lib.hid ih
  have HCK := Lib.hid hck
  have HCN := Lib.hid (show sumTo (fun i => cnt (kid i)) n ≤ 2000 by simp only [cnt] at hcn; omega)
  obtain ⟨T, hT⟩ : ∃ T, T = catTo (pieceT 4 kid) n := ⟨_, rfl⟩
  rw [← hT]
  have HT := Lib.hid hT
  unfold maxLen at hm
  clear hat hkv ih hck hcn hT
  go_enter Tryd.func48, Tryd.ntmps48
  go_wp2
  go_loopw [4, 5] (fun vt c wr => ∃ j : Nat, j ≤ n ∧ c = .int .i64 j ∧ Hid (vt = strV (catTo (pieceT 4 kid) j)) ∧ Hid (wr.heap[w.heap.size]? = some (.cells (row8 4 s lo hi (.slice a n cap)) 28 (0, 0))) ∧ Below w.heap.size w wr) (fun _ c _ => n - (intOf c).toNat)
  case atStart => exact ⟨0, by omega, rfl, Lib.hid rfl, Lib.hid (heap_alloc_new _ _), alloc_below _ _⟩
  case round =>
    obtain ⟨j, hj, rfl, HV, HK, hb⟩ := hrel
    obtain rfl := HV.out
    have hpr : w.heap.size < wr.heap.size := (Array.getElem?_eq_some_iff.1 HK.out).1
    have HCL := Lib.hid (show (catTo (pieceT 4 kid) j).length ≤ 6000000 by
      have h1 := cat_le 4 kid j; have h2 := sumTo_mono (fun i => cnt (kid i)) (show j ≤ n by omega); have h3 := HCN.out; omega)
    by_cases hlt : j < n
    · obtain ⟨g, off, rfl, hg, hc⟩ := HAT.out (by omega)
      have HATJ := Lib.hid ((hc j hlt).below hg hb)
      have hgr : g < wr.heap.size := Nat.lt_of_lt_of_le hg hb.size
      have HLJ := Lib.hid ((HKV.out j hlt).now hb)
      obtain ⟨en, hen⟩ : ∃ en, en = enclB (kid j).k 4 := ⟨_, rfl⟩
      have HEN := Lib.hid hen
      obtain ⟨E, hE⟩ : ∃ E, E = encT (txt (kid j)) (enclB (kid j).k 4) := ⟨_, rfl⟩
      have HEL := Lib.hid (show E.length ≤ 6000002 by rw [hE]; have := encT_len (txt (kid j)) (enclB (kid j).k 4); have := txt_len (kid j); have := HCK.out j hlt; omega)
      have HIN := Lib.hid (fun (w : World) (hL : Lives w w.heap.size (kid j)) => (in_of (kid j) (HIH.out j hlt) (HCK.out j hlt) en w hL).mono (fun e w' h => (show e = .returned (strV E) ∧ Below w.heap.size w w' from ⟨by rw [h.1, hE, hen], h.2⟩)))
      have HSTEP := Lib.hid (show catTo (pieceT 4 kid) (j + 1) = catTo (pieceT 4 kid) j ++ ((if 0 < j ∧ (4 : Int) = 4 then [124] else []) ++ E) by rw [hE]; rfl)
      have hen0 : en = false := by rw [hen]; unfold enclB; rw [if_neg (by decide), if_neg (by decide)]
      rw [hen0] at HIN HEN
      have i1 : (j : Int) < (n : Int) := by omega
      clear hc hen hE
      generalize hcl : catTo (pieceT 4 kid) j = cl at *
      have HCLE := Lib.hid hcl
      clear hcl
      obtain ⟨x0, _, _, _, _, _, _, x7⟩ := cell8 HK.out
      by_cases hj0 : j = 0
      · subst hj0
        have HS2 := Lib.hid (show catTo (pieceT 4 kid) (0 + 1) = cl ++ E by rw [HSTEP.out, if_neg (by omega)]; simp)
        have ha := fun w => str_add cl E (by have := HCL.out; have := HEL.out; omega) w
        simp only [Nat.zero_mul, Nat.add_zero] at HATJ
        go_wp2_with fail
        obtain ⟨_, a0, a5, a7, k0, k1, k2, k3, k4, k5, k6, k7⟩ := keepT hpr HK.out hgr HATJ.out (Below.refl _ wr)
        refine wp_region_held_drew (S := (fun w' => Below wr.heap.size wr w' ∧ w'.cell? ⟨w.heap.size, 0, none⟩ = some (.int .i64 4) ∧ w'.cell? ⟨w.heap.size, 5, none⟩ = some (.int .i64 lo) ∧ w'.cell? ⟨w.heap.size, 7, none⟩ = some (.slice (some ⟨g, off, none⟩) n cap) ∧ w'.cell? ⟨g, off, none⟩ = some (.int .i64 (kid 0).k) ∧ w'.cell? ⟨g, off + 1, none⟩ = some (.int .u64 ((kid 0).s 0)) ∧ w'.cell? ⟨g, off + 2, none⟩ = some (.int .u64 ((kid 0).s 1)) ∧ w'.cell? ⟨g, off + 3, none⟩ = some (.int .u64 ((kid 0).s 2)) ∧ w'.cell? ⟨g, off + 4, none⟩ = some (.int .u64 ((kid 0).s 3)) ∧ w'.cell? ⟨g, off + 5, none⟩ = some (.int .i64 (kid 0).lo) ∧ w'.cell? ⟨g, off + 6, none⟩ = some (.int .i64 (kid 0).hi) ∧ w'.cell? ⟨g, off + 7, none⟩ = some (.slice (kid 0).a (kid 0).n (kid 0).cap))) (by kernel_rfl) ?_ (fun hHeld => ?_)
        · exact keepT hpr HK.out hgr HATJ.out (Below.refl _ _).drew
        refine wpAnyH_take (i := 0) (oi := { dst := some 60, op := Op.move (Operand.tmp 4), type := 9, pos := "ref.go:138", after := #[], guard := none }) (v := ?_) rfl (by kernel_rfl) (by kernel_rfl) (by kernel_rfl) (fun _ _ _ h => h) (Or.inl ⟨by rfl, ?_⟩) (by assumption) ?_
        rotate_left
        · (intro w hSw; (try dsimp only at hSw); go_simp; try with_reducible rfl)
        try simp only [Act.put, List.setIfInBounds_toArray, List.set_cons_zero, List.set_cons_succ]
        refine wpAnyH_take (i := 1) (oi := { dst := some 61, op := Op.fieldAddr 28 (Operand.tmp 1) 4, type := 0, pos := "ref.go:138", after := #[], guard := none }) (v := ?_) rfl (by kernel_rfl) (by kernel_rfl) (by kernel_rfl) (fun _ _ _ h => h) (Or.inl ⟨by rfl, ?_⟩) (by assumption) ?_
        rotate_left
        · (intro w hSw; (try dsimp only at hSw); go_simp; try with_reducible rfl)
        try simp only [Act.put, List.setIfInBounds_toArray, List.set_cons_zero, List.set_cons_succ]
        refine wpAnyH_take (i := 2) (oi := { dst := some 62, op := Op.load 26 (Operand.tmp 61), type := 26, pos := "ref.go:138", after := #[{ on := 1, ground := Ground.data }], guard := none }) (v := ?_) rfl (by kernel_rfl) (by kernel_rfl) (by kernel_rfl) (fun _ _ _ h => h) (Or.inl ⟨by rfl, ?_⟩) (by assumption) ?_
        rotate_left
        · (intro w hSw; (try dsimp only at hSw); go_simp; try with_reducible rfl)
        try simp only [Act.put, List.setIfInBounds_toArray, List.set_cons_zero, List.set_cons_succ]
        refine wpAnyH_take (i := 3) (oi := { dst := some 63, op := Op.move (Operand.tmp 5), type := 3, pos := "ref.go:138", after := #[], guard := none }) (v := ?_) rfl (by kernel_rfl) (by kernel_rfl) (by kernel_rfl) (fun _ _ _ h => h) (Or.inl ⟨by rfl, ?_⟩) (by assumption) ?_
        rotate_left
        · (intro w hSw; (try dsimp only at hSw); go_simp; try with_reducible rfl)
        try simp only [Act.put, List.setIfInBounds_toArray, List.set_cons_zero, List.set_cons_succ]
        refine wpAnyH_take (i := 4) (oi := { dst := some 64, op := Op.indexAddr 26 (Operand.tmp 62) (Operand.tmp 63), type := 0, pos := "ref.go:138", after := #[{ on := 2, ground := Ground.data }, { on := 3, ground := Ground.data }], guard := none }) (v := ?_) rfl (by kernel_rfl) (by kernel_rfl) (by kernel_rfl) (fun _ _ _ h => h) (Or.inl ⟨by rfl, ?_⟩) (by assumption) ?_
        rotate_left
        · (intro w hSw; (try dsimp only at hSw); go_simp; try with_reducible rfl)
        try simp only [Act.put, List.setIfInBounds_toArray, List.set_cons_zero, List.set_cons_succ]
        refine wpAnyH_take (i := 5) (oi := { dst := some 65, op := Op.load 28 (Operand.tmp 64), type := 28, pos := "ref.go:138", after := #[{ on := 4, ground := Ground.data }], guard := none }) (v := ?_) rfl (by kernel_rfl) (by kernel_rfl) (by kernel_rfl) (fun _ _ _ h => h) (Or.inl ⟨by rfl, ?_⟩) (by assumption) ?_
        rotate_left
        · (intro w hSw; (try dsimp only at hSw); go_simp; try with_reducible rfl)
        try simp only [Act.put, List.setIfInBounds_toArray, List.set_cons_zero, List.set_cons_succ]
        refine wpAnyH_take (i := 6) (oi := { dst := some 66, op := Op.fieldAddr 28 (Operand.tmp 1) 0, type := 0, pos := "ref.go:138", after := #[], guard := none }) (v := ?_) rfl (by kernel_rfl) (by kernel_rfl) (by kernel_rfl) (fun _ _ _ h => h) (Or.inl ⟨by rfl, ?_⟩) (by assumption) ?_
        rotate_left
        · (intro w hSw; (try dsimp only at hSw); go_simp; try with_reducible rfl)
        try simp only [Act.put, List.setIfInBounds_toArray, List.set_cons_zero, List.set_cons_succ]
        refine wpAnyH_take (i := 7) (oi := { dst := some 67, op := Op.load 3 (Operand.tmp 66), type := 3, pos := "ref.go:138", after := #[{ on := 6, ground := Ground.data }], guard := none }) (v := ?_) rfl (by kernel_rfl) (by kernel_rfl) (by kernel_rfl) (fun _ _ _ h => h) (Or.inl ⟨by rfl, ?_⟩) (by assumption) ?_
        rotate_left
        · (intro w hSw; (try dsimp only at hSw); go_simp; try with_reducible rfl)
        try simp only [Act.put, List.setIfInBounds_toArray, List.set_cons_zero, List.set_cons_succ]
        refine wpAnyH_take (i := 8) (oi := { dst := some 68, op := Op.binOp BinOp.eql 3 (Operand.tmp 67) (Operand.const (Value.int IntKind.i64 3)) 3, type := 4, pos := "ref.go:138", after := #[{ on := 7, ground := Ground.data }], guard := none }) (v := ?_) rfl (by kernel_rfl) (by kernel_rfl) (by kernel_rfl) (fun _ _ _ h => h) (Or.inl ⟨by rfl, ?_⟩) (by assumption) ?_
        rotate_left
        · (intro w hSw; (try dsimp only at hSw); go_simp; try with_reducible rfl)
        try simp only [Act.put, List.setIfInBounds_toArray, List.set_cons_zero, List.set_cons_succ]
        refine wpAnyH_take (i := 9) (oi := { dst := some 69, op := Op.move (Operand.tmp 68), type := 4, pos := "ref.go:138", after := #[{ on := 8, ground := Ground.data }], guard := none }) (v := ?_) rfl (by kernel_rfl) (by kernel_rfl) (by kernel_rfl) (fun _ _ _ h => h) (Or.inl ⟨by rfl, ?_⟩) (by assumption) ?_
        rotate_left
        · (intro w hSw; (try dsimp only at hSw); go_simp; try with_reducible rfl)
        try simp only [Act.put, List.setIfInBounds_toArray, List.set_cons_zero, List.set_cons_succ]
        refine wpAnyH_take (i := 10) (oi := { dst := some 70, op := Op.fieldAddr 28 (Operand.tmp 1) 4, type := 0, pos := "ref.go:138", after := #[{ on := 9, ground := Ground.guard }], guard := some (9, true) }) (v := undef) rfl (by kernel_rfl) (by kernel_rfl) (by kernel_rfl) (fun _ _ _ h => h) (Or.inr ⟨by rfl, rfl⟩) (by assumption) ?_
        try simp only [Act.put, List.setIfInBounds_toArray, List.set_cons_zero, List.set_cons_succ]
        refine wpAnyH_take (i := 11) (oi := { dst := some 71, op := Op.load 26 (Operand.tmp 70), type := 26, pos := "ref.go:138", after := #[{ on := 10, ground := Ground.data }, { on := 9, ground := Ground.guard }], guard := some (9, true) }) (v := undef) rfl (by kernel_rfl) (by kernel_rfl) (by kernel_rfl) (fun _ _ _ h => h) (Or.inr ⟨by rfl, rfl⟩) (by assumption) ?_
        try simp only [Act.put, List.setIfInBounds_toArray, List.set_cons_zero, List.set_cons_succ]
        refine wpAnyH_take (i := 12) (oi := { dst := some 72, op := Op.move (Operand.tmp 5), type := 3, pos := "ref.go:138", after := #[{ on := 9, ground := Ground.guard }], guard := some (9, true) }) (v := undef) rfl (by kernel_rfl) (by kernel_rfl) (by kernel_rfl) (fun _ _ _ h => h) (Or.inr ⟨by rfl, rfl⟩) (by assumption) ?_
        try simp only [Act.put, List.setIfInBounds_toArray, List.set_cons_zero, List.set_cons_succ]
        refine wpAnyH_take (i := 13) (oi := { dst := some 73, op := Op.indexAddr 26 (Operand.tmp 71) (Operand.tmp 72), type := 0, pos := "ref.go:138", after := #[{ on := 11, ground := Ground.data }, { on := 12, ground := Ground.data }, { on := 9, ground := Ground.guard }], guard := some (9, true) }) (v := undef) rfl (by kernel_rfl) (by kernel_rfl) (by kernel_rfl) (fun _ _ _ h => h) (Or.inr ⟨by rfl, rfl⟩) (by assumption) ?_
        try simp only [Act.put, List.setIfInBounds_toArray, List.set_cons_zero, List.set_cons_succ]
        refine wpAnyH_take (i := 14) (oi := { dst := some 74, op := Op.fieldAddr 28 (Operand.tmp 73) 0, type := 0, pos := "ref.go:138", after := #[{ on := 13, ground := Ground.data }, { on := 9, ground := Ground.guard }], guard := some (9, true) }) (v := undef) rfl (by kernel_rfl) (by kernel_rfl) (by kernel_rfl) (fun _ _ _ h => h) (Or.inr ⟨by rfl, rfl⟩) (by assumption) ?_
        try simp only [Act.put, List.setIfInBounds_toArray, List.set_cons_zero, List.set_cons_succ]
        refine wpAnyH_take (i := 15) (oi := { dst := some 75, op := Op.load 3 (Operand.tmp 74), type := 3, pos := "ref.go:138", after := #[{ on := 14, ground := Ground.data }, { on := 9, ground := Ground.guard }], guard := some (9, true) }) (v := undef) rfl (by kernel_rfl) (by kernel_rfl) (by kernel_rfl) (fun _ _ _ h => h) (Or.inr ⟨by rfl, rfl⟩) (by assumption) ?_
        try simp only [Act.put, List.setIfInBounds_toArray, List.set_cons_zero, List.set_cons_succ]
        refine wpAnyH_take (i := 16) (oi := { dst := some 76, op := Op.binOp BinOp.eql 3 (Operand.tmp 75) (Operand.const (Value.int IntKind.i64 4)) 3, type := 4, pos := "ref.go:138", after := #[{ on := 15, ground := Ground.data }, { on := 9, ground := Ground.guard }], guard := some (9, true) }) (v := undef) rfl (by kernel_rfl) (by kernel_rfl) (by kernel_rfl) (fun _ _ _ h => h) (Or.inr ⟨by rfl, rfl⟩) (by assumption) ?_
        try simp only [Act.put, List.setIfInBounds_toArray, List.set_cons_zero, List.set_cons_succ]
        refine wpAnyH_take (i := 17) (oi := { dst := some 77, op := Op.pick (Operand.tmp 69) (Operand.tmp 76) (Operand.const (Value.bool false)), type := 4, pos := "ref.go:138", after := #[{ on := 9, ground := Ground.data }, { on := 16, ground := Ground.data }], guard := none }) (v := ?_) rfl (by kernel_rfl) (by kernel_rfl) (by kernel_rfl) (fun _ _ _ h => h) (Or.inl ⟨by rfl, ?_⟩) (by assumption) ?_
        rotate_left
        · (intro w hSw; (try dsimp only at hSw); go_simp; try with_reducible rfl)
        try simp only [Act.put, List.setIfInBounds_toArray, List.set_cons_zero, List.set_cons_succ]
        refine wpAnyH_ready (rs := [18]) (by kernel_rfl) (by simp) ?_
        refine AllReadyH.cons (o := { dst := some 78, op := Op.call { callee := Callee.value (Operand.func 66), args := #[Operand.tmp 65, Operand.tmp 77], argTypes := #[28, 4] }, type := 9, pos := "ref.go:138", after := #[{ on := 5, ground := Ground.data }, { on := 17, ground := Ground.data }, { on := 9, ground := Ground.chain }], guard := none }) rfl (fun K hK => ?_) ?_
        · go_simp
          refine (fromB (w := wr) (HIN.out _ (HLJ.out.now (Below.refl _ _).drew)) (Below.refl _ _).drew).mono ?_
          rintro e wz ⟨rfl, hBz⟩
          go_wp2_with fail
          refine hK.out _ _ ?_ (fun hHeld => ?_)
          · exact keepT hpr HK.out hgr HATJ.out hBz
          clear hK K
          try simp only [Act.put, List.setIfInBounds_toArray, List.set_cons_zero, List.set_cons_succ]
          refine wpAnyH_take (i := 19) (oi := { dst := some 79, op := Op.binOp BinOp.add 9 (Operand.tmp 60) (Operand.tmp 78) 9, type := 9, pos := "ref.go:138", after := #[{ on := 0, ground := Ground.data }, { on := 18, ground := Ground.data }], guard := none }) (v := ?_) rfl (by kernel_rfl) (by kernel_rfl) (by kernel_rfl) (fun _ _ _ h => h) (Or.inl ⟨by rfl, ?_⟩) (by assumption) ?_
          rotate_left
          · (intro w hSw; (try dsimp only at hSw); go_simp; try with_reducible rfl)
          try simp only [Act.put, List.setIfInBounds_toArray, List.set_cons_zero, List.set_cons_succ]
          refine wpAnyH_take (i := 20) (oi := { dst := some 4, op := Op.assign (Operand.tmp 79), type := 9, pos := "ref.go:138", after := #[{ on := 19, ground := Ground.data }, { on := 18, ground := Ground.chain }, { on := 0, ground := Ground.phase }, { on := 1, ground := Ground.phase }, { on := 2, ground := Ground.phase }, { on := 3, ground := Ground.phase }, { on := 4, ground := Ground.phase }, { on := 5, ground := Ground.phase }, { on := 6, ground := Ground.phase }, { on := 7, ground := Ground.phase }, { on := 8, ground := Ground.phase }, { on := 9, ground := Ground.phase }, { on := 10, ground := Ground.phase }, { on := 11, ground := Ground.phase }, { on := 12, ground := Ground.phase }, { on := 13, ground := Ground.phase }, { on := 14, ground := Ground.phase }, { on := 15, ground := Ground.phase }, { on := 16, ground := Ground.phase }, { on := 17, ground := Ground.phase }, { on := 18, ground := Ground.phase }, { on := 19, ground := Ground.phase }], guard := none }) (v := ?_) rfl (by kernel_rfl) (by kernel_rfl) (by kernel_rfl) (fun _ _ _ h => h) (Or.inl ⟨by rfl, ?_⟩) (by assumption) ?_
          rotate_left
          · (intro w hSw; (try dsimp only at hSw); go_simp; try with_reducible rfl)
          try simp only [Act.put, List.setIfInBounds_toArray, List.set_cons_zero, List.set_cons_succ]
          refine wpAnyH_done (by kernel_rfl) ?_ _
          have HBw := Lib.hid (hb.trans (hBz.mono hb.size))
          have HKz := Lib.hid ((hBz.block _ hpr).trans HK.out)
          clear hBz a0 a5 a7 k0 k1 k2 k3 k4 k5 k6 k7
          go_wp2
          go_roundw
          case rel => exact ⟨0 + 1, by omega, by go_num, Lib.hid (by rw [HS2.out]), HKz, HBw.out⟩
          case measure => simp [intOf]; omega
        · exact AllReadyH.nil
      · have hj1 : (0 : Int) < (j : Int) := by omega
        have HS2 := Lib.hid (show catTo (pieceT 4 kid) (j + 1) = (cl ++ [124]) ++ E by rw [HSTEP.out, if_pos ⟨by omega, rfl⟩]; simp)
        have hb1 := fun w => str_add cl [124] (by have := HCL.out; simp only [List.length_cons, List.length_nil]; omega) w
        have ha := fun w => str_add (cl ++ [124]) E (by have := HCL.out; have := HEL.out; simp only [List.length_append, List.length_cons, List.length_nil]; omega) w
        generalize hcl2 : cl ++ [124] = cl2 at *
        go_wp2_with fail
        obtain ⟨_, a0, a5, a7, k0, k1, k2, k3, k4, k5, k6, k7⟩ := keepT hpr HK.out hgr HATJ.out (Below.refl _ wr)
        refine wp_region_held_drew (S := (fun w' => Below wr.heap.size wr w' ∧ w'.cell? ⟨w.heap.size, 0, none⟩ = some (.int .i64 4) ∧ w'.cell? ⟨w.heap.size, 5, none⟩ = some (.int .i64 lo) ∧ w'.cell? ⟨w.heap.size, 7, none⟩ = some (.slice (some ⟨g, off, none⟩) n cap) ∧ w'.cell? ⟨g, off + j * 8, none⟩ = some (.int .i64 (kid j).k) ∧ w'.cell? ⟨g, off + j * 8 + 1, none⟩ = some (.int .u64 ((kid j).s 0)) ∧ w'.cell? ⟨g, off + j * 8 + 2, none⟩ = some (.int .u64 ((kid j).s 1)) ∧ w'.cell? ⟨g, off + j * 8 + 3, none⟩ = some (.int .u64 ((kid j).s 2)) ∧ w'.cell? ⟨g, off + j * 8 + 4, none⟩ = some (.int .u64 ((kid j).s 3)) ∧ w'.cell? ⟨g, off + j * 8 + 5, none⟩ = some (.int .i64 (kid j).lo) ∧ w'.cell? ⟨g, off + j * 8 + 6, none⟩ = some (.int .i64 (kid j).hi) ∧ w'.cell? ⟨g, off + j * 8 + 7, none⟩ = some (.slice (kid j).a (kid j).n (kid j).cap))) (by kernel_rfl) ?_ (fun hHeld => ?_)
        · exact keepT hpr HK.out hgr HATJ.out (Below.refl _ _).drew
        refine wpAnyH_take (i := 0) (oi := { dst := some 60, op := Op.move (Operand.tmp 4), type := 9, pos := "ref.go:138", after := #[], guard := none }) (v := ?_) rfl (by kernel_rfl) (by kernel_rfl) (by kernel_rfl) (fun _ _ _ h => h) (Or.inl ⟨by rfl, ?_⟩) (by assumption) ?_
        rotate_left
        · (intro w hSw; (try dsimp only at hSw); go_simp; try with_reducible rfl)
        try simp only [Act.put, List.setIfInBounds_toArray, List.set_cons_zero, List.set_cons_succ]
        refine wpAnyH_take (i := 1) (oi := { dst := some 61, op := Op.fieldAddr 28 (Operand.tmp 1) 4, type := 0, pos := "ref.go:138", after := #[], guard := none }) (v := ?_) rfl (by kernel_rfl) (by kernel_rfl) (by kernel_rfl) (fun _ _ _ h => h) (Or.inl ⟨by rfl, ?_⟩) (by assumption) ?_
        rotate_left
        · (intro w hSw; (try dsimp only at hSw); go_simp; try with_reducible rfl)
        try simp only [Act.put, List.setIfInBounds_toArray, List.set_cons_zero, List.set_cons_succ]
        refine wpAnyH_take (i := 2) (oi := { dst := some 62, op := Op.load 26 (Operand.tmp 61), type := 26, pos := "ref.go:138", after := #[{ on := 1, ground := Ground.data }], guard := none }) (v := ?_) rfl (by kernel_rfl) (by kernel_rfl) (by kernel_rfl) (fun _ _ _ h => h) (Or.inl ⟨by rfl, ?_⟩) (by assumption) ?_
        rotate_left
        · (intro w hSw; (try dsimp only at hSw); go_simp; try with_reducible rfl)
        try simp only [Act.put, List.setIfInBounds_toArray, List.set_cons_zero, List.set_cons_succ]
        refine wpAnyH_take (i := 3) (oi := { dst := some 63, op := Op.move (Operand.tmp 5), type := 3, pos := "ref.go:138", after := #[], guard := none }) (v := ?_) rfl (by kernel_rfl) (by kernel_rfl) (by kernel_rfl) (fun _ _ _ h => h) (Or.inl ⟨by rfl, ?_⟩) (by assumption) ?_
        rotate_left
        · (intro w hSw; (try dsimp only at hSw); go_simp; try with_reducible rfl)
        try simp only [Act.put, List.setIfInBounds_toArray, List.set_cons_zero, List.set_cons_succ]
        refine wpAnyH_take (i := 4) (oi := { dst := some 64, op := Op.indexAddr 26 (Operand.tmp 62) (Operand.tmp 63), type := 0, pos := "ref.go:138", after := #[{ on := 2, ground := Ground.data }, { on := 3, ground := Ground.data }], guard := none }) (v := ?_) rfl (by kernel_rfl) (by kernel_rfl) (by kernel_rfl) (fun _ _ _ h => h) (Or.inl ⟨by rfl, ?_⟩) (by assumption) ?_
        rotate_left
        · (intro w hSw; (try dsimp only at hSw); go_simp; try with_reducible rfl)
        try simp only [Act.put, List.setIfInBounds_toArray, List.set_cons_zero, List.set_cons_succ]
        refine wpAnyH_take (i := 5) (oi := { dst := some 65, op := Op.load 28 (Operand.tmp 64), type := 28, pos := "ref.go:138", after := #[{ on := 4, ground := Ground.data }], guard := none }) (v := ?_) rfl (by kernel_rfl) (by kernel_rfl) (by kernel_rfl) (fun _ _ _ h => h) (Or.inl ⟨by rfl, ?_⟩) (by assumption) ?_
        rotate_left
        · (intro w hSw; (try dsimp only at hSw); go_simp; try with_reducible rfl)
        try simp only [Act.put, List.setIfInBounds_toArray, List.set_cons_zero, List.set_cons_succ]
        refine wpAnyH_take (i := 6) (oi := { dst := some 66, op := Op.fieldAddr 28 (Operand.tmp 1) 0, type := 0, pos := "ref.go:138", after := #[], guard := none }) (v := ?_) rfl (by kernel_rfl) (by kernel_rfl) (by kernel_rfl) (fun _ _ _ h => h) (Or.inl ⟨by rfl, ?_⟩) (by assumption) ?_
        rotate_left
        · (intro w hSw; (try dsimp only at hSw); go_simp; try with_reducible rfl)
        try simp only [Act.put, List.setIfInBounds_toArray, List.set_cons_zero, List.set_cons_succ]
        refine wpAnyH_take (i := 7) (oi := { dst := some 67, op := Op.load 3 (Operand.tmp 66), type := 3, pos := "ref.go:138", after := #[{ on := 6, ground := Ground.data }], guard := none }) (v := ?_) rfl (by kernel_rfl) (by kernel_rfl) (by kernel_rfl) (fun _ _ _ h => h) (Or.inl ⟨by rfl, ?_⟩) (by assumption) ?_
        rotate_left
        · (intro w hSw; (try dsimp only at hSw); go_simp; try with_reducible rfl)
        try simp only [Act.put, List.setIfInBounds_toArray, List.set_cons_zero, List.set_cons_succ]
        refine wpAnyH_take (i := 8) (oi := { dst := some 68, op := Op.binOp BinOp.eql 3 (Operand.tmp 67) (Operand.const (Value.int IntKind.i64 3)) 3, type := 4, pos := "ref.go:138", after := #[{ on := 7, ground := Ground.data }], guard := none }) (v := ?_) rfl (by kernel_rfl) (by kernel_rfl) (by kernel_rfl) (fun _ _ _ h => h) (Or.inl ⟨by rfl, ?_⟩) (by assumption) ?_
        rotate_left
        · (intro w hSw; (try dsimp only at hSw); go_simp; try with_reducible rfl)
        try simp only [Act.put, List.setIfInBounds_toArray, List.set_cons_zero, List.set_cons_succ]
        refine wpAnyH_take (i := 9) (oi := { dst := some 69, op := Op.move (Operand.tmp 68), type := 4, pos := "ref.go:138", after := #[{ on := 8, ground := Ground.data }], guard := none }) (v := ?_) rfl (by kernel_rfl) (by kernel_rfl) (by kernel_rfl) (fun _ _ _ h => h) (Or.inl ⟨by rfl, ?_⟩) (by assumption) ?_
        rotate_left
        · (intro w hSw; (try dsimp only at hSw); go_simp; try with_reducible rfl)
        try simp only [Act.put, List.setIfInBounds_toArray, List.set_cons_zero, List.set_cons_succ]
        refine wpAnyH_take (i := 10) (oi := { dst := some 70, op := Op.fieldAddr 28 (Operand.tmp 1) 4, type := 0, pos := "ref.go:138", after := #[{ on := 9, ground := Ground.guard }], guard := some (9, true) }) (v := undef) rfl (by kernel_rfl) (by kernel_rfl) (by kernel_rfl) (fun _ _ _ h => h) (Or.inr ⟨by rfl, rfl⟩) (by assumption) ?_
        try simp only [Act.put, List.setIfInBounds_toArray, List.set_cons_zero, List.set_cons_succ]
        refine wpAnyH_take (i := 11) (oi := { dst := some 71, op := Op.load 26 (Operand.tmp 70), type := 26, pos := "ref.go:138", after := #[{ on := 10, ground := Ground.data }, { on := 9, ground := Ground.guard }], guard := some (9, true) }) (v := undef) rfl (by kernel_rfl) (by kernel_rfl) (by kernel_rfl) (fun _ _ _ h => h) (Or.inr ⟨by rfl, rfl⟩) (by assumption) ?_
        try simp only [Act.put, List.setIfInBounds_toArray, List.set_cons_zero, List.set_cons_succ]
        refine wpAnyH_take (i := 12) (oi := { dst := some 72, op := Op.move (Operand.tmp 5), type := 3, pos := "ref.go:138", after := #[{ on := 9, ground := Ground.guard }], guard := some (9, true) }) (v := undef) rfl (by kernel_rfl) (by kernel_rfl) (by kernel_rfl) (fun _ _ _ h => h) (Or.inr ⟨by rfl, rfl⟩) (by assumption) ?_
        try simp only [Act.put, List.setIfInBounds_toArray, List.set_cons_zero, List.set_cons_succ]
        refine wpAnyH_take (i := 13) (oi := { dst := some 73, op := Op.indexAddr 26 (Operand.tmp 71) (Operand.tmp 72), type := 0, pos := "ref.go:138", after := #[{ on := 11, ground := Ground.data }, { on := 12, ground := Ground.data }, { on := 9, ground := Ground.guard }], guard := some (9, true) }) (v := undef) rfl (by kernel_rfl) (by kernel_rfl) (by kernel_rfl) (fun _ _ _ h => h) (Or.inr ⟨by rfl, rfl⟩) (by assumption) ?_
        try simp only [Act.put, List.setIfInBounds_toArray, List.set_cons_zero, List.set_cons_succ]
        refine wpAnyH_take (i := 14) (oi := { dst := some 74, op := Op.fieldAddr 28 (Operand.tmp 73) 0, type := 0, pos := "ref.go:138", after := #[{ on := 13, ground := Ground.data }, { on := 9, ground := Ground.guard }], guard := some (9, true) }) (v := undef) rfl (by kernel_rfl) (by kernel_rfl) (by kernel_rfl) (fun _ _ _ h => h) (Or.inr ⟨by rfl, rfl⟩) (by assumption) ?_
        try simp only [Act.put, List.setIfInBounds_toArray, List.set_cons_zero, List.set_cons_succ]
        refine wpAnyH_take (i := 15) (oi := { dst := some 75, op := Op.load 3 (Operand.tmp 74), type := 3, pos := "ref.go:138", after := #[{ on := 14, ground := Ground.data }, { on := 9, ground := Ground.guard }], guard := some (9, true) }) (v := undef) rfl (by kernel_rfl) (by kernel_rfl) (by kernel_rfl) (fun _ _ _ h => h) (Or.inr ⟨by rfl, rfl⟩) (by assumption) ?_
        try simp only [Act.put, List.setIfInBounds_toArray, List.set_cons_zero, List.set_cons_succ]
        refine wpAnyH_take (i := 16) (oi := { dst := some 76, op := Op.binOp BinOp.eql 3 (Operand.tmp 75) (Operand.const (Value.int IntKind.i64 4)) 3, type := 4, pos := "ref.go:138", after := #[{ on := 15, ground := Ground.data }, { on := 9, ground := Ground.guard }], guard := some (9, true) }) (v := undef) rfl (by kernel_rfl) (by kernel_rfl) (by kernel_rfl) (fun _ _ _ h => h) (Or.inr ⟨by rfl, rfl⟩) (by assumption) ?_
        try simp only [Act.put, List.setIfInBounds_toArray, List.set_cons_zero, List.set_cons_succ]
        refine wpAnyH_take (i := 17) (oi := { dst := some 77, op := Op.pick (Operand.tmp 69) (Operand.tmp 76) (Operand.const (Value.bool false)), type := 4, pos := "ref.go:138", after := #[{ on := 9, ground := Ground.data }, { on := 16, ground := Ground.data }], guard := none }) (v := ?_) rfl (by kernel_rfl) (by kernel_rfl) (by kernel_rfl) (fun _ _ _ h => h) (Or.inl ⟨by rfl, ?_⟩) (by assumption) ?_
        rotate_left
        · (intro w hSw; (try dsimp only at hSw); go_simp; try with_reducible rfl)
        try simp only [Act.put, List.setIfInBounds_toArray, List.set_cons_zero, List.set_cons_succ]
        refine wpAnyH_ready (rs := [18]) (by kernel_rfl) (by simp) ?_
        refine AllReadyH.cons (o := { dst := some 78, op := Op.call { callee := Callee.value (Operand.func 66), args := #[Operand.tmp 65, Operand.tmp 77], argTypes := #[28, 4] }, type := 9, pos := "ref.go:138", after := #[{ on := 5, ground := Ground.data }, { on := 17, ground := Ground.data }, { on := 9, ground := Ground.chain }], guard := none }) rfl (fun K hK => ?_) ?_
        · go_simp
          refine (fromB (w := wr) (HIN.out _ (HLJ.out.now (Below.refl _ _).drew)) (Below.refl _ _).drew).mono ?_
          rintro e wz ⟨rfl, hBz⟩
          go_wp2_with fail
          refine hK.out _ _ ?_ (fun hHeld => ?_)
          · exact keepT hpr HK.out hgr HATJ.out hBz
          clear hK K
          try simp only [Act.put, List.setIfInBounds_toArray, List.set_cons_zero, List.set_cons_succ]
          refine wpAnyH_take (i := 19) (oi := { dst := some 79, op := Op.binOp BinOp.add 9 (Operand.tmp 60) (Operand.tmp 78) 9, type := 9, pos := "ref.go:138", after := #[{ on := 0, ground := Ground.data }, { on := 18, ground := Ground.data }], guard := none }) (v := ?_) rfl (by kernel_rfl) (by kernel_rfl) (by kernel_rfl) (fun _ _ _ h => h) (Or.inl ⟨by rfl, ?_⟩) (by assumption) ?_
          rotate_left
          · (intro w hSw; (try dsimp only at hSw); go_simp; try with_reducible rfl)
          try simp only [Act.put, List.setIfInBounds_toArray, List.set_cons_zero, List.set_cons_succ]
          refine wpAnyH_take (i := 20) (oi := { dst := some 4, op := Op.assign (Operand.tmp 79), type := 9, pos := "ref.go:138", after := #[{ on := 19, ground := Ground.data }, { on := 18, ground := Ground.chain }, { on := 0, ground := Ground.phase }, { on := 1, ground := Ground.phase }, { on := 2, ground := Ground.phase }, { on := 3, ground := Ground.phase }, { on := 4, ground := Ground.phase }, { on := 5, ground := Ground.phase }, { on := 6, ground := Ground.phase }, { on := 7, ground := Ground.phase }, { on := 8, ground := Ground.phase }, { on := 9, ground := Ground.phase }, { on := 10, ground := Ground.phase }, { on := 11, ground := Ground.phase }, { on := 12, ground := Ground.phase }, { on := 13, ground := Ground.phase }, { on := 14, ground := Ground.phase }, { on := 15, ground := Ground.phase }, { on := 16, ground := Ground.phase }, { on := 17, ground := Ground.phase }, { on := 18, ground := Ground.phase }, { on := 19, ground := Ground.phase }], guard := none }) (v := ?_) rfl (by kernel_rfl) (by kernel_rfl) (by kernel_rfl) (fun _ _ _ h => h) (Or.inl ⟨by rfl, ?_⟩) (by assumption) ?_
          rotate_left
          · (intro w hSw; (try dsimp only at hSw); go_simp; try with_reducible rfl)
          try simp only [Act.put, List.setIfInBounds_toArray, List.set_cons_zero, List.set_cons_succ]
          refine wpAnyH_done (by kernel_rfl) ?_ _
          have HBw := Lib.hid (hb.trans (hBz.mono hb.size))
          have HKz := Lib.hid ((hBz.block _ hpr).trans HK.out)
          clear hBz a0 a5 a7 k0 k1 k2 k3 k4 k5 k6 k7
          go_wp2
          go_roundw
          case rel => exact ⟨j + 1, by omega, by go_num, Lib.hid (by rw [HS2.out]), HKz, HBw.out⟩
          case measure => simp [intOf]; omega
        · exact AllReadyH.nil
    · obtain rfl : n = j := by omega
      have HX := Lib.hid (show T = catTo (pieceT 4 kid) n from HT.out)
      have x7 := (cell8 HK.out).2.2.2.2.2.2.2
      go_wp2
      go_ret
      exact ⟨by rw [HX.out]; rfl, hb⟩
end Go.Proofs.YtnfchlkdppblfaaDoor
/- Contracts of the document's own Text and Print of layer 3. -/
namespace Go.Proofs.YtnfchlkdppblfaaDoor
open Go.RowKit
set_option maxRecDepth 100000 in
/-- Text, of any pattern as in the table. -/
theorem text_any : ∀ t : Tr, fitT t = true → cnt t ≤ 2000 → Texts t := by
  intro t
  induction t with
  | nul => intro hf; cases hf
  | node k s lo hi a n cap kid ih =>
  intro hf hcn w hL
  have hc := fits_cases (fitT_fits hf)
  simp only [Tr.k, Tr.n, Tr.lo, Tr.hi] at hc
  have hck : ∀ i, i < n → cnt (kid i) ≤ 2000 := fun i hi => by
    have h1 := sumTo_mono (fun i => cnt (kid i)) (show i + 1 ≤ n by omega)
    simp only [sumTo] at h1
    simp only [cnt] at hcn
    omega
  have ih' : ∀ i, i < n → Texts (kid i) := fun i hi => ih i (fitT_kid hf hi) (hck i hi)
  rcases hc with ⟨rfl, _⟩ | ⟨rfl, _⟩ | ⟨hk, _⟩ | ⟨rfl, rfl, h1, h2, h3, h4⟩
  · exact text_empty s lo hi _ w
  · exact text_bytes s hL.1 (fits_set (fitT_fits hf) rfl) lo hi _ w
  · rw [txt_many (by omega) (by omega), if_neg (by omega), List.append_nil]
    rcases hk with rfl | rfl
    · exact text_3 s lo hi a n cap kid ih' hck hcn w hL
    · exact text_4 s lo hi a n cap kid ih' hck hcn w hL
  · rw [txt_many (by omega) (by omega), if_pos rfl]
    obtain ⟨g, off, rfl, hg, hat⟩ := hL.2.2.2.1 (by omega)
    have hkf := fits_cases (fitT_fits (fitT_kid (i := 0) hf (by show 0 < 1; omega)))
    have := text_rep s lo hi h1 h2 h3 h4 g off cap (kid 0) (by have : (Tr.node 5 s lo hi (some ⟨g, off, none⟩) 1 cap kid).kid 0 = kid 0 := rfl; rw [this] at hkf; omega) (ih' 0 (by omega)) (hck 0 (by omega)) w hg (hat 0 (by omega)).zero (hL.2.2.2.2 0 (by omega))
    have e : catTo (pieceT 5 kid) 1 = encT (txt (kid 0)) (enclB (kid 0).k 5) := by simp [catTo, pieceT]
    rw [e]
    exact this
end Go.Proofs.YtnfchlkdppblfaaDoor
