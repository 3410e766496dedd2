/- The landed code's whole. -/
import Derived.Test.YtnloepanbjgbaaaGreatDoorQt
import Derived.Test.YtnloepanbjgbaaaGreatDoorQe
import Derived.LaidEql
import Derived.Stop.Asserts
import Derived.RowKitTokens
namespace Go.Proofs.YtnloepanbjgbaaaGreatDoor
open Go.RowKit
theorem plain_congr {s s' : Nat → Int} (h : eqS s s' = true) : eqS s z0 = eqS s' z0 := by
  simp only [eqS, Bool.and_eq_true, beq_iff_eq] at h
  simp only [eqS, h.1, h.2.1, h.2.2.1, h.2.2.2]
theorem anyTo_congr {p q : Nat → Bool} : ∀ {n : Nat}, (∀ i, i < n → p i = q i) → anyTo p n = anyTo q n
  | 0, _ => rfl
  | n + 1, h => by rw [anyTo, anyTo, anyTo_congr fun i hi => h i (by omega), h n (by omega)]
theorem allTo_congr {p q : Nat → Bool} : ∀ {n : Nat}, (∀ i, i < n → p i = q i) → allTo p n = allTo q n
  | 0, _ => rfl
  | n + 1, h => by rw [allTo, allTo, allTo_congr fun i hi => h i (by omega), h n (by omega)]
theorem sumTo_congr {f g : Nat → Nat} : ∀ {n : Nat}, (∀ i, i < n → f i = g i) → sumTo f n = sumTo g n
  | 0, _ => rfl
  | n + 1, h => by rw [sumTo, sumTo, sumTo_congr fun i hi => h i (by omega), h n (by omega)]
theorem fits_same {t u : Tr} (h : sameT t u = true) : fitsB t = fitsB u := by
  obtain ⟨hk, hs, hl, hh, hn, hkid⟩ := same_like h
  have h1 := plain_congr hs
  have h2 : anyTo (fun i => decide ((t.kid i).k = t.k)) t.n = anyTo (fun i => decide ((u.kid i).k = u.k)) u.n := by
    rw [← hn, ← hk]
    exact anyTo_congr fun i hi => by rw [(same_like (hkid i hi)).1]
  unfold fitsB plainB
  rw [← hk, ← hl, ← hh, ← hn, h1]
  rw [hk, hn] at h2 ⊢
  rw [h2]
theorem okT_eq (t : Tr) (lv : Nat) : okT t lv = (decide (0 < lv) && (fitsB t && allTo (fun i => okT (t.kid i) (lv - 1)) t.n)) := by
  cases t with
  | node => rfl
  | nul => simp [okT, fitsB, Tr.k]
theorem cnt_eq (t : Tr) : cnt t = 1 + sumTo (fun i => cnt (t.kid i)) t.n := by
  cases t with
  | node => rfl
  | nul => rfl
theorem own_same {t u : Tr} (h : sameT t u = true) : ownT t = ownT u ∧ timT t = timT u := by
  obtain ⟨hk, hs, hl, hh, hn, hkid⟩ := same_like h
  unfold ownT timT
  rw [hk, hl, hh]
  exact ⟨rfl, rfl⟩
theorem same_all : ∀ (t u : Tr), sameT t u = true → (∀ lv, okT t lv = okT u lv) ∧ cnt t = cnt u ∧ sz t = sz u
  | .node k s lo hi a n cap kid, u, h => by
    obtain ⟨hk, hs, hl, hh, hn, hkid⟩ := same_like h
    have ih := fun i hi => same_all (kid i) (u.kid i) (hkid i hi)
    refine ⟨fun lv => ?_, ?_, ?_⟩
    · rw [okT_eq, okT_eq u, fits_same h, ← hn]
      congr 2
      exact allTo_congr fun i hi => (ih i hi).1 (lv - 1)
    · rw [cnt_eq, cnt_eq u, ← hn]
      congr 1
      exact sumTo_congr fun i hi => (ih i hi).2.1
    · rw [sz_eq, sz_eq u, ← hn, (own_same h).1, (own_same h).2]
      congr 2
      exact sumTo_congr fun i hi => (ih i hi).2.2
  | .nul, u, h => by
    obtain ⟨hk, hs, hl, hh, hn, hkid⟩ := same_like h
    have hn0 : u.n = 0 := hn.symm
    refine ⟨fun lv => ?_, ?_, ?_⟩
    · rw [okT_eq, okT_eq u, fits_same h, hn0]; rfl
    · rw [cnt_eq, cnt_eq u, hn0]; rfl
    · rw [sz_eq, sz_eq u, hn0, (own_same h).1]; rfl
theorem right_same {t u : Tr} (h : sameT t u = true) : rightB t = rightB u := by
  obtain ⟨h1, h2, h3⟩ := same_all t u h
  unfold rightB
  rw [h1, h2, h3]
def wholeP (S : ByteArray) (D : Df) (n : Nat) (fold : Bool) : Rs (Tr × Nat) :=
  match choF (grpD S D n fold 20) S D n fold 0 0 with
  | .er e k => .er e k
  | .ok T j => if nx S j = -1 then (if rightB T.1 = true then .ok T j else .er 2 0) else .er 20 j
set_option maxRecDepth 100000 in
set_option maxHeartbeats 4000000 in
theorem whole_any (D : Df) (w : World) (p : Nat) (C : Cx) (hDo : DfOk D C.n) (h : Rd w p C 0 0 0) (hD : DfAt w p C D) : Calls Tryz.prog 24 #[rp p] w (PT w p C 0 (wholeP C.S D C.n C.fold)) := by
  have hpq := h.lt
  have hz := h.sz
  have hb0 := alloc_below w (.cells (row8 0 z0 0 0 (.slice none 0 0)) 31)
  have HR0 := Lib.hid (h.below hb0)
  have HG0 := Lib.hid (grown_of_below hb0 (some p))
  have HQ0 := Lib.hid (heap_alloc_new w (.cells (row8 0 z0 0 0 (.slice none 0 0)) 31))
  have HZ0 := Lib.hid (show (w.alloc (.cells (row8 0 z0 0 0 (.slice none 0 0)) 31)).heap.size = w.heap.size + 1 by simp)
  have HC := Lib.hid (choice_all D p C hDo 20 0 rfl _ 0 0 HR0.out (hD.on hpq HG0.out))
  obtain ⟨R, hR⟩ : ∃ R, R = wholeP C.S D C.n C.fold := ⟨_, rfl⟩
  rw [← hR]
  unfold wholeP at hR
  have HE := Lib.hid hR
  clear hR h hb0 hD hDo
  obtain ⟨q, hqq⟩ : ∃ q, q = w.heap.size := ⟨_, rfl⟩
  have hqs : w.heap.size ≤ q := by omega
  rw [← hqq] at HQ0 HZ0
  go_enter Tryz.func24, Tryz.ntmps24
  go_wp2_with fail
  refine HC.out.mono ?_
  intro e w1 h1
  rw [← hqq]
  have hq1 : q + 1 ≤ w1.heap.size := by have := h1.1.size; rw [HZ0.out] at this; exact this
  have HG1 := Lib.hid (gtrans HG0.out h1.1)
  have HQ1 := Lib.hid (box_on HQ0.out (show p ≠ q by omega) h1.1)
  have hq2 : q < w1.heap.size := by omega
  obtain ⟨xb, hxb⟩ : ∃ xb, xb = w1.heap.size := ⟨_, rfl⟩
  have hqx : q < xb := by omega
  clear HC hqq
  cases hr1 : choF (grpD C.S D C.n C.fold 20) C.S D C.n C.fold 0 0 with
  | er e0 k =>
    rw [hr1] at h1 HE
    obtain ⟨_, ⟨k0, s, lo, hi', a, n, cap, rfl⟩, hk, j1, cc, hR1⟩ := h1
    have hb1 := alloc_below w1 (.cells (row8 k0 s lo hi' (.slice a n cap)) 31)
    have hQ2 := (hb1.block q hq2).trans HQ1.out
    have HF := Lib.hid (fin8r (hR1.below hb1) (gbelow HG1.out hb1) hpq hqs hQ2 k0 s lo hi' (.slice a n cap))
    have HPT := Lib.hid (show PT w p C 0 R (.returned (.tuple #[nodeV k0 s lo hi' (.slice a n cap), errV e0 k])) _ by rw [HE.out]; exact ⟨HF.out.2.2, ⟨k0, s, lo, hi', a, n, cap, rfl⟩, hk, j1, cc, HF.out.2.1⟩)
    obtain ⟨d0, d1, d2, d3, d4, d5, d6, d7⟩ := cell8 (s := z0) hQ2
    obtain ⟨f0, f1, f2, f3, f4, f5, f6, f7⟩ := frozen8 (s := z0) hQ2
    clear hR1 hb1 hQ2 hr1 HE HG1 HQ1 hq1 hq2 hxb
    go_wp2
    exact bodyPost_ret (v := .tuple #[nodeV k0 s lo hi' (.slice a n cap), errV e0 k]) (ret8t Tryz.results24 rfl rfl HF.out.1) rfl HPT.out
  | ok T j1 =>
    rw [hr1] at h1 HE
    have HE := Lib.hid (show R = if nx C.S j1 = -1 then (if rightB T.1 = true then .ok T j1 else .er 2 0) else .er 20 j1 from HE.out)
    obtain ⟨_, x, rfl, hs, hL, hU, hR1⟩ := h1
    have hb1 := alloc_below w1 (.cells (row8 x.k x.s x.lo x.hi (.slice x.a x.n x.cap)) 31)
    have HU := Lib.hid (show Up (q + 1) x from hU.mono (by rw [HZ0.out]; exact Nat.le_refl _))
    have HL := Lib.hid (hL.now hb1)
    have HS := Lib.hid hs
    have HR2 := Lib.hid (hR1.below hb1)
    have HG2 := Lib.hid (gbelow HG1.out hb1)
    have HQ2 := Lib.hid ((hb1.block q hq2).trans HQ1.out)
    have HX2 := Lib.hid (heap_alloc_new w1 (.cells (row8 x.k x.s x.lo x.hi (.slice x.a x.n x.cap)) 31))
    rw [← hxb] at HX2
    have hjl := hR1.le
    have HN := Lib.hid (next_any _ p C j1 0 T.2 HR2.out)
    have HRI := Lib.hid (right_any x _ HL.out)
    obtain ⟨y, hy⟩ : ∃ y, y = nx C.S j1 := ⟨_, rfl⟩
    rw [← hy] at HN HE
    clear hs hL hU hR1 hb1 hr1 HG1 HQ1 hq1 hq2 hy
    unfold Tr.val
    go_wp2_with fail
    refine HN.out.mono ?_
    rintro e w3 ⟨rfl, hw⟩
    rw [hw] at HR2 HG2 HQ2 HX2 HL HRI
    rw [← hxb]
    clear hw hxb HN
    by_cases hm : y = -1
    · rw [if_pos hm] at HE
      subst hm
      obtain ⟨b0, b1, b2, b3, b4, b5, b6, b7⟩ := cell8 HX2.out
      go_wp2_with fail
      refine HRI.out.mono ?_
      rintro e w4 ⟨rfl, hb4⟩
      have HR4 := Lib.hid (HR2.out.below hb4)
      have HG4 := Lib.hid (gbelow HG2.out hb4)
      have HQ4 := Lib.hid ((hb4.block q (Array.getElem?_eq_some_iff.1 HQ2.out).1).trans HQ2.out)
      have HX4 := Lib.hid ((hb4.block xb (Array.getElem?_eq_some_iff.1 HX2.out).1).trans HX2.out)
      have HL4 := Lib.hid (HL.out.now hb4)
      have HRS := Lib.hid (right_same HS.out)
      clear hb4 b0 b1 b2 b3 b4 b5 b6 b7 HR2 HG2 HQ2 HX2 HL HRI
      have HF := Lib.hid (fin8r HR4.out HG4.out hpq hqs HQ4.out x.k x.s x.lo x.hi (.slice x.a x.n x.cap))
      have HL5 := Lib.hid (lives_put8u HU.out HL4.out x.k x.s x.lo x.hi (.slice x.a x.n x.cap))
      obtain ⟨d0, d1, d2, d3, d4, d5, d6, d7⟩ := cell8 (s := z0) HQ4.out
      obtain ⟨f0, f1, f2, f3, f4, f5, f6, f7⟩ := frozen8 (s := z0) HQ4.out
      obtain ⟨b0, b1, b2, b3, b4, b5, b6, b7⟩ := cell8 HX4.out
      cases hr : rightB x
      · have HPT := Lib.hid (show PT w p C 0 R (.returned (.tuple #[nodeV x.k x.s x.lo x.hi (.slice x.a x.n x.cap), errV 2 0])) _ by
          rw [HE.out, if_neg (by rw [← HRS.out, hr]; simp)]; exact ⟨HF.out.2.2, ⟨x.k, x.s, x.lo, x.hi, x.a, x.n, x.cap, rfl⟩, Nat.zero_le _, _, _, HF.out.2.1⟩)
        clear hr HE HL4 HL5 HRS
        go_wp2
        exact bodyPost_ret (v := .tuple #[nodeV x.k x.s x.lo x.hi (.slice x.a x.n x.cap), errV 2 0]) (ret8t Tryz.results24 rfl rfl HF.out.1) rfl HPT.out
      · have HPT := Lib.hid (show PT w p C 0 R (.returned (.tuple #[nodeV x.k x.s x.lo x.hi (.slice x.a x.n x.cap), .nilIface])) _ by
          rw [HE.out, if_pos (by rw [← HRS.out, hr])]; exact ⟨HF.out.2.2, x, rfl, HS.out, HL5.out, HU.out.mono (by omega), HF.out.2.1⟩)
        clear hr HE HL4 HL5 HRS
        go_wp2
        exact bodyPost_ret (v := .tuple #[nodeV x.k x.s x.lo x.hi (.slice x.a x.n x.cap), .nilIface]) (ret8t Tryz.results24 rfl rfl HF.out.1) rfl HPT.out
    · rw [if_neg hm] at HE
      have hm' : (y != -1) = true := by simp [hm]
      have HW := Lib.hid (wrong_any 20 w3 p C j1 0 T.2 HR2.out)
      have HF := Lib.hid (fin8r HR2.out HG2.out hpq hqs HQ2.out x.k x.s x.lo x.hi (.slice x.a x.n x.cap))
      have HPT := Lib.hid (show PT w p C 0 R (.returned (.tuple #[nodeV x.k x.s x.lo x.hi (.slice x.a x.n x.cap), errV 20 j1])) _ by
        rw [HE.out]; exact ⟨HF.out.2.2, ⟨x.k, x.s, x.lo, x.hi, x.a, x.n, x.cap, rfl⟩, hjl, _, _, HF.out.2.1⟩)
      obtain ⟨d0, d1, d2, d3, d4, d5, d6, d7⟩ := cell8 (s := z0) HQ2.out
      obtain ⟨f0, f1, f2, f3, f4, f5, f6, f7⟩ := frozen8 (s := z0) HQ2.out
      obtain ⟨b0, b1, b2, b3, b4, b5, b6, b7⟩ := cell8 HX2.out
      clear HE HL HRI
      go_wp2_with (go_at_call 45; refine HW.out.mono ?_; rintro e w' ⟨rfl, rfl⟩)
      exact bodyPost_ret (v := .tuple #[nodeV x.k x.s x.lo x.hi (.slice x.a x.n x.cap), errV 20 j1]) (ret8t Tryz.results24 rfl rfl HF.out.1) rfl HPT.out
end Go.Proofs.YtnloepanbjgbaaaGreatDoor
/- The landed code's allRight, where all definitions are right. -/
namespace Go.Proofs.YtnloepanbjgbaaaGreatDoor
open Go.RowKit
theorem DfAt.later {w w' : World} {p : Nat} {C : Cx} {D : Df} (h : DfAt w p C D) (hp : p ≤ w.heap.size) (hb : Below w.heap.size w w') : DfAt w' p C D := by
  have hb' := hb.mono hp
  refine ⟨h.len, fun hn => ?_, fun i hi => ⟨(h.tr i hi).1.below hb', (h.tr i hi).2⟩⟩
  obtain ⟨g, off, ha, hg, hc⟩ := h.row hn
  exact ⟨g, off, ha, hg, fun i hi => ⟨(hb'.cell (p := ⟨g, _, none⟩) hg).trans (hc i hi).1, (hc i hi).2.below hg hb'⟩⟩
theorem DfAt.mono {w : World} {p p' : Nat} {C : Cx} {D : Df} (h : DfAt w p C D) (hp : p ≤ p') : DfAt w p' C D := by
  refine ⟨h.len, fun hn => ?_, fun i hi => ⟨(h.tr i hi).1.mono hp, (h.tr i hi).2⟩⟩
  obtain ⟨g, off, ha, hg, hc⟩ := h.row hn
  exact ⟨g, off, ha, by omega, hc⟩
set_option maxRecDepth 100000 in
set_option maxHeartbeats 2000000 in
theorem allRight_yes (D : Df) (C : Cx) (w : World) (hD : DfAt w w.heap.size C D) (hr : ∀ i, i < C.n → nameB (D.nm i) = true ∧ rightB (D.dt i) = true) :
    Calls Tryz.prog 23 #[.slice C.a C.n C.cap] w fun e w' => e = .returned (.bool true) ∧ Below w.heap.size w w' := by
  have hlen := hD.len
  have HD := Lib.hid hD
  have HR := Lib.hid hr
  clear hD hr
  go_enter Tryz.func23, Tryz.ntmps23
  go_wp2
  go_loopw [7] (fun v wr => ∃ j : Nat, j ≤ C.n ∧ v = .int .i64 j ∧ Below w.heap.size w wr) (fun v _ => C.n - (intOf v).toNat)
  case atStart => exact ⟨0, by omega, rfl, Below.refl _ _⟩
  case round =>
    obtain ⟨j, hj, rfl, hb⟩ := hrel
    by_cases hlt : j < C.n
    · have i3 : (j : Int) < (C.n : Int) := by omega
      have hDr := HD.out.later (Nat.le_refl _) hb
      obtain ⟨g, off, ha, hg, hcs⟩ := hDr.row (by omega)
      rw [ha]
      obtain ⟨e0, h8⟩ := hcs j hlt
      obtain ⟨t, ht⟩ : ∃ t, t = D.dt j := ⟨_, rfl⟩
      obtain ⟨dn, hdn⟩ : ∃ dn, dn = D.nm j := ⟨_, rfl⟩
      rw [← ht] at h8
      rw [← hdn] at e0
      have e1 : wr.cell? ⟨g, off + j * 9 + 1, none⟩ = some (.int .i64 t.k) := h8.1
      have e2 : wr.cell? ⟨g, off + j * 9 + 2, none⟩ = some (.int .u64 (t.s 0)) := h8.2.1
      have e3 : wr.cell? ⟨g, off + j * 9 + 3, none⟩ = some (.int .u64 (t.s 1)) := h8.2.2.1
      have e4 : wr.cell? ⟨g, off + j * 9 + 4, none⟩ = some (.int .u64 (t.s 2)) := h8.2.2.2.1
      have e5 : wr.cell? ⟨g, off + j * 9 + 5, none⟩ = some (.int .u64 (t.s 3)) := h8.2.2.2.2.1
      have e6 : wr.cell? ⟨g, off + j * 9 + 6, none⟩ = some (.int .i64 t.lo) := h8.2.2.2.2.2.1
      have e7 : wr.cell? ⟨g, off + j * 9 + 7, none⟩ = some (.int .i64 t.hi) := h8.2.2.2.2.2.2.1
      have e8 : wr.cell? ⟨g, off + j * 9 + 8, none⟩ = some (.slice t.a t.n t.cap) := h8.2.2.2.2.2.2.2
      obtain ⟨hn, hrt⟩ := HR.out j hlt
      rw [← hdn] at hn
      rw [← ht] at hrt
      have hnl : dn.size ≤ maxLen := by
        have hn' := hn
        simp only [nameB, Bool.and_eq_true, decide_eq_true_eq] at hn'
        unfold maxLen; omega
      have HN := Lib.hid (name_any dn (wr.alloc (.cells #[.string dn, .int .i64 t.k, .int .u64 (t.s 0), .int .u64 (t.s 1), .int .u64 (t.s 2), .int .u64 (t.s 3), .int .i64 t.lo, .int .i64 t.hi, .slice t.a t.n t.cap] 66)) hnl)
      rw [hn] at HN
      have hb5 := alloc_below wr (.cells #[.string dn, .int .i64 t.k, .int .u64 (t.s 0), .int .u64 (t.s 1), .int .u64 (t.s 2), .int .u64 (t.s 3), .int .i64 t.lo, .int .i64 t.hi, .slice t.a t.n t.cap] 66)
      have HL5 := Lib.hid (show Lives _ _ t by rw [ht]; exact ((hDr.tr j hlt).1.mono hb.size).now hb5)
      have HRI := Lib.hid (right_any t _ HL5.out)
      rw [hrt] at HRI
      have HB5 := Lib.hid (hb.trans (hb5.mono hb.size))
      clear hcs h8 ha ht hdn hDr hn hrt hb5
      go_wp2_with fail
      refine HN.out.mono ?_
      rintro e w' ⟨rfl, rfl⟩
      go_wp2_with fail
      refine HRI.out.mono ?_
      rintro e w6 ⟨rfl, hb6⟩
      have HB6 := Lib.hid (HB5.out.trans (hb6.mono HB5.out.size))
      clear hb6 hb e0 e1 e2 e3 e4 e5 e6 e7 e8 HN HRI HL5
      go_wp2
      go_roundw
      case rel => exact ⟨j + 1, by omega, by go_num, HB6.out⟩
      case measure => simp [intOf]; omega
    · have i3 : ¬ (j : Int) < (C.n : Int) := by omega
      have i4 : ¬ j < C.n := by omega
      go_wp2
      go_ret
      exact ⟨rfl, hb⟩
end Go.Proofs.YtnloepanbjgbaaaGreatDoor
/- errors.As, at the reader's own errors: Go's own text is walked; the model's entries for internal/reflectlite by closed facts at this dump's numbers. After the guide's worked example. -/
namespace Go.Proofs.YtnloepanbjgbaaaGreatDoor
open Go.RowKit Go.Extern.Stop Go.Stop Go.Extern
theorem rlm (z : Sem Value) (f : TypeId → Addr → Nat → Nat → Sem Value) (v : Value) :
    ReflectliteValue.method z f #[v] = (do match ← ReflectliteValue.parts v with | none => z | some (t, a, fl) => f t a fl (fl % 32)) := rfl
theorem rls (v x : Value) : ReflectliteValue.set #[v, x] = (do
    let (some (dst, a, fl), some (src, b, _)) := (← ReflectliteValue.parts v, ← ReflectliteValue.parts x)
      | unsupported (.noEntry "extern/(internal/reflectlite.Value).Set.zeroValue")
    if fl / ReflectliteValue.flagAddr % 2 == 0 then unsupported (.noEntry "extern/(internal/reflectlite.Value).Set.unaddressable")
    let val ← loadVar src b
    if ← Rtype.directlyAssignable dst src then storeVar dst a val
    else if ← Rtype.implements dst src then
      if (← Rtype.kind src) == 20 then
        match val with
        | .nilIface => unsupported (.noEntry "extern/reflectlite: a nil value of one interface type handed on as a value of another")
        | _ => storeVar dst a val
      else storeVar dst a (.iface src val)
    else panicString ("reflectlite.Set: value of type " ++ (← Rtype.spelt src) ++ " is not assignable to type " ++ (← Rtype.spelt dst))
    pure (.tuple #[])) := rfl
theorem methKind (h : Value) (w : World) : (Go.method 303 124 (.agg #[h]) "Kind").run Tryz.prog w = .ok (163, h) w := by kernel_rfl
theorem methElem (h : Value) (w : World) : (Go.method 303 124 (.agg #[h]) "Elem").run Tryz.prog w = .ok (174, .agg #[h]) w := by kernel_rfl
theorem methImplements (h : Value) (w : World) : (Go.method 303 124 (.agg #[h]) "Implements").run Tryz.prog w = .ok (175, .agg #[h]) w := by kernel_rfl
theorem methAssignableTo (h : Value) (w : World) : (Go.method 303 124 (.agg #[h]) "AssignableTo").run Tryz.prog w = .ok (172, .agg #[h]) w := by kernel_rfl
theorem methUnwrap (a b : Value) (w : World) : (Go.method 303 86 (.agg #[a, b]) "Unwrap").run Tryz.prog w = .ok (167, .agg #[a, b]) w := by kernel_rfl
theorem noAs86 (v : Value) (xT : TypeId) (w : World) : (Instr.typeAssert (.iface 86 v) xT 129 true).run Tryz.prog w = .ok (.tuple #[.nilIface, .bool false]) w := run_typeAssert_lacksB Tryz.underlying129 (by kernel_rfl) (by kernel_rfl) v xT w
theorem hasUnwrap86 (v : Value) (xT : TypeId) (w : World) : (Instr.typeAssert (.iface 86 v) xT 132 true).run Tryz.prog w = .ok (.tuple #[.iface 86 v, .bool true]) w := run_typeAssert_hasB Tryz.underlying132 (by kernel_rfl) v xT w
theorem typeOf84 (v : Value) (w : World) : (ReflectliteType.typeOf #[.iface 84 v]).run Tryz.prog w = .ok (.iface 124 (.agg #[.pointer (some ⟨5, 84, none⟩)])) w := by kernel_rfl
theorem typeOf86 (v : Value) (w : World) : (ReflectliteType.typeOf #[.iface 86 v]).run Tryz.prog w = .ok (.iface 124 (.agg #[.pointer (some ⟨5, 86, none⟩)])) w := by kernel_rfl
theorem assign84 (w : World) : (ReflectliteType.relation "AssignableTo" ReflectliteType.assignableTo #[.agg #[.pointer (some ⟨5, 84, none⟩)], .iface 124 (.agg #[.pointer (some ⟨5, 84, none⟩)])]).run Tryz.prog w = .ok (.bool true) w := by kernel_rfl
theorem assign86 (w : World) : (ReflectliteType.relation "AssignableTo" ReflectliteType.assignableTo #[.agg #[.pointer (some ⟨5, 86, none⟩)], .iface 124 (.agg #[.pointer (some ⟨5, 86, none⟩)])]).run Tryz.prog w = .ok (.bool true) w := by kernel_rfl
theorem assign86no (w : World) : (ReflectliteType.relation "AssignableTo" ReflectliteType.assignableTo #[.agg #[.pointer (some ⟨5, 86, none⟩)], .iface 124 (.agg #[.pointer (some ⟨5, 84, none⟩)])]).run Tryz.prog w = .ok (.bool false) w := by kernel_rfl
theorem valueOf84 (e : Int) (w : World) : (ReflectliteValue.unpack (.iface 84 (.int .i64 e))).run Tryz.prog w
    = .ok (.agg #[.pointer (some ⟨5, 84, none⟩), .pointer (some ⟨w.heap.size, 0, none⟩), .int .u64 130]) (w.alloc (.cells #[.int .i64 e] 84)) := by kernel_rfl
theorem valueOf86 (a b : Value) (w : World) : (ReflectliteValue.unpack (.iface 86 (.agg #[a, b]))).run Tryz.prog w
    = .ok (.agg #[.pointer (some ⟨5, 86, none⟩), .pointer (some ⟨w.heap.size, 0, none⟩), .int .u64 153]) (w.alloc (.cells #[a, b] 86)) := by kernel_rfl
theorem parts84 (a : Addr) (w : World) : (ReflectliteValue.parts (.agg #[.pointer (some ⟨5, 84, none⟩), .pointer (some a), .int .u64 130])).run Tryz.prog w = .ok (some (84, a, 130)) w := by kernel_rfl
theorem parts84a (a : Addr) (w : World) : (ReflectliteValue.parts (.agg #[.pointer (some ⟨5, 84, none⟩), .pointer (some a), .int .u64 386])).run Tryz.prog w = .ok (some (84, a, 386)) w := by kernel_rfl
theorem parts86 (a : Addr) (w : World) : (ReflectliteValue.parts (.agg #[.pointer (some ⟨5, 86, none⟩), .pointer (some a), .int .u64 153])).run Tryz.prog w = .ok (some (86, a, 153)) w := by kernel_rfl
theorem parts86a (a : Addr) (w : World) : (ReflectliteValue.parts (.agg #[.pointer (some ⟨5, 86, none⟩), .pointer (some a), .int .u64 409])).run Tryz.prog w = .ok (some (86, a, 409)) w := by kernel_rfl
theorem direct84 (w : World) : (Rtype.directlyAssignable 84 84).run Tryz.prog w = .ok true w := by kernel_rfl
theorem direct86 (w : World) : (Rtype.directlyAssignable 86 86).run Tryz.prog w = .ok true w := by kernel_rfl
theorem valueOf88 (t : Addr) (w : World) : (ReflectliteValue.unpack (.iface 88 (.pointer (some t)))).run Tryz.prog w
    = .ok (.agg #[.pointer (some ⟨5, 88, none⟩), .pointer (some ⟨w.heap.size, 0, none⟩), .int .u64 150]) (w.alloc (.cells #[.pointer (some t)] 88)) := by kernel_rfl
theorem type88 (a : Addr) (w : World) : (ReflectliteValue.methodAny (ReflectliteValue.valueError "reflectlite.Value.Type" 0) (fun t _ _ _ => ReflectliteType.toType t) #[.agg #[.pointer (some ⟨5, 88, none⟩), .pointer (some a), .int .u64 150]]).run Tryz.prog w
    = .ok (.iface 124 (.agg #[.pointer (some ⟨5, 88, none⟩)])) w := by kernel_rfl
theorem kind88 (w : World) : ((ReflectliteType.abiMethod fun t => (fun a : Nat => Value.int IntKind.u8 (a : Int)) <$> Rtype.kind t) #[.pointer (some ⟨5, 88, none⟩)]).run Tryz.prog w = .ok (.int .u8 22) w := by kernel_rfl
theorem kind84 (w : World) : ((ReflectliteType.abiMethod fun t => (fun a : Nat => Value.int IntKind.u8 (a : Int)) <$> Rtype.kind t) #[.pointer (some ⟨5, 84, none⟩)]).run Tryz.prog w = .ok (.int .u8 2) w := by kernel_rfl
theorem elem88 (w : World) : (ReflectliteType.method ReflectliteType.elem #[.agg #[.pointer (some ⟨5, 88, none⟩)]]).run Tryz.prog w = .ok (.iface 124 (.agg #[.pointer (some ⟨5, 84, none⟩)])) w := by kernel_rfl
theorem impl84 (w : World) : (ReflectliteType.relation "Implements" ReflectliteType.implements_ #[.agg #[.pointer (some ⟨5, 84, none⟩)], .iface 124 (.agg #[.pointer (some ⟨5, 58, none⟩)])]).run Tryz.prog w = .ok (.bool true) w := by kernel_rfl
theorem parts88 (a : Addr) (w : World) : (ReflectliteValue.parts (.agg #[.pointer (some ⟨5, 88, none⟩), .pointer (some a), .int .u64 150])).run Tryz.prog w = .ok (some (88, a, 150)) w := by kernel_rfl
theorem isNil88 (a p : Addr) (W : World) (ha : W.cell? a = some (.pointer (some p))) :
    (ReflectliteValue.method (ReflectliteValue.valueError "reflectlite.Value.IsNil" 0) ReflectliteValue.isNil #[.agg #[.pointer (some ⟨5, 88, none⟩), .pointer (some a), .int .u64 150]]).run Tryz.prog W = .ok (.bool false) W := by
  rw [rlm]
  simp only [Sem.run_bind, parts88, Result.andThen]
  simp [ReflectliteValue.isNil, loadVar, isAgg, underlying, Tryz.underlying88, ha, Result.andThen]
theorem elemOf88 (w : World) : (Rtype.elem? 88).run Tryz.prog w = .ok (some 84) w := by kernel_rfl
theorem mk84 (p : Addr) (w : World) : (ReflectliteValue.mk 84 p ReflectliteValue.flagAddr).run Tryz.prog w = .ok (.agg #[.pointer (some ⟨5, 84, none⟩), .pointer (some p), .int .u64 386]) w := by kernel_rfl
theorem elemV88 (a p : Addr) (W : World) (ha : W.cell? a = some (.pointer (some p))) :
    (ReflectliteValue.method (ReflectliteValue.valueError "reflectlite.Value.Elem" 0) ReflectliteValue.elem #[.agg #[.pointer (some ⟨5, 88, none⟩), .pointer (some a), .int .u64 150]]).run Tryz.prog W
      = .ok (.agg #[.pointer (some ⟨5, 84, none⟩), .pointer (some p), .int .u64 386]) W := by
  rw [rlm]
  simp only [Sem.run_bind, parts88, Result.andThen]
  simp [ReflectliteValue.elem, loadVar, isAgg, underlying, Tryz.underlying88, ha, Result.andThen, elemOf88, mk84]
theorem valueOf89 (t : Addr) (w : World) : (ReflectliteValue.unpack (.iface 89 (.pointer (some t)))).run Tryz.prog w
    = .ok (.agg #[.pointer (some ⟨5, 89, none⟩), .pointer (some ⟨w.heap.size, 0, none⟩), .int .u64 150]) (w.alloc (.cells #[.pointer (some t)] 89)) := by kernel_rfl
theorem type89 (a : Addr) (w : World) : (ReflectliteValue.methodAny (ReflectliteValue.valueError "reflectlite.Value.Type" 0) (fun t _ _ _ => ReflectliteType.toType t) #[.agg #[.pointer (some ⟨5, 89, none⟩), .pointer (some a), .int .u64 150]]).run Tryz.prog w
    = .ok (.iface 124 (.agg #[.pointer (some ⟨5, 89, none⟩)])) w := by kernel_rfl
theorem kind89 (w : World) : ((ReflectliteType.abiMethod fun t => (fun a : Nat => Value.int IntKind.u8 (a : Int)) <$> Rtype.kind t) #[.pointer (some ⟨5, 89, none⟩)]).run Tryz.prog w = .ok (.int .u8 22) w := by kernel_rfl
theorem kind86 (w : World) : ((ReflectliteType.abiMethod fun t => (fun a : Nat => Value.int IntKind.u8 (a : Int)) <$> Rtype.kind t) #[.pointer (some ⟨5, 86, none⟩)]).run Tryz.prog w = .ok (.int .u8 25) w := by kernel_rfl
theorem elem89 (w : World) : (ReflectliteType.method ReflectliteType.elem #[.agg #[.pointer (some ⟨5, 89, none⟩)]]).run Tryz.prog w = .ok (.iface 124 (.agg #[.pointer (some ⟨5, 86, none⟩)])) w := by kernel_rfl
theorem impl86 (w : World) : (ReflectliteType.relation "Implements" ReflectliteType.implements_ #[.agg #[.pointer (some ⟨5, 86, none⟩)], .iface 124 (.agg #[.pointer (some ⟨5, 58, none⟩)])]).run Tryz.prog w = .ok (.bool true) w := by kernel_rfl
theorem parts89 (a : Addr) (w : World) : (ReflectliteValue.parts (.agg #[.pointer (some ⟨5, 89, none⟩), .pointer (some a), .int .u64 150])).run Tryz.prog w = .ok (some (89, a, 150)) w := by kernel_rfl
theorem isNil89 (a p : Addr) (W : World) (ha : W.cell? a = some (.pointer (some p))) :
    (ReflectliteValue.method (ReflectliteValue.valueError "reflectlite.Value.IsNil" 0) ReflectliteValue.isNil #[.agg #[.pointer (some ⟨5, 89, none⟩), .pointer (some a), .int .u64 150]]).run Tryz.prog W = .ok (.bool false) W := by
  rw [rlm]
  simp only [Sem.run_bind, parts89, Result.andThen]
  simp [ReflectliteValue.isNil, loadVar, isAgg, underlying, Tryz.underlying89, ha, Result.andThen]
theorem elemOf89 (w : World) : (Rtype.elem? 89).run Tryz.prog w = .ok (some 86) w := by kernel_rfl
theorem mk86 (p : Addr) (w : World) : (ReflectliteValue.mk 86 p ReflectliteValue.flagAddr).run Tryz.prog w = .ok (.agg #[.pointer (some ⟨5, 86, none⟩), .pointer (some p), .int .u64 409]) w := by kernel_rfl
theorem elemV89 (a p : Addr) (W : World) (ha : W.cell? a = some (.pointer (some p))) :
    (ReflectliteValue.method (ReflectliteValue.valueError "reflectlite.Value.Elem" 0) ReflectliteValue.elem #[.agg #[.pointer (some ⟨5, 89, none⟩), .pointer (some a), .int .u64 150]]).run Tryz.prog W
      = .ok (.agg #[.pointer (some ⟨5, 86, none⟩), .pointer (some p), .int .u64 409]) W := by
  rw [rlm]
  simp only [Sem.run_bind, parts89, Result.andThen]
  simp [ReflectliteValue.elem, loadVar, isAgg, underlying, Tryz.underlying89, ha, Result.andThen, elemOf89, mk86]
theorem set84 (ta b : Addr) (e : Int) (old : Value) (W : World) (hb : W.cell? b = some (.int .i64 e)) (ht : W.cell? ta = some old) (hf : W.frozen? ta = false) :
    (ReflectliteValue.set #[.agg #[.pointer (some ⟨5, 84, none⟩), .pointer (some ta), .int .u64 386], .agg #[.pointer (some ⟨5, 84, none⟩), .pointer (some b), .int .u64 130]]).run Tryz.prog W
      = .ok (.tuple #[]) (W.setCell ta (.int .i64 e)) := by
  rw [rls]
  simp only [Sem.run_bind, parts84a, parts84, Result.andThen]
  simp [ReflectliteValue.flagAddr, loadVar, isAgg, underlying, Tryz.underlying84, hb, Result.andThen, direct84, storeVar, Value.cells, storeCells, Addr.add]
  rw [run_store Tryz.prog W ta _ _ (by rfl)]
  simp [ht, hf]
set_option maxRecDepth 100000 in
theorem unwrap_any (a b : Value) (w : World) (ha : a.oneCell' = true) : Calls Tryz.prog 167 #[.agg #[a, b]] w fun e w' => e = .returned a ∧ w' = w.alloc (.cells #[a, b] 86) := by
  go_enter Tryz.func167, Tryz.ntmps167
  go_wp2
  go_ret
  exact ⟨rfl, rfl⟩
theorem five_below (w : World) (A B C D E : Obj) : Below w.heap.size w (((((w.alloc A).alloc B).alloc C).alloc D).alloc E) := ((((alloc_below w A).alloc (by simp) B).alloc (by simp <;> omega) C).alloc (by simp <;> omega) D).alloc (by simp <;> omega) E
set_option maxRecDepth 100000 in
set_option maxHeartbeats 4000000 in
theorem as_cause (e : Int) (i k : Nat) (old : Value) (w : World) (hg : w.cell? ⟨0, 0, none⟩ = some (.iface 124 (.agg #[.pointer (some ⟨5, 58, none⟩)]))) (hk : w.heap[k]? = some (.cells #[old] 84 (0, 0))) :
    Calls Tryz.prog 46 #[errV e i, .iface 88 (.pointer (some ⟨k, 0, none⟩))] w fun ev w' => ev = .returned (.bool true) ∧ w'.heap[k]? = some (.cells #[.int .i64 e] 84 (0, 0)) ∧ w.grownBy w' (some k) := by
  have h6 := @run_callFunc_extern Tryz.prog 67 _ (fun args => ReflectliteValue.unpack (args.getD 0 (.tuple #[]))) Tryz.func67 (by kernel_rfl) (by kernel_rfl) (by kernel_rfl) (by kernel_rfl)
  have h7 := @run_callFunc_extern Tryz.prog 68 _ (ReflectliteValue.methodAny (ReflectliteValue.valueError "reflectlite.Value.Type" 0) (fun t _ _ _ => ReflectliteType.toType t)) Tryz.func68 (by kernel_rfl) (by kernel_rfl) (by kernel_rfl) (by kernel_rfl)
  have h8 := @run_callFunc_extern Tryz.prog 69 _ (ReflectliteValue.method (ReflectliteValue.valueError "reflectlite.Value.IsNil" 0) ReflectliteValue.isNil) Tryz.func69 (by kernel_rfl) (by kernel_rfl) (by kernel_rfl) (by kernel_rfl)
  have h27 := @run_callFunc_extern Tryz.prog 163 _ (ReflectliteType.abiMethod fun t => do pure (.int .u8 (← Rtype.kind t))) Tryz.func163 (by kernel_rfl) (by kernel_rfl) (by kernel_rfl) (by kernel_rfl)
  have h37 := @run_callFunc_extern Tryz.prog 174 _ (ReflectliteType.method ReflectliteType.elem) Tryz.func174 (by kernel_rfl) (by kernel_rfl) (by kernel_rfl) (by kernel_rfl)
  have h38 := @run_callFunc_extern Tryz.prog 175 _ (ReflectliteType.relation "Implements" ReflectliteType.implements_) Tryz.func175 (by kernel_rfl) (by kernel_rfl) (by kernel_rfl) (by kernel_rfl)
  have h10 := @run_callFunc_extern Tryz.prog 83 _ ReflectliteType.typeOf Tryz.func83 (by kernel_rfl) (by kernel_rfl) (by kernel_rfl) (by kernel_rfl)
  have h35 := @run_callFunc_extern Tryz.prog 172 _ (ReflectliteType.relation "AssignableTo" ReflectliteType.assignableTo) Tryz.func172 (by kernel_rfl) (by kernel_rfl) (by kernel_rfl) (by kernel_rfl)
  have h11 := @run_callFunc_extern Tryz.prog 84 _ (ReflectliteValue.method (ReflectliteValue.valueError "reflectlite.Value.Elem" 0) ReflectliteValue.elem) Tryz.func84 (by kernel_rfl) (by kernel_rfl) (by kernel_rfl) (by kernel_rfl)
  have h12 := @run_callFunc_extern Tryz.prog 85 _ ReflectliteValue.set Tryz.func85 (by kernel_rfl) (by kernel_rfl) (by kernel_rfl) (by kernel_rfl)
  have t0 := typeOf86
  have t1 := typeOf84
  have mA := methAssignableTo
  have a0 := assign86no
  have a1 := assign84
  have v84 := valueOf84
  have v88 := valueOf88
  have f7 := type88
  have mK := methKind
  have mE := methElem
  have mI := methImplements
  have mU := methUnwrap
  have k88 := kind88
  have k84 := kind84
  have e88 := elem88
  have i84 := impl84
  have x1 := noAs86
  have x2 := hasUnwrap86
  have n8 := isNil88 ⟨w.heap.size, 0, none⟩ ⟨k, 0, none⟩ ((w.alloc (.cells #[.pointer (some ⟨k, 0, none⟩)] 88)).alloc (.cells #[.pointer (some ⟨5, 88, none⟩), .pointer (some ⟨w.heap.size, 0, none⟩), .int .u64 150] 109)) (by simp)
  have hkl := (Array.getElem?_eq_some_iff.1 hk).1
  have hk0 := cell_of_row w k 0 _ _ _ hk
  have hkf := frozen_of_row w k 0 _ _ hk
  simp at hk0
  have hb5 := five_below w (.cells #[.pointer (some ⟨k, 0, none⟩)] 88) (.cells #[.pointer (some ⟨5, 88, none⟩), .pointer (some ⟨w.heap.size, 0, none⟩), .int .u64 150] 109) (.cells #[.pointer (some ⟨5, 88, none⟩), .pointer (some ⟨w.heap.size, 0, none⟩), .int .u64 150] 109) (.cells #[.iface 84 (.int .i64 e), .int .i64 i] 86) (.cells #[.int .i64 e] 84)
  have hb3 : Below (w.alloc (.cells #[.pointer (some ⟨k, 0, none⟩)] 88)).heap.size (w.alloc (.cells #[.pointer (some ⟨k, 0, none⟩)] 88)) ((((w.alloc (.cells #[.pointer (some ⟨k, 0, none⟩)] 88)).alloc (.cells #[.pointer (some ⟨5, 88, none⟩), .pointer (some ⟨w.heap.size, 0, none⟩), .int .u64 150] 109)).alloc (.cells #[.pointer (some ⟨5, 88, none⟩), .pointer (some ⟨w.heap.size, 0, none⟩), .int .u64 150] 109)).alloc (.cells #[.iface 84 (.int .i64 e), .int .i64 i] 86)) := ((alloc_below (w.alloc (.cells #[.pointer (some ⟨k, 0, none⟩)] 88)) (.cells #[.pointer (some ⟨5, 88, none⟩), .pointer (some ⟨w.heap.size, 0, none⟩), .int .u64 150] 109)).alloc (by simp) (.cells #[.pointer (some ⟨5, 88, none⟩), .pointer (some ⟨w.heap.size, 0, none⟩), .int .u64 150] 109)).alloc (by simp <;> omega) (.cells #[.iface 84 (.int .i64 e), .int .i64 i] 86)
  have el := elemV88 ⟨w.heap.size, 0, none⟩ ⟨k, 0, none⟩ ((((w.alloc (.cells #[.pointer (some ⟨k, 0, none⟩)] 88)).alloc (.cells #[.pointer (some ⟨5, 88, none⟩), .pointer (some ⟨w.heap.size, 0, none⟩), .int .u64 150] 109)).alloc (.cells #[.pointer (some ⟨5, 88, none⟩), .pointer (some ⟨w.heap.size, 0, none⟩), .int .u64 150] 109)).alloc (.cells #[.iface 84 (.int .i64 e), .int .i64 i] 86)) ((hb3.cell (p := ⟨w.heap.size, 0, none⟩) (by simp)).trans (by simp))
  have st := set84 ⟨k, 0, none⟩ ⟨w.heap.size + 1 + 1 + 1 + 1, 0, none⟩ e old (((((w.alloc (.cells #[.pointer (some ⟨k, 0, none⟩)] 88)).alloc (.cells #[.pointer (some ⟨5, 88, none⟩), .pointer (some ⟨w.heap.size, 0, none⟩), .int .u64 150] 109)).alloc (.cells #[.pointer (some ⟨5, 88, none⟩), .pointer (some ⟨w.heap.size, 0, none⟩), .int .u64 150] 109)).alloc (.cells #[.iface 84 (.int .i64 e), .int .i64 i] 86)).alloc (.cells #[.int .i64 e] 84)) (by rw [World.cell?_alloc_at _ _ _ _ (by simp)]; rfl) ((hb5.cell (p := ⟨k, 0, none⟩) hkl).trans hk0) ((hb5.frozen (p := ⟨k, 0, none⟩) hkl).trans hkf)
  have hlt : 0 < w.heap.size := by
    rcases Nat.eq_zero_or_pos w.heap.size with h0 | h
    · simp [World.cell?, h0] at hg
    · exact h
  have HS := Lib.hid (show ((((((w.alloc (.cells #[.pointer (some ⟨k, 0, none⟩)] 88)).alloc (.cells #[.pointer (some ⟨5, 88, none⟩), .pointer (some ⟨w.heap.size, 0, none⟩), .int .u64 150] 109)).alloc (.cells #[.pointer (some ⟨5, 88, none⟩), .pointer (some ⟨w.heap.size, 0, none⟩), .int .u64 150] 109)).alloc (.cells #[.iface 84 (.int .i64 e), .int .i64 i] 86)).alloc (.cells #[.int .i64 e] 84)).setCell ⟨k, 0, none⟩ (.int .i64 e)).heap[k]? = some (.cells #[.int .i64 e] 84 (0, 0)) by
    have := heap_setCell_same (((((w.alloc (.cells #[.pointer (some ⟨k, 0, none⟩)] 88)).alloc (.cells #[.pointer (some ⟨5, 88, none⟩), .pointer (some ⟨w.heap.size, 0, none⟩), .int .u64 150] 109)).alloc (.cells #[.pointer (some ⟨5, 88, none⟩), .pointer (some ⟨w.heap.size, 0, none⟩), .int .u64 150] 109)).alloc (.cells #[.iface 84 (.int .i64 e), .int .i64 i] 86)).alloc (.cells #[.int .i64 e] 84)) k 0 _ _ (.int .i64 e) ((hb5.block k hkl).trans hk)
    rw [this]; simp)
  have HG := Lib.hid (gtrans (grown_of_below hb5 (some k)) (setCell_grown (((((w.alloc (.cells #[.pointer (some ⟨k, 0, none⟩)] 88)).alloc (.cells #[.pointer (some ⟨5, 88, none⟩), .pointer (some ⟨w.heap.size, 0, none⟩), .int .u64 150] 109)).alloc (.cells #[.pointer (some ⟨5, 88, none⟩), .pointer (some ⟨w.heap.size, 0, none⟩), .int .u64 150] 109)).alloc (.cells #[.iface 84 (.int .i64 e), .int .i64 i] 86)).alloc (.cells #[.int .i64 e] 84)) k 0 (.int .i64 e)))
  clear hk hkl hk0 hkf hb5 hb3
  go_enter Tryz.func46, Tryz.ntmps46
  go_wp2
  refine wp_loop_rounds 2 ?_
  rw [rounds_succ]
  go_wp2_with (go_at_call 167; refine (unwrap_any _ _ _ rfl).mono ?_; rintro e w' ⟨rfl, rfl⟩)
  rw [rounds_succ]
  go_wp2
  go_ret
  exact ⟨rfl, HS.out, HG.out⟩
end Go.Proofs.YtnloepanbjgbaaaGreatDoor
/- errors.As at the reader's own error, asked for its place; told. -/
namespace Go.Proofs.YtnloepanbjgbaaaGreatDoor
open Go.RowKit Go.Extern.Stop Go.Stop Go.Extern
theorem info86s : (Tryz.prog.info? 86).map (·.size) = some 2 := by kernel_rfl
theorem size86 (w : World) : (sizeOf 86).run Tryz.prog w = .ok 2 w := by kernel_rfl
theorem set86 (k g : Nat) (a b : Value) (W : World) (ha : a.oneCell' = true) (hb1 : b.oneCell' = true) (hb : W.heap[g]? = some (.cells #[a, b] 86 (0, 0))) (o0 o1 : Value) (h0 : W.cell? ⟨k, 0, none⟩ = some o0) (h1 : (W.setCell ⟨k, 0, none⟩ a).cell? ⟨k, 1, none⟩ = some o1) (f0 : W.frozen? ⟨k, 0, none⟩ = false) (f1 : (W.setCell ⟨k, 0, none⟩ a).frozen? ⟨k, 1, none⟩ = false) :
    (ReflectliteValue.set #[.agg #[.pointer (some ⟨5, 86, none⟩), .pointer (some ⟨k, 0, none⟩), .int .u64 409], .agg #[.pointer (some ⟨5, 86, none⟩), .pointer (some ⟨g, 0, none⟩), .int .u64 153]]).run Tryz.prog W
      = .ok (.tuple #[]) ((W.setCell ⟨k, 0, none⟩ a).setCell ⟨k, 1, none⟩ b) := by
  rw [rls]
  simp only [Sem.run_bind, parts86a, parts86, Result.andThen]
  simp [ReflectliteValue.flagAddr, run_loadVar_row W g 86 86 #[a, b] (0, 0) _ hb Tryz.underlying86 rfl info86s, Result.andThen, direct86, storeVar, Value.cells, storeCells, Addr.add, size86]
  rw [run_store Tryz.prog W ⟨k, 0, none⟩ _ _ ha]
  simp [h0, f0]
  rw [run_store Tryz.prog _ ⟨k, 1, none⟩ _ _ hb1]
  simp [h1, f1]
theorem two_old_q (w : World) (A B : Obj) : ((w.alloc A).alloc B).heap[w.heap.size]? = some A := (Below.heap_alloc _ _ _ (by simp)).trans (heap_alloc_new _ _)
theorem two_newb_q (w : World) (A B : Obj) : ((w.alloc A).alloc B).heap[w.heap.size + 1]? = some B := by
  have := heap_alloc_new (w.alloc A) B; simpa using this
theorem four_below (w : World) (A B C D : Obj) : Below w.heap.size w ((((w.alloc A).alloc B).alloc C).alloc D) := (((alloc_below w A).alloc (by simp) B).alloc (by simp <;> omega) C).alloc (by simp <;> omega) D
set_option maxRecDepth 100000 in
set_option maxHeartbeats 4000000 in
theorem as_fault (e : Int) (i k : Nat) (o0 o1 : Value) (w : World) (hg : w.cell? ⟨0, 0, none⟩ = some (.iface 124 (.agg #[.pointer (some ⟨5, 58, none⟩)]))) (hk : w.heap[k]? = some (.cells #[o0, o1] 86 (0, 0))) :
    Calls Tryz.prog 46 #[errV e i, .iface 89 (.pointer (some ⟨k, 0, none⟩))] w fun ev w' => ev = .returned (.bool true) ∧ w'.heap[k]? = some (.cells #[.iface 84 (.int .i64 e), .int .i64 i] 86 (0, 0)) ∧ w.grownBy w' (some k) := by
  have h6 := @run_callFunc_extern Tryz.prog 67 _ (fun args => ReflectliteValue.unpack (args.getD 0 (.tuple #[]))) Tryz.func67 (by kernel_rfl) (by kernel_rfl) (by kernel_rfl) (by kernel_rfl)
  have h7 := @run_callFunc_extern Tryz.prog 68 _ (ReflectliteValue.methodAny (ReflectliteValue.valueError "reflectlite.Value.Type" 0) (fun t _ _ _ => ReflectliteType.toType t)) Tryz.func68 (by kernel_rfl) (by kernel_rfl) (by kernel_rfl) (by kernel_rfl)
  have h8 := @run_callFunc_extern Tryz.prog 69 _ (ReflectliteValue.method (ReflectliteValue.valueError "reflectlite.Value.IsNil" 0) ReflectliteValue.isNil) Tryz.func69 (by kernel_rfl) (by kernel_rfl) (by kernel_rfl) (by kernel_rfl)
  have h27 := @run_callFunc_extern Tryz.prog 163 _ (ReflectliteType.abiMethod fun t => do pure (.int .u8 (← Rtype.kind t))) Tryz.func163 (by kernel_rfl) (by kernel_rfl) (by kernel_rfl) (by kernel_rfl)
  have h37 := @run_callFunc_extern Tryz.prog 174 _ (ReflectliteType.method ReflectliteType.elem) Tryz.func174 (by kernel_rfl) (by kernel_rfl) (by kernel_rfl) (by kernel_rfl)
  have h38 := @run_callFunc_extern Tryz.prog 175 _ (ReflectliteType.relation "Implements" ReflectliteType.implements_) Tryz.func175 (by kernel_rfl) (by kernel_rfl) (by kernel_rfl) (by kernel_rfl)
  have h10 := @run_callFunc_extern Tryz.prog 83 _ ReflectliteType.typeOf Tryz.func83 (by kernel_rfl) (by kernel_rfl) (by kernel_rfl) (by kernel_rfl)
  have h35 := @run_callFunc_extern Tryz.prog 172 _ (ReflectliteType.relation "AssignableTo" ReflectliteType.assignableTo) Tryz.func172 (by kernel_rfl) (by kernel_rfl) (by kernel_rfl) (by kernel_rfl)
  have h11 := @run_callFunc_extern Tryz.prog 84 _ (ReflectliteValue.method (ReflectliteValue.valueError "reflectlite.Value.Elem" 0) ReflectliteValue.elem) Tryz.func84 (by kernel_rfl) (by kernel_rfl) (by kernel_rfl) (by kernel_rfl)
  have h12 := @run_callFunc_extern Tryz.prog 85 _ ReflectliteValue.set Tryz.func85 (by kernel_rfl) (by kernel_rfl) (by kernel_rfl) (by kernel_rfl)
  have t0 := typeOf86
  have mA := methAssignableTo
  have a1 := assign86
  have v86 := valueOf86
  have v89 := valueOf89
  have f7 := type89
  have mK := methKind
  have mE := methElem
  have mI := methImplements
  have k89 := kind89
  have k86 := kind86
  have e89 := elem89
  have i86 := impl86
  have n8 := isNil89 ⟨w.heap.size, 0, none⟩ ⟨k, 0, none⟩ ((w.alloc (.cells #[.pointer (some ⟨k, 0, none⟩)] 89)).alloc (.cells #[.pointer (some ⟨5, 89, none⟩), .pointer (some ⟨w.heap.size, 0, none⟩), .int .u64 150] 109)) (by simp)
  have hkl := (Array.getElem?_eq_some_iff.1 hk).1
  have hb4 := four_below w (.cells #[.pointer (some ⟨k, 0, none⟩)] 89) (.cells #[.pointer (some ⟨5, 89, none⟩), .pointer (some ⟨w.heap.size, 0, none⟩), .int .u64 150] 109) (.cells #[.pointer (some ⟨5, 89, none⟩), .pointer (some ⟨w.heap.size, 0, none⟩), .int .u64 150] 109) (.cells #[.iface 84 (.int .i64 e), .int .i64 i] 86)
  have hb3 : Below (w.alloc (.cells #[.pointer (some ⟨k, 0, none⟩)] 89)).heap.size (w.alloc (.cells #[.pointer (some ⟨k, 0, none⟩)] 89)) (((w.alloc (.cells #[.pointer (some ⟨k, 0, none⟩)] 89)).alloc (.cells #[.pointer (some ⟨5, 89, none⟩), .pointer (some ⟨w.heap.size, 0, none⟩), .int .u64 150] 109)).alloc (.cells #[.pointer (some ⟨5, 89, none⟩), .pointer (some ⟨w.heap.size, 0, none⟩), .int .u64 150] 109)) := (alloc_below (w.alloc (.cells #[.pointer (some ⟨k, 0, none⟩)] 89)) (.cells #[.pointer (some ⟨5, 89, none⟩), .pointer (some ⟨w.heap.size, 0, none⟩), .int .u64 150] 109)).alloc (by simp) (.cells #[.pointer (some ⟨5, 89, none⟩), .pointer (some ⟨w.heap.size, 0, none⟩), .int .u64 150] 109)
  have el := elemV89 ⟨w.heap.size, 0, none⟩ ⟨k, 0, none⟩ (((w.alloc (.cells #[.pointer (some ⟨k, 0, none⟩)] 89)).alloc (.cells #[.pointer (some ⟨5, 89, none⟩), .pointer (some ⟨w.heap.size, 0, none⟩), .int .u64 150] 109)).alloc (.cells #[.pointer (some ⟨5, 89, none⟩), .pointer (some ⟨w.heap.size, 0, none⟩), .int .u64 150] 109)) ((hb3.cell (p := ⟨w.heap.size, 0, none⟩) (by simp)).trans (by simp))
  have hk4 := (hb4.block k hkl).trans hk
  have hs4 := heap_setCell_same ((((w.alloc (.cells #[.pointer (some ⟨k, 0, none⟩)] 89)).alloc (.cells #[.pointer (some ⟨5, 89, none⟩), .pointer (some ⟨w.heap.size, 0, none⟩), .int .u64 150] 109)).alloc (.cells #[.pointer (some ⟨5, 89, none⟩), .pointer (some ⟨w.heap.size, 0, none⟩), .int .u64 150] 109)).alloc (.cells #[.iface 84 (.int .i64 e), .int .i64 i] 86)) k 0 _ _ (.iface 84 (.int .i64 e)) hk4
  have hs4' : (((((w.alloc (.cells #[.pointer (some ⟨k, 0, none⟩)] 89)).alloc (.cells #[.pointer (some ⟨5, 89, none⟩), .pointer (some ⟨w.heap.size, 0, none⟩), .int .u64 150] 109)).alloc (.cells #[.pointer (some ⟨5, 89, none⟩), .pointer (some ⟨w.heap.size, 0, none⟩), .int .u64 150] 109)).alloc (.cells #[.iface 84 (.int .i64 e), .int .i64 i] 86)).setCell ⟨k, 0, none⟩ (.iface 84 (.int .i64 e))).heap[k]? = some (.cells #[.iface 84 (.int .i64 e), o1] 86 (0, 0)) := by rw [hs4]; simp
  have st := set86 k (w.heap.size + 1 + 1 + 1) (.iface 84 (.int .i64 e)) (.int .i64 i) ((((w.alloc (.cells #[.pointer (some ⟨k, 0, none⟩)] 89)).alloc (.cells #[.pointer (some ⟨5, 89, none⟩), .pointer (some ⟨w.heap.size, 0, none⟩), .int .u64 150] 109)).alloc (.cells #[.pointer (some ⟨5, 89, none⟩), .pointer (some ⟨w.heap.size, 0, none⟩), .int .u64 150] 109)).alloc (.cells #[.iface 84 (.int .i64 e), .int .i64 i] 86)) rfl rfl (by have := heap_alloc_new (((w.alloc (.cells #[.pointer (some ⟨k, 0, none⟩)] 89)).alloc (.cells #[.pointer (some ⟨5, 89, none⟩), .pointer (some ⟨w.heap.size, 0, none⟩), .int .u64 150] 109)).alloc (.cells #[.pointer (some ⟨5, 89, none⟩), .pointer (some ⟨w.heap.size, 0, none⟩), .int .u64 150] 109)) (.cells #[.iface 84 (.int .i64 e), .int .i64 i] 86); simpa using this) o0 o1 (cell_of_row _ k 0 _ _ _ hk4) (cell_of_row _ k 1 _ _ _ hs4') (frozen_of_row _ k 0 _ _ hk4) (frozen_of_row _ k 1 _ _ hs4')
  have hlt : 0 < w.heap.size := by
    rcases Nat.eq_zero_or_pos w.heap.size with h0 | h
    · simp [World.cell?, h0] at hg
    · exact h
  have HS := Lib.hid (show ((((((w.alloc (.cells #[.pointer (some ⟨k, 0, none⟩)] 89)).alloc (.cells #[.pointer (some ⟨5, 89, none⟩), .pointer (some ⟨w.heap.size, 0, none⟩), .int .u64 150] 109)).alloc (.cells #[.pointer (some ⟨5, 89, none⟩), .pointer (some ⟨w.heap.size, 0, none⟩), .int .u64 150] 109)).alloc (.cells #[.iface 84 (.int .i64 e), .int .i64 i] 86)).setCell ⟨k, 0, none⟩ (.iface 84 (.int .i64 e))).setCell ⟨k, 1, none⟩ (.int .i64 i)).heap[k]? = some (.cells #[.iface 84 (.int .i64 e), .int .i64 i] 86 (0, 0)) by
    have := heap_setCell_same _ k 1 _ _ (.int .i64 (i : Int)) hs4'
    rw [this]; simp)
  have HG := Lib.hid (gtrans (gtrans (grown_of_below hb4 (some k)) (setCell_grown ((((w.alloc (.cells #[.pointer (some ⟨k, 0, none⟩)] 89)).alloc (.cells #[.pointer (some ⟨5, 89, none⟩), .pointer (some ⟨w.heap.size, 0, none⟩), .int .u64 150] 109)).alloc (.cells #[.pointer (some ⟨5, 89, none⟩), .pointer (some ⟨w.heap.size, 0, none⟩), .int .u64 150] 109)).alloc (.cells #[.iface 84 (.int .i64 e), .int .i64 i] 86)) k 0 (.iface 84 (.int .i64 e)))) (setCell_grown (((((w.alloc (.cells #[.pointer (some ⟨k, 0, none⟩)] 89)).alloc (.cells #[.pointer (some ⟨5, 89, none⟩), .pointer (some ⟨w.heap.size, 0, none⟩), .int .u64 150] 109)).alloc (.cells #[.pointer (some ⟨5, 89, none⟩), .pointer (some ⟨w.heap.size, 0, none⟩), .int .u64 150] 109)).alloc (.cells #[.iface 84 (.int .i64 e), .int .i64 i] 86)).setCell ⟨k, 0, none⟩ (.iface 84 (.int .i64 e))) k 1 (.int .i64 i)))
  clear hk hkl hb4 hb3 hk4 hs4 hs4'
  go_enter Tryz.func46, Tryz.ntmps46
  go_wp2
  refine wp_loop_rounds 1 ?_
  rw [rounds_succ]
  go_wp2
  go_ret
  exact ⟨rfl, HS.out, HG.out⟩
set_option maxRecDepth 100000 in
set_option maxHeartbeats 4000000 in
theorem told_any (e : Int) (i : Nat) (w : World) (hg : w.cell? ⟨0, 0, none⟩ = some (.iface 124 (.agg #[.pointer (some ⟨5, 58, none⟩)]))) :
    Calls Tryz.prog 25 #[errV e i] w fun ev w' => ev = .returned (.tuple #[.int .i64 e, .int .i64 i]) ∧ Below w.heap.size w w' := by
  have hlt : 0 < w.heap.size := by
    rcases Nat.eq_zero_or_pos w.heap.size with h0 | h
    · simp [World.cell?, h0] at hg
    · exact h
  have hb2 : Below w.heap.size w ((w.alloc (.cells #[.int .i64 0] 84)).alloc (.cells #[.nilIface, .int .i64 0] 86)) := (alloc_below _ _).alloc (by simp) _
  have hg2 := (hb2.cell (p := ⟨0, 0, none⟩) hlt).trans hg
  have HA := Lib.hid (as_cause e i w.heap.size (.int .i64 0) _ hg2 (two_old_q w (.cells #[.int .i64 0] 84) (.cells #[.nilIface, .int .i64 0] 86)))
  have HK := Lib.hid (two_newb_q w (.cells #[.int .i64 0] 84) (.cells #[.nilIface, .int .i64 0] 86))
  have HB2 := Lib.hid hb2
  have HG2 := Lib.hid hg2
  clear hg hb2 hg2
  go_enter Tryz.func25, Tryz.ntmps25
  go_wp2_with fail
  refine HA.out.mono ?_
  rintro ev w1 ⟨rfl, hk1, hG1⟩
  have hg1 : w1.cell? ⟨0, 0, none⟩ = some (.iface 124 (.agg #[.pointer (some ⟨5, 58, none⟩)])) := (World.cell?_of_block (hG1.block 0 (by simp) (fun q => by injection q; omega))).trans HG2.out
  have hk2 := (hG1.block (w.heap.size + 1) (by simp) (fun q => by injection q; omega)).trans HK.out
  have HF := Lib.hid (as_fault e i (w.heap.size + 1) .nilIface (.int .i64 0) w1 hg1 hk2)
  have HK1 := Lib.hid hk1
  have HG1 := Lib.hid hG1
  clear hg1 hk1 hk2 hG1 HA HK HG2
  go_wp2_with fail
  refine HF.out.mono ?_
  rintro ev w2 ⟨rfl, hk2, hG2⟩
  have hl1 := (Array.getElem?_eq_some_iff.1 HK1.out).1
  have hk3 := (hG2.block w.heap.size hl1 (fun q => by injection q; omega)).trans HK1.out
  have hB : Below w.heap.size w w2 := HB2.out.trans ⟨hG2.os.trans HG1.out.os, hG2.tape.trans HG1.out.tape, hG2.output.trans HG1.out.output, Nat.le_trans HG1.out.size hG2.size, fun j hj => (hG2.block j (by omega) (fun q => by injection q; omega)).trans (HG1.out.block j (by simp; omega) (fun q => by injection q; omega))⟩
  have HB := Lib.hid hB
  have c0 := cell_of_row w2 w.heap.size 0 _ _ _ hk3
  have c1 := cell_of_row w2 (w.heap.size + 1) 1 _ _ _ hk2
  simp at c0 c1
  clear hk2 hk3 hB hG2 HF HK1 HG1 HB2
  go_wp2
  go_quiet (fail)
  go_wp2
  go_ret2
  exact ⟨rfl, below_drewN HB.out _⟩
end Go.Proofs.YtnloepanbjgbaaaGreatDoor
/- The landed code's Read. -/
namespace Go.Proofs.YtnloepanbjgbaaaGreatDoor
open Go.RowKit
def readP (S : ByteArray) (D : Df) (n : Nat) (fold : Bool) : Rs (Tr × Nat) := if 10000 < S.size then .er 2 0 else wholeP S D n fold
/-- What Read is to do. -/
def PR (w : World) (S : ByteArray) (r : Rs (Tr × Nat)) (e : Ending) (w' : World) : Prop :=
  Below w.heap.size w w' ∧ match r with
    | .ok T _ => ∃ t : Tr, e = .returned (.tuple #[t.val, .int .i64 0, .int .i64 0]) ∧ sameT t T.1 = true ∧ Lives w' w'.heap.size t
    | .er c k => e = .returned (.tuple #[nodeV 0 z0 0 0 (.slice none 0 0), .int .i64 c, .int .i64 k]) ∧ k ≤ S.size
/-- The variable of package errors that errors.As asks. -/
def ErrG (w : World) : Prop := w.cell? ⟨0, 0, none⟩ = some (.iface 124 (.agg #[.pointer (some ⟨5, 58, none⟩)]))
theorem ErrG.lt {w : World} (h : ErrG w) : 0 < w.heap.size := by
  rcases Nat.eq_zero_or_pos w.heap.size with h0 | h1
  · unfold ErrG at h; simp [World.cell?, h0] at h
  · exact h1
theorem ErrG.below {w w' : World} (h : ErrG w) (hb : Below w.heap.size w w') : ErrG w' := (hb.cell (p := ⟨0, 0, none⟩) h.lt).trans h
set_option maxRecDepth 100000 in
theorem ret8tt {fn : Func} {p u x : Tmp} (h : fn.results = #[.cell p 31, .tmp u, .tmp x]) {tmps : Array Value} {w : World} {g : Nat} {k : Int} {s : Nat → Int} {lo hi : Int} {y v v' : Value} (hp : tmps.getD p undef = .pointer (some ⟨g, 0, none⟩)) (hv : tmps.getD u undef = v) (hv' : tmps.getD x undef = v') (hg : w.heap[g]? = some (.cells (row8 k s lo hi y) 31 (0, 0))) :
    (results fn tmps).run Tryz.prog w = .ok (.tuple #[nodeV k s lo hi y, v, v']) w := by
  have hl := run_loadVar_row (P := Tryz.prog) w g 31 31 (row8 k s lo hi y) (0, 0) _ hg Tryz.underlying31 rfl info27s
  simp only [results, h]
  have hp' : tmps[p]?.getD undef = .pointer (some ⟨g, 0, none⟩) := by simpa using hp
  have hv1 : tmps[u]?.getD undef = v := by simpa using hv
  have hv2 : tmps[x]?.getD undef = v' := by simpa using hv'
  simp [Sem.run_bind, Result.andThen, hp', hv1, hv2, asAddr, hl]
theorem below_box {w w1 : World} {q : Nat} (h : Below w.heap.size w w1) (hq : w.heap.size ≤ q) (k : Int) (s : Nat → Int) (lo hi : Int) (v : Value) : Below w.heap.size w (put8 w1 q k s lo hi v) := h.trans (put8_below w1 hq k s lo hi v)
set_option maxRecDepth 100000 in
set_option maxHeartbeats 4000000 in
theorem read_any (D : Df) (C : Cx) (w : World) (hE : ErrG w) (hD : DfAt w w.heap.size C D) (hDo : DfOk D C.n) (hr : ∀ i, i < C.n → nameB (D.nm i) = true ∧ rightB (D.dt i) = true) (hs : C.S.size ≤ maxLen) :
    Calls Tryz.prog 10 #[.string C.S, .slice C.a C.n C.cap, .bool C.fold] w (PR w C.S (readP C.S D C.n C.fold)) := by
  unfold maxLen at hs
  have hb0 := alloc_below w (.cells (row8 0 z0 0 0 (.slice none 0 0)) 31)
  have HQ0 := Lib.hid (heap_alloc_new w (.cells (row8 0 z0 0 0 (.slice none 0 0)) 31))
  have HB0 := Lib.hid hb0
  obtain ⟨R, hR⟩ : ∃ R, R = readP C.S D C.n C.fold := ⟨_, rfl⟩
  rw [← hR]
  unfold readP at hR
  have HR := Lib.hid hR
  obtain ⟨q, hqq⟩ : ∃ q, q = w.heap.size := ⟨_, rfl⟩
  have hqs : w.heap.size ≤ q := by omega
  rw [← hqq] at HQ0
  by_cases hbig : 10000 < C.S.size
  · have HP := Lib.hid (show R = .er 2 0 by rw [HR.out, if_pos hbig])
    have i1 : (10000 : Int) < (C.S.size : Int) := by omega
    clear hR hE hD hDo hr hb0 HR HQ0
    go_enter Tryz.func10, Tryz.ntmps10
    go_wp2
    exact bodyPost_ret (v := .tuple #[nodeV 0 z0 0 0 (.slice none 0 0), .int .i64 2, .int .i64 0]) (ret8tt Tryz.results10 rfl rfl rfl (heap_alloc_new w _)) rfl (by rw [HP.out]; exact ⟨HB0.out, rfl, Nat.zero_le _⟩)
  · have HP := Lib.hid (show R = wholeP C.S D C.n C.fold by rw [HR.out, if_neg hbig])
    have i1 : ¬ (10000 : Int) < (C.S.size : Int) := by omega
    have hD0 := (hD.later (Nat.le_refl _) hb0).mono hb0.size
    have HA := Lib.hid (allRight_yes D C _ hD0 hr)
    have HE0 := Lib.hid (hE.below hb0)
    have HD0 := Lib.hid hD0
    have HDo := Lib.hid hDo
    clear hR hE hD hDo hr hb0 HR hD0
    go_enter Tryz.func10, Tryz.ntmps10
    go_wp2_with fail
    refine HA.out.mono ?_
    rintro e w1 ⟨rfl, hb1⟩
    rw [← hqq]
    have hB1 := HB0.out.trans (hb1.mono HB0.out.size)
    have hQ1 := (hb1.block q (Array.getElem?_eq_some_iff.1 HQ0.out).1).trans HQ0.out
    have hql := (Array.getElem?_eq_some_iff.1 hQ1).1
    have hE1 := HE0.out.below hb1
    have hD1 := (HD0.out.later (Nat.le_refl _) hb1).mono hb1.size
    have hb2 := alloc_below w1 (.cells (rdRow C 0 0 0) 56)
    have hR2 : Rd (w1.alloc (.cells (rdRow C 0 0 0) 56)) w1.heap.size C 0 0 0 := ⟨heap_alloc_new _ _, by omega, Nat.zero_le _, by omega, by omega⟩
    have HW := Lib.hid (whole_any D _ w1.heap.size C HDo.out hR2 (hD1.later (Nat.le_refl _) hb2))
    have HB2 := Lib.hid (hB1.trans (hb2.mono hB1.size))
    have HQ2 := Lib.hid ((hb2.block q hql).trans hQ1)
    have HE2 := Lib.hid (hE1.below hb2)
    have HZ2 := Lib.hid (show (w1.alloc (.cells (rdRow C 0 0 0) 56)).heap.size = w1.heap.size + 1 by simp)
    obtain ⟨p, hpp⟩ : ∃ p, p = w1.heap.size := ⟨_, rfl⟩
    rw [← hpp] at HW HZ2
    have hpq : q < p := by omega
    have HPP := Lib.hid hpp
    clear hb1 hB1 hQ1 hql hE1 hD1 hb2 hR2 HA HB0 HQ0 HE0 HD0 HDo hqq hpp
    go_wp2_with fail
    rw [← HPP.out]
    refine HW.out.mono ?_
    intro e w3 h3
    have hG3 := h3.1
    have hp0 : 0 < p := by omega
    have HB3 := Lib.hid (show Below w.heap.size w w3 from HB2.out.trans ⟨hG3.os, hG3.tape, hG3.output, hG3.size, fun k hk => hG3.block k (by rw [HZ2.out]; omega) (fun e => by injection e; omega)⟩)
    have HQ3 := Lib.hid (box_on HQ2.out (show p ≠ q by omega) hG3)
    have HE3 := Lib.hid (show ErrG w3 from (World.cell?_of_block (hG3.block 0 (by rw [HZ2.out]; omega) (fun e => by injection e; omega))).trans HE2.out)
    have hq3 := (Array.getElem?_eq_some_iff.1 HQ3.out).1
    clear HW HB2 HQ2 HE2
    cases hr3 : wholeP C.S D C.n C.fold with
    | er e0 k =>
      rw [hr3] at h3 HP
      obtain ⟨_, ⟨k0, s, lo, hi', a, n, cap, rfl⟩, hk, _⟩ := h3
      have hb4 := alloc_below w3 (.cells (row8 k0 s lo hi' (.slice a n cap)) 31)
      have HT := Lib.hid (told_any e0 k _ (HE3.out.below hb4))
      have HB4 := Lib.hid (HB3.out.trans (hb4.mono HB3.out.size))
      have HQ4 := Lib.hid ((hb4.block q hq3).trans HQ3.out)
      clear hb4 hG3 hr3 HE3 HB3 HQ3 hq3 HZ2 HPP
      go_wp2_with fail
      refine HT.out.mono ?_
      rintro e w5 ⟨rfl, hb5⟩
      have HB5 := Lib.hid (HB4.out.trans (hb5.mono HB4.out.size))
      have HQ5 := Lib.hid ((hb5.block q (Array.getElem?_eq_some_iff.1 HQ4.out).1).trans HQ4.out)
      obtain ⟨d0, d1, d2, d3, d4, d5, d6, d7⟩ := cell8 (s := z0) HQ5.out
      obtain ⟨f0, f1, f2, f3, f4, f5, f6, f7⟩ := frozen8 (s := z0) HQ5.out
      have HX := Lib.hid (stored8 0 z0 0 0 (.slice none 0 0) HQ5.out)
      have HBB := Lib.hid (below_box HB5.out hqs 0 z0 0 0 (.slice none 0 0))
      clear hb5 HT HB4 HQ4
      go_wp2
      exact bodyPost_ret (v := .tuple #[nodeV 0 z0 0 0 (.slice none 0 0), .int .i64 e0, .int .i64 k]) (ret8tt Tryz.results10 rfl rfl rfl HX.out) rfl (by rw [HP.out]; exact ⟨HBB.out, rfl, hk⟩)
    | ok T j =>
      rw [hr3] at h3 HP
      obtain ⟨_, x, rfl, hs3, hL3, hU3, _⟩ := h3
      have hb4 := alloc_below w3 (.cells (row8 x.k x.s x.lo x.hi (.slice x.a x.n x.cap)) 31)
      have HB4 := Lib.hid (HB3.out.trans (hb4.mono HB3.out.size))
      have hQ4 := (hb4.block q hq3).trans HQ3.out
      have HL4 := Lib.hid (lives_put8u (q := q) (hU3.mono (by rw [HZ2.out]; omega)) (hL3.now hb4) x.k x.s x.lo x.hi (.slice x.a x.n x.cap))
      have HS := Lib.hid hs3
      obtain ⟨d0, d1, d2, d3, d4, d5, d6, d7⟩ := cell8 (s := z0) hQ4
      obtain ⟨f0, f1, f2, f3, f4, f5, f6, f7⟩ := frozen8 (s := z0) hQ4
      have HX := Lib.hid (stored8 x.k x.s x.lo x.hi (.slice x.a x.n x.cap) hQ4)
      have HBB := Lib.hid (below_box HB4.out hqs x.k x.s x.lo x.hi (.slice x.a x.n x.cap))
      clear hb4 hG3 hr3 HE3 HB3 HQ3 hq3 HZ2 HPP hQ4 hs3 hL3 hU3 HB4
      unfold Tr.val
      go_wp2
      exact bodyPost_ret (v := .tuple #[nodeV x.k x.s x.lo x.hi (.slice x.a x.n x.cap), .int .i64 0, .int .i64 0]) (ret8tt Tryz.results10 rfl rfl rfl HX.out) rfl (by rw [HP.out]; exact ⟨HBB.out, x, rfl, HS.out, HL4.out⟩)
end Go.Proofs.YtnloepanbjgbaaaGreatDoor
