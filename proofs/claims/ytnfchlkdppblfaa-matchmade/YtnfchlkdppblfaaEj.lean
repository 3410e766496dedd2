/- Contract of the step's ends: what is come to from new places. -/
import Derived.Test.YtnfchlkdppblfaaEi
namespace Go.Proofs.Ytnfchlkdppblfaa
open Go.RowKit Go.Maps Go
set_option maxRecDepth 100000 in
set_option maxHeartbeats 4000000 in
theorem again_any (S : ByteArray) (hL : S.size ≤ 10000) (t : St) (hk : t.k = 5) (IH : ∀ i, i < t.n → Asks 22 S (t.kid i)) : Asks 42 S t := by
  intro w g o fb A F h7 hT hF hfm hd hA hFb
  have hn : t.n = 1 := by have := hT.shp.kinds; omega
  obtain ⟨b, hbm⟩ := hT.shp.map (by omega : t.k ≠ 2)
  obtain ⟨c0, c1, c2, c3, c4, c5, c6⟩ := h7
  obtain ⟨ga, off, ha, hga, hk7⟩ := hT.lv.row (by omega)
  have hk70 := hk7 0 (by omega)
  rw [Nat.zero_mul, Nat.add_zero] at hk70
  rw [ha, hn] at c5
  have HST := Lib.hid (RepI.start (S := S) hk hT hbm hn hF hfm)
  have HDN := Lib.hid (fun X T tb wr => RepI.done (S := S) (A := A) (F := F) (X := X) (T := T) (fb := fb) (tb := tb) (w := w) (wr := wr) hk hT hbm)
  have hcap := hT.lv.caps
  have H1 : Hid (∀ X T tb wr, RepI S t b A F w X T tb wr → Calls Try.prog 59 #[.pointer (some ⟨g, o, none⟩), .map (some tb)] wr.drew fun e w' => ∃ lb, e = .returned (.map (some lb)) ∧ RepJ S t b A F w X T lb w') :=
    Lib.hid fun X T tb wr h => (h.drew hT hn).fresh hn hT hbm c6 hL hA hFb
  have H2 : Hid (∀ X T lb wr, RepJ S t b A F w X T lb wr → Calls Try.prog 22 #[.pointer (some ⟨ga, off, none⟩), .string S, .map (some lb)] wr fun e w' => ∃ rb, e = .returned (.map (some rb)) ∧ RepK S t b A F w X T rb w') :=
    Lib.hid fun X T lb wr h => h.ask hn hT hbm (IH 0 (by omega)) hA hFb hk70
  have H3 : Hid (∀ X T rb wr, RepK S t b A F w X T rb wr → Calls Try.prog 58 #[.map (some w.heap.size), .map (some rb)] wr fun e w' => e = .returned (.tuple #[]) ∧ RepI S t b A F w (un X T) (df (im (K0 S t) (un X T)) (im (K0 S t) X)) rb w') :=
    Lib.hid fun X T rb wr h => h.copy hn hT hbm hL hA hFb
  have HM : Hid (∀ X T tb wr rb w3, RepI S t b A F w X T tb wr → RepI S t b A F w (un X T) (df (im (K0 S t) (un X T)) (im (K0 S t) X)) rb w3 → msz wr tb ≠ 0 → rms S b (.map (some rb)) w3 < rms S b (.map (some tb)) wr) :=
    Lib.hid fun X T tb wr rb w3 h h' hne => rms_lt h h' hA hFb hne
  have HZ : Hid (∀ X T tb wr (D : DataW Unit), RepI S t b A F w X T tb wr → wr.ownsMap Try.prog 3 unitElem tb (Maps.size D) D → Hs D T → (Maps.size D = 0 → ∀ i, ¬ T i) ∧ msz wr tb = Maps.size D) := Lib.hid fun X T tb wr D h hD hs => by
    obtain ⟨_, hTb⟩ := h.lp.bd hA hFb
    have e1 := size_lst hD hs hTb
    have e2 := (PS.of hD hs).card hTb
    exact ⟨fun h0 => lst_zero hTb (by omega), by omega⟩
  have HCI : Hid (∀ X T tb wr, RepI S t b A F w X T tb wr → wr.cell? ⟨g, o + 5, none⟩ = some (.slice (some ⟨ga, off, none⟩) 1 t.cap)) := Lib.hid fun X T tb wr h => h.off.cell hT.mp c5
  have HCJ : Hid (∀ X T tb wr, RepJ S t b A F w X T tb wr → wr.cell? ⟨g, o + 5, none⟩ = some (.slice (some ⟨ga, off, none⟩) 1 t.cap)) := Lib.hid fun X T tb wr h => h.off.cell hT.mp c5
  have HCK : Hid (∀ X T tb wr, RepK S t b A F w X T tb wr → wr.cell? ⟨g, o + 5, none⟩ = some (.slice (some ⟨ga, off, none⟩) 1 t.cap)) := Lib.hid fun X T tb wr h => h.off.cell hT.mp c5
  clear c0 c1 c2 c3 c4 c5 c6 hF hfm hd hA hFb IH hk7 hk70 ha hbm
  obtain ⟨cap, hcp⟩ : ∃ cap, cap = t.cap := ⟨_, rfl⟩
  rw [← hcp] at hcap HCI HCJ HCK
  have hcm : 1 ≤ cap ∧ cap ≤ maxLen := ⟨by have := hcap.1; omega, hcap.2.1⟩
  clear hcap hcp hk hn
  unfold maxLen at hcm
  have hmm := @run_makeMap Try.prog
  go_enter Try.func42, Try.ntmps42
  go_wp2
  go_loopw [2] (fun v wr => ∃ (tb : Nat) (X T : Nat → Prop), v = .map (some tb) ∧ Hid (RepI S t b A F w X T tb wr)) (fun v wr => rms S b v wr)
  case atStart => exact ⟨fb, _, _, rfl, Lib.hid HST.out⟩
  case round =>
    obtain ⟨tb, X, T, rfl, HI⟩ := hrel
    obtain ⟨D, hD, hs⟩ := HI.out.tp
    obtain ⟨hz, hms⟩ := HZ.out X T tb wr D HI.out hD hs
    have HZ0 := Lib.hid hz
    have HMS := Lib.hid hms
    clear hz hms hs
    by_cases h0 : Maps.size D = 0
    · go_wp2_with (first
        | (at_len; refine wpList_len_own _ rfl _ 47 rfl 3 55 Try.underlying47 _ tb _ D rfl hD ?_; rw [h0])
        | go_in)
      go_ret
      exact HDN.out X T tb wr HI.out (HZ0.out h0)
    · have hpos : 0 < (Maps.size D : Int) := by omega
      have h57 := HCI.out X T tb wr HI.out
      have HA := Lib.hid (H1.out X T tb wr HI.out)
      go_wp2_with (first
        | (at_len; refine wpList_len_own _ rfl _ 47 rfl 3 55 Try.underlying47 _ tb _ D rfl hD ?_)
        | go_in)
      go_region_held3 (fun w' => w'.cell? ⟨g, o + 5, none⟩ = some (.slice (some ⟨ga, off, none⟩) 1 cap))
        (first | exact h57 | exact HCJ.out X T _ _ (by assumption) | exact HCK.out X T _ _ (by assumption))
        (first | (go_at_call 59; refine HA.out.mono ?_; rintro e w1 ⟨lb, rfl, HJ⟩) | (go_at_call 22; refine (H2.out X T _ _ HJ).mono ?_; rintro e w2 ⟨rb, rfl, HK⟩))
      have HB3 := Lib.hid (H3.out X T rb w2 HK)
      go_wp2_with fail
      refine HB3.out.mono ?_
      rintro e w3 ⟨rfl, HI1⟩
      go_wp2
      go_roundw
      case rel => exact ⟨rb, _, _, rfl, Lib.hid HI1⟩
      case measure => exact HM.out X T tb wr rb w3 HI.out HI1 (by rw [HMS.out]; exact h0)
theorem ret_bytes {S : ByteArray} {t : St} {A F : Nat → Prop} {fb : Nat} {w wr : World} (hk : t.k = 2) (hT : Stp (nx S) S.size w t A) (hd : ∀ i, F i → ¬ A i) (hp : PS wr w.heap.size (im (bytR (nx S) S.size t.s) F)) (hg : w.grownBy wr none) : Ret (nx S) S.size t A F fb w (.returned (.map (some w.heap.size))) wr := by
  have hbw := fun b hb => (hT.mp b hb).lt
  have hoff : Offs (mem t) w wr := (Offs.of hg).mono (fun x hx => by cases hx)
  refine ⟨_, rfl, ?_, fun hb => by have := hbw _ hb; omega, Or.inr (Nat.le_refl _), hoff, (hT.lv.offs hoff hT.mp).mono hoff.size, hT.shp, hT.sep, fun b hb => (hT.mp b hb).on (hg.block b (hbw b hb) (by simp)), ?_⟩
  · have e : df (im (rel (nx S) S.size t) (un A F)) (im (rel (nx S) S.size t) A) = im (bytR (nx S) S.size t.s) F := by
      rw [rel_byt hk]
      refine ext1 fun j => ?_
      constructor
      · rintro ⟨⟨i, h1 | h1, h2⟩, h3⟩
        · exact absurd ⟨i, h1, h2⟩ h3
        · exact ⟨i, h1, h2⟩
      · rintro ⟨i, h1, h2⟩
        refine ⟨⟨i, Or.inr h1, h2⟩, ?_⟩
        rintro ⟨i', h3, h4⟩
        have : i' = i := by have := h2.2.2; have := h4.2.2; omega
        exact hd i h1 (this ▸ h3)
    rw [e]; exact hp
  · cases t with
    | node k s a n cap m kid =>
      have : k = 2 := hk
      exact ⟨fun e => by omega, fun e => by omega, fun e => by omega⟩
    | nul => exact hT.shp.elim
theorem ret_emp {S : ByteArray} {t : St} {A F : Nat → Prop} {fb : Nat} {w : World} (hk : t.k = 1) (hT : Stp (nx S) S.size w t A) (hF : PS w fb F) (hfm : ¬ mem t fb) (hd : ∀ i, F i → ¬ A i) : Ret (nx S) S.size t A F fb w (.returned (.map (some fb))) w := by
  refine ⟨_, rfl, ?_, hfm, Or.inl rfl, Offs.refl _ _, hT.lv, hT.shp, hT.sep, hT.mp, ?_⟩
  · have e : df (im (rel (nx S) S.size t) (un A F)) (im (rel (nx S) S.size t) A) = F := by
      rw [rel_emp hk, im_id, im_id]
      exact ext1 fun i => ⟨fun h => h.1.elim (fun q => absurd q h.2) id, fun h => ⟨Or.inr h, hd i h⟩⟩
    rw [e]; exact hF
  · cases t with
    | node k s a n cap m kid =>
      have : k = 1 := hk
      exact ⟨fun e => by omega, fun e => by omega, fun e => by omega⟩
    | nul => exact hT.shp.elim
set_option maxRecDepth 100000 in
set_option maxHeartbeats 4000000 in
theorem ends_one (S : ByteArray) (hL : S.size ≤ 10000) (t : St) (IH : ∀ i, i < t.n → Asks 22 S (t.kid i)) : Asks 22 S t := by
  intro w g o fb A F h7 hT hF hfm hd hA hFb
  have hg : g < w.heap.size := (cell_block h7.1).2
  have H7 := Lib.hid h7
  obtain ⟨c0, c1, c2, c3, c4, c5, c6⟩ := h7
  rcases hT.shp.kinds with hk | hk | hk | hk | hk
  · have HR := Lib.hid (ret_emp hk hT hF hfm hd)
    rw [hk] at c0
    clear c1 c2 c3 c4 c5 c6 hT hF hfm hd IH hk
    go_enter Try.func22, Try.ntmps22
    go_wp2
    go_ret
    exact HR.out
  · have HR := Lib.hid (fun wr => ret_bytes (S := S) (A := A) (F := F) (fb := fb) (w := w) (wr := wr) hk hT hd)
    have HB := Lib.hid (behind_any g o fb t.s S F w hg c1 c2 c3 c4 hF hL hFb)
    rw [hk] at c0
    clear c1 c2 c3 c4 c5 c6 hT hF hfm hd IH hk
    go_enter Try.func22, Try.ntmps22
    go_wp2_with fail
    refine HB.out.mono ?_
    rintro e w1 ⟨rfl, hp, hgr⟩
    have HF := Lib.hid (HR.out w1 hp hgr)
    clear hp hgr
    go_wp2
    go_ret
    exact HF.out
  · have HB := Lib.hid (inOrder_any S t hk IH w g o fb A F H7.out hT hF hfm hd hA hFb)
    rw [hk] at c0
    clear c1 c2 c3 c4 c5 c6 hT hF hfm hd IH hk
    go_enter Try.func22, Try.ntmps22
    go_wp2_with fail
    refine HB.out.mono ?_
    rintro e w1 ⟨rb, rfl, hr⟩
    have HF := Lib.hid hr
    clear hr
    go_wp2
    go_ret
    exact ⟨rb, rfl, HF.out⟩
  · have HB := Lib.hid (either_any S hL t hk.1 IH w g o fb A F H7.out hT hF hfm hd hA hFb)
    rw [hk.1] at c0
    clear c1 c2 c3 c4 c5 c6 hT hF hfm hd IH hk
    go_enter Try.func22, Try.ntmps22
    go_wp2_with fail
    refine HB.out.mono ?_
    rintro e w1 ⟨rb, rfl, hr⟩
    have HF := Lib.hid hr
    clear hr
    go_wp2
    go_ret
    exact ⟨rb, rfl, HF.out⟩
  · have HB := Lib.hid (again_any S hL t hk.1 IH w g o fb A F H7.out hT hF hfm hd hA hFb)
    rw [hk.1] at c0
    clear c1 c2 c3 c4 c5 c6 hT hF hfm hd IH hk
    go_enter Try.func22, Try.ntmps22
    go_wp2_with fail
    refine HB.out.mono ?_
    rintro e w1 ⟨rb, rfl, hr⟩
    have HF := Lib.hid hr
    clear hr
    go_wp2
    go_ret
    exact ⟨rb, rfl, HF.out⟩
theorem ends_all (S : ByteArray) (hL : S.size ≤ 10000) : ∀ t : St, Asks 22 S t
  | .node k s a n cap m kid => ends_one S hL (.node k s a n cap m kid) fun i _ => ends_all S hL (kid i)
  | .nul => fun _ _ _ _ _ _ _ hT => hT.shp.elim
end Go.Proofs.Ytnfchlkdppblfaa
