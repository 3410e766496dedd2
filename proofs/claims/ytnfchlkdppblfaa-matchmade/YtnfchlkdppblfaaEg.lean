/- Contract of the step's inOrder: a Cat. -/
import Derived.Test.YtnfchlkdppblfaaEf
namespace Go.Proofs.Ytnfchlkdppblfaa
open Go.RowKit Go.Maps Go
/-- The chain of a step's kids. -/
abbrev chn (S : ByteArray) (t : St) (q : Nat) : Nat → Nat → Prop := chain (fun p => rel (nx S) S.size (t.kid p)) q
/-- Behind q kids of a Cat. -/
structure CatI (S : ByteArray) (t : St) (A F : Nat → Prop) (fb : Nat) (w : World) (q rb : Nat) (wr : World) : Prop where
  ps : PS wr rb (df (im (chn S t q) (un A F)) (im (chn S t q) A))
  nm : ¬ mem t rb
  wh : rb = fb ∨ w.heap.size ≤ rb
  off : Offs (mem t) w wr
  mp : ∀ b, mem t b → IsM wr b
  sv : ∀ p, p < t.n → Sv (nx S) S.size wr (t.kid p) (im (chn S t p) (if p < q then un A F else A))
theorem chn_le (S : ByteArray) (t : St) (q : Nat) : ∀ i j, chn S t q i j → i ≤ S.size → j ≤ S.size := chain_le fun p _ => rel_le (nx S) S.size (t.kid p)
theorem CatI.ask {S : ByteArray} {t : St} {A F : Nat → Prop} {fb : Nat} {w : World} {q rb : Nat} {wr : World} (h : CatI S t A F fb w q rb wr) (hT : Stp (nx S) S.size w t A) (hq : q < t.n) (IH : Asks 22 S (t.kid q)) (hA : ∀ i, A i → i ≤ S.size) (hF : ∀ i, F i → i ≤ S.size)
    {ga off : Nat} (h7 : At7 w ga (off + q * 7) (t.kid q)) :
    Calls Try.prog 22 #[.pointer (some ⟨ga, off + q * 7, none⟩), .string S, .map (some rb)] wr fun e w' => ∃ rb', e = .returned (.map (some rb')) ∧ CatI S t A F fb w (q + 1) rb' w' := by
  have hkm : ∀ b, mem (t.kid q) b → mem t b := fun b hb => (mem_iff t b).2 (Or.inr ⟨q, hq, hb⟩)
  have hsv := h.sv q hq
  rw [if_neg (by omega)] at hsv
  have hst : Stp (nx S) S.size wr (t.kid q) (im (chn S t q) A) := ⟨(((hT.lv.kid hq).offs h.off hT.mp).mono h.off.size), hT.shp.kid hq, hT.sep.kid hq, fun b hb => h.mp b (hkm b hb), hsv⟩
  have hAF := un_le hA hF
  refine (IH wr ga (off + q * 7) rb _ _ (h7.offs h.off hT.mp) hst h.ps (fun hb => h.nm (hkm rb hb)) (fun i hi => hi.2) (im_le (chn_le S t q) hA) (fun i hi => im_le (chn_le S t q) hAF i hi.1)).mono ?_
  rintro e w' ⟨rb', rfl, hps, hnm, hwh, hoff, hst'⟩
  rw [un_im_df, ← im_chain_succ (fun p => rel (nx S) S.size (t.kid p)), ← im_chain_succ (fun p => rel (nx S) S.size (t.kid p))] at hps
  rw [un_im_df] at hst'
  have hoff' : Offs (mem t) w w' := h.off.trans hoff fun b hb => Or.inl (hkm b hb)
  have hbs := fun b hb => (h.mp b hb).lt
  refine ⟨rb', rfl, hps, ?_, ?_, hoff', fun b hb => ?_, fun p hp => ?_⟩
  · rcases hwh with rfl | hwh
    · exact h.nm
    · exact fun hb => by have := hbs _ hb; omega
  · rcases hwh with rfl | hwh
    · exact h.wh
    · have := h.off.size; exact Or.inr (by omega)
  · by_cases hb' : mem (t.kid q) b
    · exact hst'.mp b hb'
    · exact (h.mp b hb).on (hoff.block b (hbs b hb) hb')
  · by_cases e : p = q
    · subst e
      rw [if_pos (by omega)]
      exact hst'.sv
    · have := h.sv p hp
      have e2 : (if p < q + 1 then un A F else A) = if p < q then un A F else A := by
        by_cases h1 : p < q
        · rw [if_pos h1, if_pos (by omega)]
        · rw [if_neg h1, if_neg (by omega)]
      rw [e2]
      exact this.on (hT.shp.kid hp) fun b hb => hoff.block b (hbs b ((mem_iff t b).2 (Or.inr ⟨p, hp, hb⟩))) (hT.sep.two hp hq e hb)
theorem CatI.start {S : ByteArray} {t : St} {A F : Nat → Prop} {fb : Nat} {w : World} (hk : t.k = 3) (hT : Stp (nx S) S.size w t A) (hF : PS w fb F) (hfm : ¬ mem t fb) (hd : ∀ i, F i → ¬ A i) : CatI S t A F fb w 0 fb w where
  ps := by
    have e : df (im (chn S t 0) (un A F)) (im (chn S t 0) A) = F := by
      unfold chn
      rw [im_chain_zero, im_chain_zero]
      exact ext1 fun i => ⟨fun h => h.1.elim (fun q => absurd q h.2) id, fun h => ⟨Or.inr h, hd i h⟩⟩
    rw [e]; exact hF
  nm := hfm
  wh := Or.inl rfl
  off := Offs.refl _ _
  mp := hT.mp
  sv := fun p hp => by
    rw [if_neg (by omega)]
    have := hT.sv
    cases t with
    | node k s a n cap m kid => exact this.1 hk p hp
    | nul => exact hT.shp.elim
theorem CatI.done {S : ByteArray} {t : St} {A F : Nat → Prop} {fb : Nat} {w : World} {rb : Nat} {wr : World} (hk : t.k = 3) (hT : Stp (nx S) S.size w t A) (h : CatI S t A F fb w t.n rb wr) : Ret (nx S) S.size t A F fb w (.returned (.map (some rb))) wr := by
  refine ⟨rb, rfl, ?_, h.nm, h.wh, h.off, (hT.lv.offs h.off hT.mp).mono h.off.size, hT.shp, hT.sep, h.mp, ?_⟩
  · rw [rel_cat hk]; exact h.ps
  · have hs := h.sv
    cases t with
    | node k s a n cap m kid =>
      refine ⟨fun _ q hq => ?_, fun e => by have : k = 3 := hk; omega, fun e => by have : k = 3 := hk; omega⟩
      have := hs q hq
      rw [if_pos (show q < (St.node k s a n cap m kid).n from hq)] at this
      exact this
    | nul => exact hT.shp.elim
set_option maxRecDepth 100000 in
set_option maxHeartbeats 4000000 in
theorem inOrder_any (S : ByteArray) (t : St) (hk : t.k = 3) (IH : ∀ i, i < t.n → Asks 22 S (t.kid i)) : Asks 40 S t := by
  intro w g o fb A F h7 hT hF hfm hd hA hFb
  obtain ⟨c0, c1, c2, c3, c4, c5, c6⟩ := h7
  have HS := CatI.start hk hT hF hfm hd
  have HD := fun rb wr => CatI.done (S := S) (A := A) (F := F) (fb := fb) (w := w) (rb := rb) (wr := wr) hk hT
  have hcap := hT.lv.caps
  have hrow := fun hn => hT.lv.row hn
  have HASK : Hid (∀ q rb wr, CatI S t A F fb w q rb wr → ∀ hq : q < t.n, ∀ ga off, At7 w ga (off + q * 7) (t.kid q) → Calls Try.prog 22 #[.pointer (some ⟨ga, off + q * 7, none⟩), .string S, .map (some rb)] wr fun e w' => ∃ rb', e = .returned (.map (some rb')) ∧ CatI S t A F fb w (q + 1) rb' w') :=
    Lib.hid fun q rb wr h hq ga off h7 => h.ask hT hq (IH q hq) hA hFb h7
  have HC : Hid (∀ q rb wr, CatI S t A F fb w q rb wr → wr.cell? ⟨g, o + 5, none⟩ = some (.slice t.a t.n t.cap)) := Lib.hid fun q rb wr h => h.off.cell hT.mp c5
  have HROW := Lib.hid hrow
  have HDN := Lib.hid HD
  have HST := Lib.hid HS
  clear HS HD hrow c0 c1 c2 c3 c4 c6 hF hfm hd hA hFb IH
  obtain ⟨n, hn⟩ : ∃ n, n = t.n := ⟨_, rfl⟩
  obtain ⟨cap, hcp⟩ : ∃ cap, cap = t.cap := ⟨_, rfl⟩
  rw [← hn, ← hcp] at c5 hcap
  have HN := Lib.hid hn
  have HCP := Lib.hid hcp
  have hnm : n ≤ maxLen := Nat.le_trans hcap.1 hcap.2.1
  clear hcap hn hcp hk
  unfold maxLen at hnm
  go_enter Try.func40, Try.ntmps40
  go_wp2
  go_loopw [2, 13] (fun v i wr => ∃ q rb : Nat, q ≤ n ∧ i = .int .i64 q ∧ v = .map (some rb) ∧ Hid (CatI S t A F fb w q rb wr)) (fun _ i _ => n - (RowKit.intOf i).toNat)
  case atStart => exact ⟨0, fb, Nat.zero_le _, rfl, rfl, Lib.hid HST.out⟩
  case round =>
    obtain ⟨q, rb, hq, rfl, rfl, HI⟩ := hrel
    by_cases hlt : q < n
    · have hlt' : (q : Int) < (n : Int) := by omega
      obtain ⟨ga, off, ha, hga, hk7⟩ := HROW.out (by rw [← HN.out]; omega)
      have h57 := HC.out q rb wr HI.out
      rw [ha, ← HN.out, ← HCP.out] at h57
      have HA := Lib.hid (HASK.out q rb wr HI.out (by rw [← HN.out]; exact hlt) ga off (hk7 q (by rw [← HN.out]; exact hlt)))
      clear hk7 c5 ha
      go_wp2_with fail
      refine HA.out.mono ?_
      rintro e w1 ⟨rb1, rfl, HI1⟩
      go_wp2
      go_roundw
      case rel => exact ⟨q + 1, rb1, by omega, by go_num, rfl, Lib.hid HI1⟩
      case measure => simp [RowKit.intOf]; omega
    · have hlt' : ¬ (q : Int) < (n : Int) := by omega
      obtain rfl : q = n := by omega
      go_wp2
      go_ret
      exact HDN.out rb wr (by rw [← HN.out]; exact HI.out)
end Go.Proofs.Ytnfchlkdppblfaa
