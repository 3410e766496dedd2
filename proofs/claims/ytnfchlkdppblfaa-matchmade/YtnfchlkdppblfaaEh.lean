/- Contract of the step's either: an Alt. -/
import Derived.Test.YtnfchlkdppblfaaEg
namespace Go.Proofs.Ytnfchlkdppblfaa
open Go.RowKit Go.Maps Go
/-- One of the first q kids. -/
def anyR (S : ByteArray) (t : St) (q : Nat) (i j : Nat) : Prop := ∃ p, p < q ∧ rel (nx S) S.size (t.kid p) i j
theorem im_any_zero (S : ByteArray) (t : St) (A : Nat → Prop) : im (anyR S t 0) A = no0 := ext1 fun j => ⟨fun ⟨_, _, p, hp, _⟩ => by omega, False.elim⟩
theorem im_any_succ (S : ByteArray) (t : St) (q : Nat) (A : Nat → Prop) : im (anyR S t (q + 1)) A = un (im (anyR S t q) A) (im (rel (nx S) S.size (t.kid q)) A) := ext1 fun j => by
  constructor
  · rintro ⟨i, hi, p, hp, h⟩
    rcases Nat.lt_or_ge p q with h1 | h1
    · exact Or.inl ⟨i, hi, p, h1, h⟩
    · obtain rfl : p = q := by omega
      exact Or.inr ⟨i, hi, h⟩
  · rintro (⟨i, hi, p, hp, h⟩ | ⟨i, hi, h⟩)
    · exact ⟨i, hi, p, by omega, h⟩
    · exact ⟨i, hi, q, by omega, h⟩
theorem any_le (S : ByteArray) (t : St) (q : Nat) : ∀ i j, anyR S t q i j → i ≤ S.size → j ≤ S.size := fun i j ⟨p, _, h⟩ => rel_le _ _ (t.kid p) i j h
theorem alt_re {X Y Z V : Nat → Prop} (h : ∀ i, V i → X i) : un (un X Y) (df Z V) = un X (un Y Z) := ext1 fun i => by
  have := h i
  by_cases V i <;> simp_all [un, df, or_assoc]
theorem alt_en {X Y Z V : Nat → Prop} (h : ∀ i, V i → X i) : un (df Y X) (df (df Z V) (un X Y)) = df (un Y Z) X := ext1 fun i => by
  have := h i
  by_cases hX : X i <;> by_cases hY : Y i <;> by_cases hZ : Z i <;> by_cases hV : V i <;> simp_all [un, df]
/-- Behind q kids of an Alt. -/
structure AltI (S : ByteArray) (t : St) (b : Nat) (A F : Nat → Prop) (w : World) (q : Nat) (wr : World) : Prop where
  en : PS wr w.heap.size (df (im (anyR S t q) (un A F)) (im (rel (nx S) S.size t) A))
  re : PS wr b (un (im (rel (nx S) S.size t) A) (im (anyR S t q) (un A F)))
  off : Offs (mem t) w wr
  mp : ∀ b, mem t b → IsM wr b
  sv : ∀ p, p < t.n → Sv (nx S) S.size wr (t.kid p) (if p < q then un A F else A)
/-- .. and behind the next one's answer. -/
structure AltJ (S : ByteArray) (t : St) (b : Nat) (A F : Nat → Prop) (w : World) (q rb : Nat) (wr : World) : Prop where
  en : PS wr w.heap.size (df (im (anyR S t q) (un A F)) (im (rel (nx S) S.size t) A))
  re : PS wr b (un (im (rel (nx S) S.size t) A) (im (anyR S t q) (un A F)))
  an : PS wr rb (df (im (rel (nx S) S.size (t.kid q)) (un A F)) (im (rel (nx S) S.size (t.kid q)) A))
  nb : rb ≠ b
  ne : rb ≠ w.heap.size
  off : Offs (mem t) w wr
  mp : ∀ b, mem t b → IsM wr b
  sv : ∀ p, p < t.n → Sv (nx S) S.size wr (t.kid p) (if p < q + 1 then un A F else A)
/-- .. and behind what is fresh of it. -/
structure AltK (S : ByteArray) (t : St) (b : Nat) (A F : Nat → Prop) (w : World) (q lb : Nat) (wr : World) : Prop where
  en : PS wr w.heap.size (df (im (anyR S t q) (un A F)) (im (rel (nx S) S.size t) A))
  re : PS wr b (un (im (rel (nx S) S.size t) A) (im (anyR S t (q + 1)) (un A F)))
  an : PS wr lb (df (df (im (rel (nx S) S.size (t.kid q)) (un A F)) (im (rel (nx S) S.size (t.kid q)) A)) (un (im (rel (nx S) S.size t) A) (im (anyR S t q) (un A F))))
  ne : lb ≠ w.heap.size
  off : Offs (mem t) w wr
  mp : ∀ b, mem t b → IsM wr b
  sv : ∀ p, p < t.n → Sv (nx S) S.size wr (t.kid p) (if p < q + 1 then un A F else A)
section
variable {S : ByteArray} {t : St} {b : Nat} {A F : Nat → Prop} {w : World} {q : Nat} {wr : World}
theorem if_step {p q : Nat} (h : p ≠ q) : (if p < q + 1 then un A F else A) = if p < q then un A F else A := by
  by_cases h1 : p < q
  · rw [if_pos h1, if_pos (by omega)]
  · rw [if_neg h1, if_neg (by omega)]
theorem AltI.ask {fb : Nat} (h : AltI S t b A F w q wr) (hT : Stp (nx S) S.size w t A) (hbm : t.m = some b) (hF : PS w fb F) (hfm : ¬ mem t fb) (hd : ∀ i, F i → ¬ A i) (hq : q < t.n) (IH : Asks 22 S (t.kid q)) (hA : ∀ i, A i → i ≤ S.size) (hFb : ∀ i, F i → i ≤ S.size)
    {ga off : Nat} (h7 : At7 w ga (off + q * 7) (t.kid q)) :
    Calls Try.prog 22 #[.pointer (some ⟨ga, off + q * 7, none⟩), .string S, .map (some fb)] wr fun e w' => ∃ rb, e = .returned (.map (some rb)) ∧ AltJ S t b A F w q rb w' := by
  have hkm : ∀ b, mem (t.kid q) b → mem t b := fun b hb => (mem_iff t b).2 (Or.inr ⟨q, hq, hb⟩)
  have hbt : mem t b := (mem_iff t b).2 (Or.inl hbm)
  have hsv := h.sv q hq
  rw [if_neg (by omega)] at hsv
  have hst : Stp (nx S) S.size wr (t.kid q) A := ⟨(((hT.lv.kid hq).offs h.off hT.mp).mono h.off.size), hT.shp.kid hq, hT.sep.kid hq, fun b hb => h.mp b (hkm b hb), hsv⟩
  have hfl := hF.lt
  have hFr : PS wr fb F := hF.on (h.off.block fb hfl hfm)
  refine (IH wr ga (off + q * 7) fb _ _ (h7.offs h.off hT.mp) hst hFr (fun hb => hfm (hkm fb hb)) hd hA hFb).mono ?_
  rintro e w' ⟨rb, rfl, hps, hnm, hwh, hoff, hst'⟩
  have hbs := fun b hb => (h.mp b hb).lt
  have hbw := fun b hb => (hT.mp b hb).lt
  have hel := h.en.lt
  have hbk : ¬ mem (t.kid q) b := hT.sep.own hbm hq
  have hek : ¬ mem (t.kid q) w.heap.size := fun hb => by have := hbw _ (hkm _ hb); omega
  refine ⟨rb, rfl, h.en.on (hoff.block _ hel hek), h.re.on (hoff.block _ (hbs b hbt) hbk), hps, ?_, ?_, h.off.trans hoff fun b hb => Or.inl (hkm b hb), fun b hb => ?_, fun p hp => ?_⟩
  · rcases hwh with rfl | hwh
    · exact fun e => hfm (e ▸ hbt)
    · have := hbs b hbt; omega
  · rcases hwh with rfl | hwh
    · omega
    · omega
  · by_cases hb' : mem (t.kid q) b
    · exact hst'.mp b hb'
    · exact (h.mp b hb).on (hoff.block b (hbs b hb) hb')
  · by_cases e : p = q
    · subst e
      rw [if_pos (by omega)]
      exact hst'.sv
    · rw [if_step e]
      exact (h.sv p hp).on (hT.shp.kid hp) fun b hb => hoff.block b (hbs b ((mem_iff t b).2 (Or.inr ⟨p, hp, hb⟩))) (hT.sep.two hp hq e hb)
theorem rel_in (hk : t.k = 4) (hq : q < t.n) : ∀ i, im (rel (nx S) S.size (t.kid q)) A i → im (rel (nx S) S.size t) A i := by
  rintro i ⟨j, hj, h⟩
  exact ⟨j, hj, by rw [rel_alt hk]; exact ⟨q, hq, h⟩⟩
theorem AltJ.fresh {g o rb : Nat} (h : AltJ S t b A F w q rb wr) (hk : t.k = 4) (hT : Stp (nx S) S.size w t A) (hbm : t.m = some b) (hc : w.cell? ⟨g, o + 6, none⟩ = some (.map t.m)) (hq : q < t.n) (hL : S.size ≤ 10000) (hA : ∀ i, A i → i ≤ S.size) (hFb : ∀ i, F i → i ≤ S.size) :
    Calls Try.prog 59 #[.pointer (some ⟨g, o, none⟩), .map (some rb)] wr fun e w' => ∃ lb, e = .returned (.map (some lb)) ∧ AltK S t b A F w q lb w' := by
  have hbt : mem t b := (mem_iff t b).2 (Or.inl hbm)
  have hAF := un_le hA hFb
  have hbs := fun b hb => (h.mp b hb).lt
  have hbw := fun b hb => (hT.mp b hb).lt
  have hel := h.en.lt
  have hc' := h.off.cell hT.mp hc
  rw [hbm] at hc'
  refine (fresh_any g o b rb S.size _ _ wr hc' (cell_block hc').2 h.re h.an (fun e => h.nb e.symm) (by omega) (un_le (im_le (rel_le _ _ t) hA) (im_le (any_le S t q) hAF)) (fun i hi => im_le (rel_le _ _ (t.kid q)) hAF i hi.1)).mono ?_
  rintro e w' ⟨rfl, hl, hr, hg⟩
  rw [alt_re (rel_in hk hq), ← im_any_succ] at hr
  have hne : w.heap.size ≠ b := fun e => by have := hbw b hbt; omega
  refine ⟨_, rfl, h.en.kept hg (fun e => hne (Option.some.inj e)), hr, hl, by omega, h.off.trans (Offs.of hg) (fun x hx => Or.inl (by cases hx; exact hbt)), fun x hx => ?_, fun p hp => ?_⟩
  · by_cases e : x = b
    · subst e; exact hr.ismap
    · exact (h.mp x hx).on (hg.block x (hbs x hx) (fun q => e (Option.some.inj q)))
  · exact (h.sv p hp).on (hT.shp.kid hp) fun x hx => hg.block x (hbs x ((mem_iff t x).2 (Or.inr ⟨p, hp, hx⟩))) (fun e => by cases e; exact hT.sep.own hbm hp hx)
theorem AltK.copy {lb : Nat} (h : AltK S t b A F w q lb wr) (hk : t.k = 4) (hT : Stp (nx S) S.size w t A) (hbm : t.m = some b) (hq : q < t.n) (hL : S.size ≤ 10000) (hA : ∀ i, A i → i ≤ S.size) (hFb : ∀ i, F i → i ≤ S.size) :
    Calls Try.prog 58 #[.map (some w.heap.size), .map (some lb)] wr fun e w' => e = .returned (.tuple #[]) ∧ AltI S t b A F w (q + 1) w' := by
  have hbt : mem t b := (mem_iff t b).2 (Or.inl hbm)
  have hAF := un_le hA hFb
  have hbs := fun b hb => (h.mp b hb).lt
  have hbw := fun b hb => (hT.mp b hb).lt
  refine (copy_any w.heap.size lb S.size _ _ wr h.en h.an (fun e => h.ne e.symm) (by omega) (fun i hi => im_le (any_le S t q) hAF i hi.1) (fun i hi => im_le (rel_le _ _ (t.kid q)) hAF i hi.1.1)).mono ?_
  rintro e w' ⟨rfl, he, hg⟩
  rw [alt_en (rel_in hk hq), ← im_any_succ] at he
  have hne : ∀ x, mem t x → some x ≠ some w.heap.size := fun x hx e => by have := hbw x hx; have := Option.some.inj e; omega
  refine ⟨rfl, he, h.re.kept hg (hne b hbt), h.off.trans (Offs.of hg) (fun x hx => Or.inr (by cases hx; exact Nat.le_refl _)), fun x hx => (h.mp x hx).on (hg.block x (hbs x hx) (hne x hx)), fun p hp => ?_⟩
  exact (h.sv p hp).on (hT.shp.kid hp) fun x hx => by
    have hx' := (mem_iff t x).2 (Or.inr ⟨p, hp, hx⟩)
    exact hg.block x (hbs x hx') (hne x hx')
theorem AltI.start (hk : t.k = 4) (hT : Stp (nx S) S.size w t A) (hbm : t.m = some b) : AltI S t b A F w 0 (w.alloc (.map #[] 0)) := by
  have hB := alloc_below w (.map #[] 0)
  have hbw := fun b hb => (hT.mp b hb).lt
  have hs := hT.sv
  have hsv : (∃ b, t.m = some b ∧ PS w b (im (rel (nx S) S.size t) A)) ∧ ∀ q, q < t.n → Sv (nx S) S.size w (t.kid q) A := by
    cases t with
    | node k s a n cap m kid => exact hs.2.1 hk
    | nul => exact hT.shp.elim
  obtain ⟨⟨b', hb', hps⟩, hkids⟩ := hsv
  obtain rfl : b' = b := by rw [hbm] at hb'; exact (Option.some.inj hb').symm
  refine ⟨?_, ?_, (Offs.of (World.grownBy_alloc w _ none)).mono (fun x hx => by cases hx), fun x hx => (hT.mp x hx).on (hB.block x (hbw x hx)), fun p hp => ?_⟩
  · rw [im_any_zero]
    have e : df no0 (im (rel (nx S) S.size t) A) = no0 := ext1 fun i => ⟨fun h => h.1, False.elim⟩
    rw [e]
    exact PS.made w
  · rw [im_any_zero, un_no]
    exact hps.on (hB.block _ hps.lt)
  · rw [if_neg (by omega)]
    exact (hkids p hp).on (hT.shp.kid hp) fun x hx => hB.block x (hbw x ((mem_iff t x).2 (Or.inr ⟨p, hp, hx⟩)))
theorem AltI.done {fb : Nat} (hk : t.k = 4) (hT : Stp (nx S) S.size w t A) (hbm : t.m = some b) (h : AltI S t b A F w t.n wr) : Ret (nx S) S.size t A F fb w (.returned (.map (some w.heap.size))) wr := by
  have e : im (anyR S t t.n) (un A F) = im (rel (nx S) S.size t) (un A F) := by rw [rel_alt hk]; rfl
  have hen := h.en
  have hre := h.re
  rw [e] at hen hre
  have e2 : un (im (rel (nx S) S.size t) A) (im (rel (nx S) S.size t) (un A F)) = im (rel (nx S) S.size t) (un A F) := by
    rw [im_un]
    exact ext1 fun i => ⟨fun h => h.elim Or.inl id, Or.inr⟩
  rw [e2] at hre
  have hbw := fun b hb => (hT.mp b hb).lt
  refine ⟨_, rfl, hen, fun hb => by have := hbw _ hb; omega, Or.inr (Nat.le_refl _), h.off, (hT.lv.offs h.off hT.mp).mono h.off.size, hT.shp, hT.sep, h.mp, ?_⟩
  have hs := h.sv
  cases t with
  | node k s a n cap m kid =>
    have : k = 4 := hk
    refine ⟨fun e => by omega, fun _ => ⟨⟨b, hbm, hre⟩, fun q hq => ?_⟩, fun e => by omega⟩
    have := hs q hq
    rw [if_pos (show q < (St.node k s a n cap m kid).n from hq)] at this
    exact this
  | nul => exact hT.shp.elim
end
set_option maxRecDepth 100000 in
set_option maxHeartbeats 4000000 in
theorem either_any (S : ByteArray) (hL : S.size ≤ 10000) (t : St) (hk : t.k = 4) (IH : ∀ i, i < t.n → Asks 22 S (t.kid i)) : Asks 41 S t := by
  intro w g o fb A F h7 hT hF hfm hd hA hFb
  obtain ⟨b, hbm⟩ := hT.shp.map (by omega : t.k ≠ 2)
  obtain ⟨c0, c1, c2, c3, c4, c5, c6⟩ := h7
  have HST := Lib.hid (AltI.start (F := F) hk hT hbm)
  have HDN := Lib.hid (fun wr => AltI.done (S := S) (A := A) (F := F) (fb := fb) (w := w) (wr := wr) hk hT hbm)
  have hcap := hT.lv.caps
  have HROW := Lib.hid (fun hn => hT.lv.row hn)
  have H1 : Hid (∀ q wr, AltI S t b A F w q wr → ∀ hq : q < t.n, ∀ ga off, At7 w ga (off + q * 7) (t.kid q) → Calls Try.prog 22 #[.pointer (some ⟨ga, off + q * 7, none⟩), .string S, .map (some fb)] wr fun e w' => ∃ rb, e = .returned (.map (some rb)) ∧ AltJ S t b A F w q rb w') :=
    Lib.hid fun q wr h hq ga off h7 => h.ask hT hbm hF hfm hd hq (IH q hq) hA hFb h7
  have H2 : Hid (∀ q rb wr, AltJ S t b A F w q rb wr → q < t.n → Calls Try.prog 59 #[.pointer (some ⟨g, o, none⟩), .map (some rb)] wr fun e w' => ∃ lb, e = .returned (.map (some lb)) ∧ AltK S t b A F w q lb w') :=
    Lib.hid fun q rb wr h hq => h.fresh hk hT hbm c6 hq hL hA hFb
  have H3 : Hid (∀ q lb wr, AltK S t b A F w q lb wr → q < t.n → Calls Try.prog 58 #[.map (some w.heap.size), .map (some lb)] wr fun e w' => e = .returned (.tuple #[]) ∧ AltI S t b A F w (q + 1) w') :=
    Lib.hid fun q lb wr h hq => h.copy hk hT hbm hq hL hA hFb
  have HC : Hid (∀ q wr, AltI S t b A F w q wr → wr.cell? ⟨g, o + 5, none⟩ = some (.slice t.a t.n t.cap)) := Lib.hid fun q wr h => h.off.cell hT.mp c5
  have c5' : (w.alloc (.map #[] 0)).cell? ⟨g, o + 5, none⟩ = some (.slice t.a t.n t.cap) := HC.out 0 _ HST.out
  clear c0 c1 c2 c3 c4 c6 hF hfm hd hA hFb IH
  obtain ⟨n, hn⟩ : ∃ n, n = t.n := ⟨_, rfl⟩
  obtain ⟨cap, hcp⟩ : ∃ cap, cap = t.cap := ⟨_, rfl⟩
  rw [← hn, ← hcp] at c5' hcap
  have HN := Lib.hid hn
  have HCP := Lib.hid hcp
  have hnm : n ≤ maxLen := Nat.le_trans hcap.1 hcap.2.1
  clear hcap hn hcp hk c5 hbm
  unfold maxLen at hnm
  have hmm := @run_makeMap Try.prog
  go_enter Try.func41, Try.ntmps41
  go_wp2
  go_loopw [15] (fun i wr => ∃ q : Nat, q ≤ n ∧ i = .int .i64 q ∧ Hid (AltI S t b A F w q wr)) (fun i _ => n - (RowKit.intOf i).toNat)
  case atStart => exact ⟨0, Nat.zero_le _, rfl, Lib.hid HST.out⟩
  case round =>
    obtain ⟨q, hq, rfl, HI⟩ := hrel
    by_cases hlt : q < n
    · have hlt' : (q : Int) < (n : Int) := by omega
      have hltn : Hid (q < t.n) := Lib.hid (by rw [← HN.out]; exact hlt)
      obtain ⟨ga, off, ha, hga, hk7⟩ := HROW.out (by rw [← HN.out]; omega)
      have h57 := HC.out q wr HI.out
      rw [ha, ← HN.out, ← HCP.out] at h57
      have HA := Lib.hid (H1.out q wr HI.out hltn.out ga off (hk7 q hltn.out))
      clear hk7 c5' ha
      go_wp2_with fail
      refine HA.out.mono ?_
      rintro e w1 ⟨rb, rfl, HJ⟩
      have HB := Lib.hid (H2.out q rb w1 HJ hltn.out)
      go_wp2_with fail
      refine HB.out.mono ?_
      rintro e w2 ⟨lb, rfl, HK⟩
      have HB3 := Lib.hid (H3.out q lb w2 HK hltn.out)
      go_wp2_with fail
      refine HB3.out.mono ?_
      rintro e w3 ⟨rfl, HI1⟩
      go_wp2
      go_roundw
      case rel => exact ⟨q + 1, by omega, by go_num, Lib.hid HI1⟩
      case measure => simp [RowKit.intOf]; omega
    · have hlt' : ¬ (q : Int) < (n : Int) := by omega
      obtain rfl : q = n := by omega
      go_wp2
      go_ret
      exact HDN.out wr (by rw [← HN.out]; exact HI.out)
end Go.Proofs.Ytnfchlkdppblfaa
