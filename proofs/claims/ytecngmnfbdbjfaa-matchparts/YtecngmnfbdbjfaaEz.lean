/- The law's own Text: a text by numbers, of at most 12 bytes. -/
import Derived.Test.YtecngmnfbdbjfaaEy
import Derived.IntWalk
import Derived.Laws.Concat
namespace Go.Proofs.Ytecngmnfbdbjfaa
open Go.RowKit Go.Maps Go
set_option maxRecDepth 100000 in
set_option maxHeartbeats 1000000 in
theorem text_any (a : Option Addr) (n cap : Nat) (F : Nat → Int) (w : World) (h : ByteRow w a n F) (hF : ∀ i, 0 ≤ F i ∧ F i < 256) (hn : n ≤ 9223372036854775807) : Calls Try.prog 10 #[.slice a n cap] w fun e w' => ∃ S : ByteArray, e = .returned (.string S) ∧ S.size ≤ 12 ∧ Below w.heap.size w w' := by
  have HR := Lib.hid h
  have HF := Lib.hid hF
  clear h hF
  go_enter Try.func10, Try.ntmps10
  go_wp2
  go_loopw [3, 4] (fun v i wr => ∃ (q : Nat) (S : ByteArray), q ≤ 12 ∧ q ≤ n ∧ i = .int .i64 q ∧ v = .string S ∧ S.size = q ∧ ∃ k, wr = w.drewN k) (fun _ i _ => 12 - (RowKit.intOf i).toNat)
  case atStart => exact ⟨0, ⟨#[]⟩, by omega, by omega, rfl, rfl, rfl, 0, rfl⟩
  case round =>
    obtain ⟨q, S, hq, hqn, rfl, rfl, hS, kk, rfl⟩ := hrel
    have HS := Lib.hid hS
    clear hS
    by_cases hlt : q < n
    · by_cases h12 : q < 12
      · have hlt' : (q : Int) < (n : Int) := by omega
        have h12' : (q : Int) < 12 := by omega
        obtain ⟨g, off, rfl, hg, hc⟩ := HR.out (by omega)
        have hcq := hc q hlt
        clear hc
        obtain ⟨x, hx⟩ : ∃ x : Nat, F q = (x : Int) := ⟨(F q).toNat, by have := HF.out q; omega⟩
        have hx2 : x < 256 := by have := HF.out q; omega
        rw [hx] at hcq
        clear hx
        obtain ⟨m, hm⟩ : ∃ m : Nat, (x : Int).tmod 12 = (m : Int) ∧ m < 12 := ⟨x % 12, by rw [Int.tmod_eq_emod_of_nonneg (by omega)]; omega, by omega⟩
        have e1 : IntKind.i64.wrap (x : Int) = (x : Int) := IntWalk.i64_in _ (by omega)
        have e2 := hm.1
        have e3 : IntKind.i64.wrap (m : Int) = (m : Int) := IntWalk.i64_in _ (by omega)
        have e4 : IntKind.i64.wrap ((m : Int) + 1) = (m : Int) + 1 := IntWalk.i64_in _ (by omega)
        have e5 : ((m : Int) + 1).toNat = m + 1 := by omega
        have e6 : m < 12 := hm.2
        have e7 : (0 : Int) ≤ (m : Int) + 1 := by omega
        have e8 : (m : Int) ≤ (m : Int) + 1 := by omega
        have e9 : (m : Int) + 1 ≤ 12 := by omega
        clear hm
        have hz1 : ¬ (9223372036854775807 < S.size + (min (m + 1) 12 - m)) := by have := HS.out; omega
        have hz2 : ¬ (9223372036854775807 < S.size + ((⟨#[97, 97, 98, 98, 99, 99, 45, 90, 10, 48, 0, 255]⟩ : ByteArray).extract m (m + 1)).size) := by rw [ByteArray.size_extract]; exact hz1
        have hz3 : S.size + ((⟨#[97, 97, 98, 98, 99, 99, 45, 90, 10, 48, 0, 255]⟩ : ByteArray).extract m (m + 1)).size ≤ 9223372036854775807 := by omega
        go_wp2
        go_quiet (fail)
        go_wp2
        refine ⟨⟨q + 1, _, by omega, by omega, by go_num, rfl, ?_, _, rfl⟩, by simp [RowKit.intOf]; omega⟩
        rw [ByteArray.size_append, ByteArray.size_extract, HS.out]
        show q + (min (m + 1) 12 - m) = q + 1
        omega
      · obtain rfl : q = 12 := by omega
        have hlt' : (12 : Int) < (n : Int) := by omega
        go_wp2
        go_ret
        exact ⟨S, rfl, by have := HS.out; omega, below_drewN (Below.refl _ _) _⟩
    · have hlt' : ¬ (q : Int) < (n : Int) := by omega
      go_wp2
      go_ret
      exact ⟨S, rfl, by have := HS.out; omega, below_drewN (Below.refl _ _) _⟩
/-! What is matched in a part of a text. -/
theorem chain_up {r : Nat → Nat → Nat → Prop} : ∀ {n : Nat}, (∀ q, q < n → ∀ i j, r q i j → i ≤ j) → ∀ i j, chain r n i j → i ≤ j
  | 0, _, i, j, e => by cases e; exact Nat.le_refl _
  | n + 1, h, i, j, ⟨x, h1, h2⟩ => Nat.le_trans (chain_up (n := n) (fun q hq => h q (by omega)) i x h1) (h n (by omega) x j h2)
theorem pw_up {r : Nat → Nat → Prop} (h : ∀ i j, r i j → i ≤ j) : ∀ q i j, pw r q i j → i ≤ j
  | 0, i, j, e => by cases e; exact Nat.le_refl _
  | q + 1, i, j, ⟨x, h1, h2⟩ => Nat.le_trans (pw_up h q i x h1) (h x j h2)
theorem mt_up (c : Nat → Int) (L : Nat) : ∀ (t : Tr) (i j : Nat), mt c L t i j → i ≤ j
  | .node k s lo hi a n cap kid, i, j, h => by
    have IH := fun q => mt_up c L (kid q)
    unfold mt at h
    split at h
    · cases h; exact Nat.le_refl _
    · split at h
      · have := h.2.2; omega
      · split at h
        · exact chain_up (fun q _ => IH q) i j h
        · split at h
          · obtain ⟨q, _, h⟩ := h; exact IH q i j h
          · obtain ⟨q, _, _, h⟩ := h; exact pw_up (IH 0) q i j h
  | .nul, _, _, h => h.elim
theorem chain_sub {r' r : Nat → Nat → Nat → Prop} {k M : Nat} : ∀ {n : Nat}, (∀ q, q < n → ∀ a b, b ≤ M → (r' q a b ↔ r q (k + a) (k + b))) → (∀ q, q < n → ∀ i j, r q i j → i ≤ j) → (∀ q, q < n → ∀ i j, r' q i j → i ≤ j) → ∀ a b, b ≤ M → (chain r' n a b ↔ chain r n (k + a) (k + b))
  | 0, _, _, _, a, b, _ => ⟨fun (e : a = b) => show k + a = k + b by rw [e], fun (e : k + a = k + b) => show a = b by omega⟩
  | n + 1, h, hu, hu', a, b, hb => by
    have ih := chain_sub (n := n) (fun q hq => h q (by omega)) (fun q hq => hu q (by omega)) (fun q hq => hu' q (by omega))
    constructor
    · rintro ⟨x, h1, h2⟩
      have hx := hu' n (by omega) x b h2
      exact ⟨k + x, (ih a x (by omega)).1 h1, (h n (by omega) x b hb).1 h2⟩
    · rintro ⟨y, h1, h2⟩
      have hy := hu n (by omega) y _ h2
      have hy' := chain_up (fun q hq => hu q (by omega)) _ y h1
      obtain ⟨x, rfl⟩ : ∃ x, y = k + x := ⟨y - k, by omega⟩
      exact ⟨x, (ih a x (by omega)).2 h1, (h n (by omega) x b hb).2 h2⟩
theorem pw_sub {r' r : Nat → Nat → Prop} {k M : Nat} (h : ∀ a b, b ≤ M → (r' a b ↔ r (k + a) (k + b))) (hu : ∀ i j, r i j → i ≤ j) (hu' : ∀ i j, r' i j → i ≤ j) : ∀ q a b, b ≤ M → (pw r' q a b ↔ pw r q (k + a) (k + b))
  | 0, a, b, _ => ⟨fun (e : a = b) => show k + a = k + b by rw [e], fun (e : k + a = k + b) => show a = b by omega⟩
  | q + 1, a, b, hb => by
    have ih := pw_sub h hu hu' q
    constructor
    · rintro ⟨x, h1, h2⟩
      have hx := hu' x b h2
      exact ⟨k + x, (ih a x (by omega)).1 h1, (h x b hb).1 h2⟩
    · rintro ⟨y, h1, h2⟩
      have hy := hu y _ h2
      have hy' := pw_up hu q _ y h1
      obtain ⟨x, rfl⟩ : ∃ x, y = k + x := ⟨y - k, by omega⟩
      exact ⟨x, (ih a x (by omega)).2 h1, (h x b hb).2 h2⟩
theorem mt_sub {c c' : Nat → Int} {L M k : Nat} (hc : ∀ i, i < M → c' i = c (k + i)) (hM : k + M ≤ L) : ∀ (t : Tr) (a b : Nat), b ≤ M → (mt c' M t a b ↔ mt c L t (k + a) (k + b))
  | .node kk s lo hi ad n cap kid, a, b, hb => by
    have IH := fun q => mt_sub hc hM (kid q)
    unfold mt
    split
    · omega
    · split
      · constructor
        · rintro ⟨h1, h2, h3⟩; exact ⟨by omega, by rw [← hc a h1]; exact h2, by omega⟩
        · rintro ⟨h1, h2, h3⟩; exact ⟨by omega, by rw [hc a (by omega)]; exact h2, by omega⟩
      · split
        · exact chain_sub (fun q _ => IH q) (fun q _ => mt_up c L (kid q)) (fun q _ => mt_up c' M (kid q)) a b hb
        · split
          · exact exists_congr fun q => and_congr_right fun _ => IH q a b hb
          · unfold tms
            exact exists_congr fun q => and_congr_right fun _ => and_congr_right fun _ => pw_sub (IH 0) (mt_up c L (kid 0)) (mt_up c' M (kid 0)) q a b hb
  | .nul, _, _, _ => Iff.rfl
theorem nx_sub (S : ByteArray) {k j : Nat} (hk : k ≤ j) (hj : j ≤ S.size) : (S.extract k j).size = j - k ∧ ∀ i, i < j - k → nx (S.extract k j) i = nx S (k + i) := by
  have hs : (S.extract k j).size = j - k := by rw [ByteArray.size_extract, Nat.min_eq_left hj]
  refine ⟨hs, fun i hi => ?_⟩
  rw [nx_in (by omega), nx_in (by omega)]
  have : (S.extract k j)[i]'(by omega) = S[k + i]'(by omega) := ByteArray.getElem_extract (by omega)
  rw [this]
theorem mat_sub (S : ByteArray) (t : Tr) {k j : Nat} (hk : k ≤ j) (hj : j ≤ S.size) (hS : S.size ≤ 10000) (hr : rightB t = true) : matB (S.extract k j) t ↔ mt (nx S) S.size t k j := by
  obtain ⟨hs, hn⟩ := nx_sub S hk hj
  unfold matB
  rw [hs]
  have := mt_sub (L := S.size) hn (by omega) t 0 (j - k) (Nat.le_refl _)
  rw [Nat.add_zero, show k + (j - k) = j by omega] at this
  rw [this]
  exact ⟨fun h => h.2.2, fun h => ⟨hr, by omega, h⟩⟩
/-- How many there are below j. -/
noncomputable def blw (R : Nat → Prop) (j : Nat) : Nat := by
  classical
  exact ((List.range j).filter fun i => decide (R i)).length
theorem blw_yes {R : Nat → Prop} {j : Nat} (h : R j) : blw R (j + 1) = blw R j + 1 := by
  classical
  unfold blw
  rw [List.range_succ, List.filter_append]
  simp [h]
theorem blw_no {R : Nat → Prop} {j : Nat} (h : ¬ R j) : blw R (j + 1) = blw R j := by
  classical
  unfold blw
  rw [List.range_succ, List.filter_append]
  simp [h]
theorem blw_all (L : Nat) (R : Nat → Prop) : blw R (L + 1) = (lst L R).length := rfl
theorem blw_zero {R : Nat → Prop} {j : Nat} (h : ∀ i, i < j → ¬ R i) : blw R j = 0 := by
  induction j with
  | zero => rfl
  | succ j ih => rw [blw_no (h j (by omega)), ih fun i hi => h i (by omega)]
theorem blw_at {L j : Nat} {R : Nat → Prop} (hj : j ≤ L) : (blw R j < (lst L R).length ∧ (lst L R).getD (blw R j) 0 = j) ↔ R j := by
  classical
  have e : lst L R = ((List.range j).filter fun i => decide (R i)) ++ (((List.range (L + 1 - j)).map (j + ·)).filter fun i => decide (R i)) := by
    unfold lst
    rw [show L + 1 = j + (L + 1 - j) by omega, List.range_add, List.filter_append, show j + (L + 1 - j) - j = L + 1 - j by omega]
  obtain ⟨m, hm⟩ : ∃ m, L + 1 - j = m + 1 := ⟨L - j, by omega⟩
  rw [hm, List.range_succ_eq_map, List.map_cons] at e
  have hA : ((List.range j).filter fun i => decide (R i)).length = blw R j := rfl
  obtain ⟨A, hAA⟩ : ∃ A, A = (List.range j).filter fun i => decide (R i) := ⟨_, rfl⟩
  rw [← hAA] at e hA
  by_cases h : R j
  · rw [List.filter_cons_of_pos (by simpa using h)] at e
    rw [e, ← hA]
    refine ⟨fun _ => h, fun _ => ⟨by simp, ?_⟩⟩
    simp
  · rw [List.filter_cons_of_neg (by simpa using h)] at e
    refine ⟨?_, fun q => absurd q h⟩
    rintro ⟨h1, h2⟩
    exfalso
    rw [e, ← hA, List.getD_eq_getElem?_getD, List.getElem?_append_right (Nat.le_refl _), Nat.sub_self] at h2
    rw [e, ← hA, List.length_append] at h1
    obtain ⟨Bq, hB⟩ : ∃ Bq, Bq = (List.map (fun x => j + x) (List.map Nat.succ (List.range m))).filter fun i => decide (R i) := ⟨_, rfl⟩
    rw [← hB] at h1 h2
    cases Bq with
    | nil => simp at h1
    | cons b l =>
      have hb : b ∈ (List.map (fun x => j + x) (List.map Nat.succ (List.range m))).filter fun i => decide (R i) := by rw [← hB]; simp
      simp only [List.mem_filter, List.mem_map] at hb
      obtain ⟨⟨x, ⟨y, _, rfl⟩, rfl⟩, _⟩ := hb
      simp at h2
end Go.Proofs.Ytecngmnfbdbjfaa
