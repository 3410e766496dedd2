/- The law's own Text: a text by numbers, of at most 12 bytes. -/
import Derived.Test.YtbahadgcmaabcaaMg
import Derived.IntWalk
import Derived.Laws.Concat
namespace Go.Proofs.Ytbahadgcmaabcaa
open Go.RowKit Go.Maps Go
set_option maxRecDepth 100000 in
set_option maxHeartbeats 1000000 in
theorem text_any (a : Option Addr) (n cap : Nat) (F : Nat → Int) (w : World) (h : ByteRow w a n F) (hF : ∀ i, 0 ≤ F i ∧ F i < 256) (hn : n ≤ 9223372036854775807) : Calls Try.prog 15 #[.slice a n cap] w fun e w' => ∃ S : ByteArray, e = .returned (.string S) ∧ S.size ≤ 12 ∧ Below w.heap.size w w' := by
  have HR := Lib.hid h
  have HF := Lib.hid hF
  clear h hF
  go_enter Try.func15, Try.ntmps15
  go_wp2
  go_loopw [3, 4] (fun v i wr => ∃ (q : Nat) (S : ByteArray), q ≤ 12 ∧ q ≤ n ∧ i = .int .i64 q ∧ v = .string S ∧ S.size = q ∧ ∃ k, wr = w.drewN k) (fun _ i _ => 12 - (RowKit.intOf i).toNat)
  case atStart => exact ⟨0, ⟨#[]⟩, by omega, by omega, rfl, rfl, rfl, 0, rfl⟩
  case round =>
    obtain ⟨q, S, hq, hqn, rfl, rfl, hS, kk, rfl⟩ := hrel
    have HS := Lib.hid hS
    clear hS
    by_cases hlt : q < n
    · by_cases h12 : q < 12
      · have hlt' : (q : Int) < (n : Int) := by omega
        have h12' : (q : Int) < 12 := by omega
        obtain ⟨g, off, rfl, hg, hc⟩ := HR.out (by omega)
        have hcq := hc q hlt
        clear hc
        obtain ⟨x, hx⟩ : ∃ x : Nat, F q = (x : Int) := ⟨(F q).toNat, by have := HF.out q; omega⟩
        have hx2 : x < 256 := by have := HF.out q; omega
        rw [hx] at hcq
        clear hx
        obtain ⟨m, hm⟩ : ∃ m : Nat, (x : Int).tmod 12 = (m : Int) ∧ m < 12 := ⟨x % 12, by rw [Int.tmod_eq_emod_of_nonneg (by omega)]; omega, by omega⟩
        have e1 : IntKind.i64.wrap (x : Int) = (x : Int) := IntWalk.i64_in _ (by omega)
        have e2 := hm.1
        have e3 : IntKind.i64.wrap (m : Int) = (m : Int) := IntWalk.i64_in _ (by omega)
        have e4 : IntKind.i64.wrap ((m : Int) + 1) = (m : Int) + 1 := IntWalk.i64_in _ (by omega)
        have e5 : ((m : Int) + 1).toNat = m + 1 := by omega
        have e6 : m < 12 := hm.2
        have e7 : (0 : Int) ≤ (m : Int) + 1 := by omega
        have e8 : (m : Int) ≤ (m : Int) + 1 := by omega
        have e9 : (m : Int) + 1 ≤ 12 := by omega
        clear hm
        have hz1 : ¬ (9223372036854775807 < S.size + (min (m + 1) 12 - m)) := by have := HS.out; omega
        have hz2 : ¬ (9223372036854775807 < S.size + ((⟨#[97, 97, 98, 98, 99, 99, 45, 90, 10, 48, 0, 255]⟩ : ByteArray).extract m (m + 1)).size) := by rw [ByteArray.size_extract]; exact hz1
        have hz3 : S.size + ((⟨#[97, 97, 98, 98, 99, 99, 45, 90, 10, 48, 0, 255]⟩ : ByteArray).extract m (m + 1)).size ≤ 9223372036854775807 := by omega
        go_wp2
        go_quiet (fail)
        go_wp2
        refine ⟨⟨q + 1, _, by omega, by omega, by go_num, rfl, ?_, _, rfl⟩, by simp [RowKit.intOf]; omega⟩
        rw [ByteArray.size_append, ByteArray.size_extract, HS.out]
        show q + (min (m + 1) 12 - m) = q + 1
        omega
      · obtain rfl : q = 12 := by omega
        have hlt' : (12 : Int) < (n : Int) := by omega
        go_wp2
        go_ret
        exact ⟨S, rfl, by have := HS.out; omega, below_drewN (Below.refl _ _) _⟩
    · have hlt' : ¬ (q : Int) < (n : Int) := by omega
      go_wp2
      go_ret
      exact ⟨S, rfl, by have := HS.out; omega, below_drewN (Below.refl _ _) _⟩
/-! What is matched in a part of a text. -/
end Go.Proofs.Ytbahadgcmaabcaa
