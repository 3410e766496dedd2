/- The law PartRuns: its walk; and how an argument of type [][4]uint8 is opened. -/
import Derived.Test.YtjjnpobppmmgbaaQ
import Derived.Test.YtjjnpobppmmgbaaS
import Derived.Test.YtjjnpobppmmgbaaO
namespace Go.Proofs.Ytjjnpobppmmgbaa
open Go.ChangeShapes Go.WideShapes Go.ChangeAt Go.RowKit Go.Joins
/-- A slice that reads as some rows of four bytes. -/
def QuadsAt (w : World) (v : Value) (qs : List (Nat → Int)) : Prop :=
  ∃ a cap, v = .slice a qs.length cap ∧ qs.length ≤ maxLen ∧ (0 < qs.length → ∃ g off, a = some ⟨g, off, none⟩ ∧ g < w.heap.size ∧ (∀ i, i < qs.length → ∀ k, k < 4 → 0 ≤ getF qs i k ∧ getF qs i k ≤ 255) ∧
    ∀ i, i < qs.length → ∀ k, k < 4 → w.cell? ⟨g, off + i * 4 + k, none⟩ = some (.int .u8 (getF qs i k)))
theorem QuadsAt.below {w w' : World} {v : Value} {qs : List (Nat → Int)} (h : QuadsAt w v qs) (hb : Below w.heap.size w w') : QuadsAt w' v qs := by
  obtain ⟨a, cap, rfl, hl, hc⟩ := h
  refine ⟨a, cap, rfl, hl, fun hp => ?_⟩
  obtain ⟨g, off, rfl, hg, hq, hc⟩ := hc hp
  exact ⟨g, off, rfl, Nat.lt_of_lt_of_le hg hb.size, hq, fun i hi k hk => (hb.cell (p := ⟨g, _, none⟩) hg).trans (hc i hi k hk)⟩
theorem u8_le {a : Int} (h : (Lit.int .u8 a).wf = true) : 0 ≤ a ∧ a ≤ 255 := by
  have := bounds_u8 h; omega
theorem open_quads {H : Type} {enc : TypeId × Value → H} {w : World} {b0 : Nat} {r : Reach} {v : Value} {d : DataW H} {p : List MemPlace}
    (hv : Value.okWide Try.prog w r b0 25 v) (h : DataW.Trod enc Try.prog w 0 (fun _ => true) true 25 v d p) (hlt : ∀ x ∈ p, x.block < w.heap.size) :
    ∃ (a : Option Addr) (n cap : Nat) (qs : List (Nat → Int)), v = .slice a n cap ∧ n ≤ maxLen ∧ QuadsAt w v qs := by
  obtain ⟨a, n, cap, qs, rfl, hn, rfl, hq, hc⟩ := open_rows4 Try.underlying25 Try.underlying42 Try.underlying5 cells42 cells5 hv h hlt
  refine ⟨a, _, cap, qs, rfl, hn, a, cap, rfl, hn, fun hp => ?_⟩
  obtain ⟨g, off, rfl, hg, hc⟩ := hc hp
  exact ⟨g, off, rfl, hg, fun i hi k hk => u8_le (hq i hi k hk), hc⟩
theorem runs_any (qs : List (Nat → Int)) (v : Value) (w : World) (h : QuadsAt w v qs) : Calls Try.prog 10 #[v] w (GivesSets w) := by
  obtain ⟨a, cap, rfl, hl, hc⟩ := h
  by_cases hp : 0 < qs.length
  · obtain ⟨g, off, rfl, hg, hq, hc⟩ := hc hp
    exact runs_some qs qs.length _ g off cap w hl hp (Lib.hid rfl) hg (Lib.hid hq) (Lib.hid hc)
  · rw [show qs.length = 0 by omega]
    exact runs_none a cap w
set_option maxHeartbeats 4000000 in
theorem partRuns_any (qs : List (Nat → Int)) (v : Value) (w : World) (hf : QuadsAt w v qs) : Calls Try.prog 4 #[v] w fun e w' => e = .returned (.bool true) ∧ Below w.heap.size w w' := by
  go_enter Try.func4, Try.ntmps4
  go_wp2_with fail
  refine (awake_any _).mono ?_
  rintro e w1 ⟨rfl, hb1⟩
  have hf1 := hf.below hb1
  go_wp2_with fail
  refine (runs_any qs _ _ hf1).mono ?_
  rintro e w2 ⟨v2, fs, rfl, hl, _, hown, hb2⟩
  have hs := sets_of_row hown (by omega)
  have hB2 : Below w.heap.size w w2 := hb1.trans (hb2.mono hb1.size)
  clear hown hb1 hb2 hf hf1
  go_wp2_with fail
  refine (law_same fs _ _ hs).mono ?_
  rintro e w3 ⟨rfl, hb3⟩
  go_wp2
  go_ret
  exact ⟨rfl, hB2.trans (hb3.mono hB2.size)⟩
end Go.Proofs.Ytjjnpobppmmgbaa
