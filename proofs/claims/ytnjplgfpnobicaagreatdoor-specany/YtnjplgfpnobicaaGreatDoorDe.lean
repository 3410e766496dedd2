/- The law's own same of layer 6. -/
import Derived.Test.YtnjplgfpnobicaaGreatDoorDc
import Derived.Test.YtnjplgfpnobicaaGreatDoorDb
import Derived.Test.YtnjplgfpnobicaaGreatDoorCu
import Derived.Test.YtnjplgfpnobicaaGreatDoorCt
import Derived.Deep.RegionHeld3
namespace Go.Proofs.YtnjplgfpnobicaaGreatDoor
open Go.RowKit Go
theorem spprint_form (s : Sp) : ∃ S c, spprintV s = .tuple #[.string S, .int .i64 c] := by
  unfold spprintV; split
  · exact ⟨_, _, rfl⟩
  · exact ⟨_, _, rfl⟩
theorem keepS {w w1 : World} {s t : Sp} (h : Bx2 w (.cells (row3 s) 25) (.cells (row3 t) 25) w1) : Bx2 w (.cells (row3 s) 25) (.cells (row3 t) 25) w1 ∧ w1.cell? ⟨w.heap.size, 0, none⟩ = some (.slice s.cs.a s.cs.n s.cs.cap) ∧ w1.cell? ⟨w.heap.size, 1, none⟩ = some (.bool s.dft) ∧ w1.cell? ⟨w.heap.size, 2, none⟩ = some (.slice s.rs.a s.rs.n s.rs.cap) ∧
    w1.cell? ⟨w.heap.size + 1, 0, none⟩ = some (.slice t.cs.a t.cs.n t.cs.cap) ∧ w1.cell? ⟨w.heap.size + 1, 1, none⟩ = some (.bool t.dft) ∧ w1.cell? ⟨w.heap.size + 1, 2, none⟩ = some (.slice t.rs.a t.rs.n t.rs.cap) := by
  obtain ⟨a0, a1, a2⟩ := cell3 h.one
  obtain ⟨b0, b1, b2⟩ := cell3 h.two
  exact ⟨h, a0, a1, a2, b0, b1, b2⟩
set_option maxRecDepth 100000 in
set_option maxHeartbeats 16000000 in
theorem spsameLaw_any (s t : Sp) (i c : Int) (w : World) (h : SpIn w s) (h' : SpIn w t) (hc : Sm s.rs) : Calls Tryz.prog 10 #[specV s, specV t, .int .i64 i, .int .i64 c] w fun e w' => e = .returned (.bool true) ∧ Below w.heap.size w w' := by
  obtain ⟨S, c0, hpv⟩ := spprint_form s
  have H1 : Hid (∀ w1, Bx2 w (.cells (row3 s) 25) (.cells (row3 t) 25) w1 → Calls Tryz.prog 15 #[specV s] w1 fun e w' => e = .returned (.tuple #[.string S, .int .i64 c0]) ∧ Bx2 w (.cells (row3 s) 25) (.cells (row3 t) 25) w') := Lib.hid fun w1 hb => (hpv ▸ spprint_any s w1 (h.now hb.out) hc).mono fun e w' q => ⟨q.1, hb.to q.2⟩
  have H2 : Hid (∀ w1, Bx2 w (.cells (row3 s) 25) (.cells (row3 t) 25) w1 → Calls Tryz.prog 22 #[specV s] w1 fun e w' => e = .returned (.tuple #[.string S, .int .i64 c0]) ∧ Bx2 w (.cells (row3 s) 25) (.cells (row3 t) 25) w') := Lib.hid fun w1 hb => (hpv ▸ refspprint_any s w1 (h.now hb.out)).mono fun e w' q => ⟨q.1, hb.to q.2⟩
  obtain ⟨b1, hb1⟩ : ∃ b, b = specB s := ⟨_, rfl⟩
  obtain ⟨b2, hb2⟩ : ∃ b, b = sameS s t := ⟨_, rfl⟩
  obtain ⟨b3, hb3⟩ : ∃ b, b = activeB s i c := ⟨_, rfl⟩
  have H3 : Hid (∀ w1, Bx2 w (.cells (row3 s) 25) (.cells (row3 t) 25) w1 → Calls Tryz.prog 12 #[specV s] w1 fun e w' => e = .returned (.bool b1) ∧ Bx2 w (.cells (row3 s) 25) (.cells (row3 t) 25) w') := Lib.hid fun w1 hb => (hb1 ▸ spright_any s w1 (h.now hb.out) hc).mono fun e w' q => ⟨q.1, hb.to q.2⟩
  have H4 : Hid (∀ w1, Bx2 w (.cells (row3 s) 25) (.cells (row3 t) 25) w1 → Calls Tryz.prog 23 #[specV s] w1 fun e w' => e = .returned (.bool b1) ∧ Bx2 w (.cells (row3 s) 25) (.cells (row3 t) 25) w') := Lib.hid fun w1 hb => (hb1 ▸ refspright_any s w1 (h.now hb.out)).mono fun e w' q => ⟨q.1, hb.to q.2⟩
  have H5 : Hid (∀ w1, Bx2 w (.cells (row3 s) 25) (.cells (row3 t) 25) w1 → Calls Tryz.prog 20 #[specV s, specV t] w1 fun e w' => e = .returned (.bool b2) ∧ Bx2 w (.cells (row3 s) 25) (.cells (row3 t) 25) w') := Lib.hid fun w1 hb => (hb2 ▸ spsame_any s t w1 (h.now hb.out) (h'.now hb.out) hc).mono fun e w' q => ⟨q.1, hb.to q.2⟩
  have H6 : Hid (∀ w1, Bx2 w (.cells (row3 s) 25) (.cells (row3 t) 25) w1 → Calls Tryz.prog 17 #[specV s, specV t] w1 fun e w' => e = .returned (.bool b2) ∧ Bx2 w (.cells (row3 s) 25) (.cells (row3 t) 25) w') := Lib.hid fun w1 hb => (hb2 ▸ refspsame_any s t w1 (h.now hb.out) (h'.now hb.out)).mono fun e w' q => ⟨q.1, hb.to q.2⟩
  have H7 : Hid (∀ w1, Bx2 w (.cells (row3 s) 25) (.cells (row3 t) 25) w1 → Calls Tryz.prog 19 #[specV s, .int .i64 i, .int .i64 c] w1 fun e w' => e = .returned (.bool b3) ∧ Bx2 w (.cells (row3 s) 25) (.cells (row3 t) 25) w') := Lib.hid fun w1 hb => (hb3 ▸ active_any s i c w1 (h.now hb.out)).mono fun e w' q => ⟨q.1, hb.to q.2⟩
  have H8 : Hid (∀ w1, Bx2 w (.cells (row3 s) 25) (.cells (row3 t) 25) w1 → Calls Tryz.prog 24 #[specV s, .int .i64 i, .int .i64 c] w1 fun e w' => e = .returned (.bool b3) ∧ Bx2 w (.cells (row3 s) 25) (.cells (row3 t) 25) w') := Lib.hid fun w1 hb => (hb3 ▸ refactive_any s i c w1 (h.now hb.out)).mono fun e w' q => ⟨q.1, hb.to q.2⟩
  clear h h' hc hpv hb1 hb2 hb3
  go_enter Tryz.func10, Tryz.ntmps10
  go_wp2_with (first
    | (go_at_call 15; refine (H1.out _ (Bx2.refl w _ _)).mono ?_; rintro e w1 ⟨rfl, hb1⟩; obtain ⟨_, a0, a1, a2, d0, d1, d2⟩ := keepS hb1)
    | (go_at_call 22; refine (H2.out _ hb1).mono ?_; rintro e w2 ⟨rfl, hb2⟩; clear a0 a1 a2 d0 d1 d2))
  obtain ⟨_, a0, a1, a2, d0, d1, d2⟩ := keepS hb2
  go_region_held3 (fun w' => Bx2 w (.cells (row3 s) 25) (.cells (row3 t) 25) w' ∧ w'.cell? ⟨w.heap.size, 0, none⟩ = some (.slice s.cs.a s.cs.n s.cs.cap) ∧ w'.cell? ⟨w.heap.size, 1, none⟩ = some (.bool s.dft) ∧ w'.cell? ⟨w.heap.size, 2, none⟩ = some (.slice s.rs.a s.rs.n s.rs.cap) ∧ w'.cell? ⟨w.heap.size + 1, 0, none⟩ = some (.slice t.cs.a t.cs.n t.cs.cap) ∧ w'.cell? ⟨w.heap.size + 1, 1, none⟩ = some (.bool t.dft) ∧ w'.cell? ⟨w.heap.size + 1, 2, none⟩ = some (.slice t.rs.a t.rs.n t.rs.cap))
    ((refine keepS ?_; first | assumption | exact hb2.drew))
    (first
      | (go_at_call 12; go_split_ands; refine (H3.out _ ?_).mono ?_; assumption; rintro e wz ⟨rfl, hBz⟩)
      | (go_at_call 23; go_split_ands; refine (H4.out _ ?_).mono ?_; assumption; rintro e wz ⟨rfl, hBz⟩)
      | (go_at_call 20; go_split_ands; refine (H5.out _ ?_).mono ?_; assumption; rintro e wz ⟨rfl, hBz⟩)
      | (go_at_call 17; go_split_ands; refine (H6.out _ ?_).mono ?_; assumption; rintro e wz ⟨rfl, hBz⟩)
      | (go_at_call 19; go_split_ands; refine (H7.out _ ?_).mono ?_; assumption; rintro e wz ⟨rfl, hBz⟩)
      | (go_at_call 24; go_split_ands; refine (H8.out _ ?_).mono ?_; assumption; rintro e wz ⟨rfl, hBz⟩))
  go_wp2
  go_ret
  exact ⟨rfl, hBz.out⟩
end Go.Proofs.YtnjplgfpnobicaaGreatDoor
