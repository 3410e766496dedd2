/- The law SpecAny: the walk. -/
import Derived.Test.YtnjplgfpnobicaaGreatDoorDe
import Derived.Test.YtnjplgfpnobicaaGreatDoorDg
namespace Go.Proofs.YtnjplgfpnobicaaGreatDoor
open Go.RowKit Go
set_option maxRecDepth 100000 in
set_option maxHeartbeats 4000000 in
theorem spany_walk (s t : Sp) (i c : Int) (w : World) (h : SpIn w s) (h' : SpIn w t) (hz : Szd s) (hz' : Szd t) : Calls Tryz.prog 3 #[specV s, specV t, .int .i64 i, .int .i64 c] w fun e w' => e = .returned (.bool true) ∧ Below w.heap.size w w' := by
  have HB := Lib.hid (fun w1 (hb : Bx2 w (.cells (row3 s) 25) (.cells (row3 t) 25) w1) => keepS hb)
  have HAW := Lib.hid (fun w1 (hb : Bx2 w (.cells (row3 s) 25) (.cells (row3 t) 25) w1) => (spawake_any w1).mono fun e w' q => (show e = .returned (.bool true) ∧ Bx2 w (.cells (row3 s) 25) (.cells (row3 t) 25) w' from ⟨q.1, hb.to q.2⟩))
  have HF1 := Lib.hid (fun w1 (hb : Bx2 w (.cells (row3 s) 25) (.cells (row3 t) 25) w1) => (spfew_any s w1 (h.now hb.out) hz).mono fun e w' q => (show FewE s.rs e ∧ Bx2 w (.cells (row3 s) 25) (.cells (row3 t) 25) w' from ⟨q.1, hb.to q.2⟩))
  have HF2 := Lib.hid (fun w1 (hb : Bx2 w (.cells (row3 s) 25) (.cells (row3 t) 25) w1) => (spfew_any t w1 (h'.now hb.out) hz').mono fun e w' q => (show FewE t.rs e ∧ Bx2 w (.cells (row3 s) 25) (.cells (row3 t) 25) w' from ⟨q.1, hb.to q.2⟩))
  have HSM := Lib.hid (fun (hc : Sm s.rs) w1 (hb : Bx2 w (.cells (row3 s) 25) (.cells (row3 t) 25) w1) => (spsameLaw_any s t i c w1 (h.now hb.out) (h'.now hb.out) hc).mono fun e w' q => (show e = .returned (.bool true) ∧ Bx2 w (.cells (row3 s) 25) (.cells (row3 t) 25) w' from ⟨q.1, hb.to q.2⟩))
  clear h h' hz hz'
  go_enter Tryz.func3, Tryz.ntmps3
  go_wp2_with fail
  refine (HAW.out _ (Bx2.refl w _ _)).mono ?_
  rintro e w1 ⟨rfl, hb1⟩
  clear HAW
  obtain ⟨_, a0, a1, a2, d0, d1, d2⟩ := HB.out _ hb1
  go_wp2_with fail
  refine (HF1.out _ hb1).mono ?_
  rintro e w2 ⟨⟨b, rfl, hsm⟩, hb2⟩
  clear HF1 a0 a1 a2 d0 d1 d2
  have HS := Lib.hid hsm
  clear hsm
  obtain ⟨_, a0, a1, a2, d0, d1, d2⟩ := HB.out _ hb2
  cases b
  · go_wp2
    go_ret
    exact ⟨rfl, hb2.out⟩
  · go_wp2_with fail
    refine (HF2.out _ hb2).mono ?_
    rintro e w3 ⟨⟨b, rfl, hst⟩, hb3⟩
    clear HF2 a0 a1 a2 d0 d1 d2 hst
    obtain ⟨_, a0, a1, a2, d0, d1, d2⟩ := HB.out _ hb3
    cases b
    · go_wp2
      go_ret
      exact ⟨rfl, hb3.out⟩
    · go_wp2_with fail
      refine (HSM.out (HS.out (by first | rfl | trivial)) _ hb3).mono ?_
      rintro e w4 ⟨rfl, hb4⟩
      clear HSM a0 a1 a2 d0 d1 d2
      go_wp2
      go_ret
      exact ⟨rfl, hb4.out⟩
end Go.Proofs.YtnjplgfpnobicaaGreatDoor
