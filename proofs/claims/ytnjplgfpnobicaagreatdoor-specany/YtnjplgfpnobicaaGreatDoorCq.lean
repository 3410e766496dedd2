/- Contract of the landed code's Print of specifications. -/
import Derived.Test.YtnjplgfpnobicaaGreatDoorCp
import Derived.Test.YtnjplgfpnobicaaGreatDoorSk
namespace Go.Proofs.YtnjplgfpnobicaaGreatDoor
open Go.RowKit Go Go.Shelf
attribute [local go_sem] Oper.semAt_some
/-- The text of lines: each with its end. -/
def flatLn : List (List UInt8) → List UInt8
  | [] => []
  | x :: l => (x ++ [10]) ++ flatLn l
theorem flatLn_append : ∀ (l m : List (List UInt8)), flatLn (l ++ m) = flatLn l ++ flatLn m
  | [], m => rfl
  | x :: l, m => by show (x ++ [10]) ++ flatLn (l ++ m) = _; rw [flatLn_append l m]; simp [flatLn]
def textT (s : Sp) : List UInt8 := flatLn (linesT s)
theorem flat_len : ∀ (l : List Ln), (flatLn (l.map (·.1))).length ≤ l.length * 6000401
  | [] => by simp [flatLn]
  | x :: l => by
    have h1 := flat_len l
    have h2 := x.2
    show ((x.1 ++ ([10] : List UInt8)) ++ flatLn (l.map fun y : Ln => y.1)).length ≤ _
    simp only [List.length_append, List.length_cons, List.length_nil] at h1 ⊢
    omega
theorem isB_kept {B b : Nat} {bs : List Value} {W W' : World} {row : Option Nat} (h : Lib.IsBuilderF 67 5 B b bs W) (hg : W.grownBy W' row) (hr : ∀ r, row = some r → ∃ o : Obj, W.heap[r]? = some o ∧ o.isCells = false) : Lib.IsBuilderF 67 5 B b bs W' := by
  have key : ∀ p, Lib.BuilderAtF 67 5 B b p bs W → Lib.BuilderAtF 67 5 B b p bs W' := by
    rintro p ⟨hB, v, hb, hown, hne⟩
    refine ⟨hB, v, (hg.block b (lt_of_some hb) fun e => ?_).trans hb, hown.kept hg ?_, hne⟩
    · obtain ⟨o, ho, hc⟩ := hr b e.symm
      rw [hb] at ho; cases ho; cases hc
    · cases hv : v.ownBlock with
      | none => exact Or.inl rfl
      | some g =>
        refine Or.inr fun e => ?_
        obtain ⟨o, ho, hc⟩ := hr g e.symm
        obtain ⟨c, fz, hh⟩ := Lib.ownsRowF_kind hown g hv
        rw [hh] at ho; cases ho; cases hc
  exact h.imp (key _) (key _)
theorem keeps_of {b : Nat} {W W' : World} {p v : Value} {fr : Nat × Nat} (ho : Lib.OthersKept 5 (some b) W W') (hs : W.heap.size ≤ W'.heap.size) (hb : W.heap[b]? = some (.cells #[p, v] 67 fr)) : KeepsOthers W W' :=
  ⟨hs, fun k o hk hc => ho k o hk (fun e => by cases e; rw [hb] at hk; cases hk; cases hc) (fun c fz e => by rw [e] at hc; cases hc)⟩
theorem lines_any (s : Sp) (w : World) : Calls Tryz.prog 30 #[specV s] w fun e w' => e = .returned (.func (.func 55) #[] #[.pointer (some ⟨w.heap.size, 0, none⟩)]) ∧ w' = w.alloc (.cells (row3 s) 25) := by
  obtain ⟨⟨ka, kn, kc, kd⟩, dft, ⟨ra, rn, rc, rl⟩⟩ := s
  go_enter Tryz.func30, Tryz.ntmps30
  go_wp2
  go_ret
  exact ⟨rfl, rfl⟩
theorem lines_stops (m : Nat) (hm : 1 ≤ m) (s : Sp) (n₀ Bn : Nat) (w0 : World) (hBn : w0.heap[Bn]? = some (.cells (row3 s) 25 (0, 0))) (hC : CsIn w0 n₀ s.cs) (hR : RsIn w0 n₀ s.rs) (hn0 : n₀ ≤ w0.heap.size) (hs : specB s = true) (hSm : Sm s.rs) :
    SeqStopsK Fence.wide m Tryz.prog 55 #[.pointer (some ⟨Bn, 0, none⟩)] lnV (KpB n₀ Bn) (fun xs => xs.map (·.1) = linesT s) (fun _ => True) (linesT s).length w0 := by
  intro l J Jx W hW hJ _ hY h0
  refine (lines1_in m hm l Bn n₀ s J Jx W hJ hY ((hW.block _ (lt_of_some hBn)).trans hBn) (hC.below (hW.mono hn0)) (hR.below (hW.mono hn0)) (Nat.le_trans hn0 hW.size) hs hSm h0).mono ?_
  rintro e W' ⟨h1, h2 | ⟨pre, h2⟩⟩
  · exact ⟨h1, Or.inl h2⟩
  · exact ⟨h1, Or.inr ⟨pre, trivial, h2⟩⟩
/-- What Print tells. -/
def spprintV (s : Sp) : Value := if specB s = true then .tuple #[strV (textT s), .int .i64 0] else .tuple #[.string ⟨#[]⟩, .int .i64 1]
set_option maxRecDepth 100000 in
set_option maxHeartbeats 4000000 in
theorem spprint_any (s : Sp) (w : World) (h : SpIn w s) (hc : Sm s.rs) : Calls Tryz.prog 15 #[specV s] w fun e w' => e = .returned (spprintV s) ∧ Below w.heap.size w w' := by
  have HRI : Hid (∀ o w1, Bx w o w1 → Calls Tryz.prog 12 #[specV s] w1 fun e w' => e = .returned (.bool (specB s)) ∧ Bx w o w') := Lib.hid fun o w1 hb => (spright_any s w1 (h.now hb.out) hc).mono fun e w' q => ⟨q.1, hb.to q.2⟩
  refine (callsIn_wide (n := 3)).1 ?_
  refine callsIn_of_wp_marks Tryz.func15 rfl trivial ?_ rfl
  simp only [Tryz.ntmps15, List.size_toArray, List.length_cons, List.length_nil, Nat.reduceAdd, Nat.reduceSub, Array.replicate_succ, Array.replicate_zero, List.push_toArray, List.append_toArray, List.nil_append, List.cons_append]
  have HLI : Hid (∀ w1, Calls Tryz.prog 30 #[specV s] w1 fun e w' => e = .returned (.func (.func 55) #[] #[.pointer (some ⟨w1.heap.size, 0, none⟩)]) ∧ w' = w1.alloc (.cells (row3 s) 25)) := Lib.hid fun w1 => lines_any s w1
  obtain ⟨b0, hb0⟩ : ∃ x, x = specB s := ⟨_, rfl⟩
  rw [← hb0] at HRI
  unfold spprintV
  rw [← hb0]
  have HB0 := Lib.hid hb0
  clear hb0
  cases b0
  · clear HB0
    gi_wp2_with (first | (refine ⟨trivial, ?_⟩; gi_at_call 12; refine (callsIn_wide.2 (HRI.out _ _ (Bx.refl _ _))).mono ?_; rintro e w1 ⟨rfl, hb1⟩))
    exact ⟨_, results_tmp2 rfl _ _ _, rfl, hb1.out⟩
  · have HSM := Lib.hid hc
    have HSP := Lib.hid h
    clear h hc
    obtain ⟨⟨ka, kn, kc, kd⟩, dft, ⟨ra, rn, rc, rl⟩⟩ := s
    gi_wp2_with (first
      | (refine ⟨trivial, ?_⟩; gi_at_call 12; refine (callsIn_wide.2 (HRI.out _ _ (Bx.refl _ _))).mono ?_; rintro e w1 ⟨rfl, hb1⟩; obtain ⟨c0, c1, c2⟩ := cell3 (s := ⟨⟨ka, kn, kc, kd⟩, dft, ⟨ra, rn, rc, rl⟩⟩) (box_kept hb1); have e0 := fun o => (cell3 (s := ⟨⟨ka, kn, kc, kd⟩, dft, ⟨ra, rn, rc, rl⟩⟩) (box_kept (Bx.to hb1 (alloc_below w1 o)))))
      | (refine ⟨trivial, ?_⟩; gi_at_call 30; refine (callsIn_wide.2 (HLI.out _)).mono ?_; rintro e w2 ⟨rfl, rfl⟩))
    obtain ⟨W0, hW0⟩ : ∃ W0, W0 = (w1.alloc (.cells #[.pointer none, .slice none 0 0] 67)).alloc (.cells (row3 ⟨⟨ka, kn, kc, kd⟩, dft, ⟨ra, rn, rc, rl⟩⟩) 25) := ⟨_, rfl⟩
    have hBn : W0.heap[w1.heap.size + 1]? = some (.cells (row3 ⟨⟨ka, kn, kc, kd⟩, dft, ⟨ra, rn, rc, rl⟩⟩) 25 (0, 0)) := by rw [hW0]; exact (Bx2.refl w1 _ _).two
    have hbu : W0.heap[w1.heap.size]? = some (.cells #[.pointer none, .slice none 0 0] 67 (0, 0)) := by rw [hW0]; exact (Bx2.refl w1 _ _).one
    have hsz : W0.heap.size = w1.heap.size + 2 := by rw [hW0]; simp
    have hbW : Below w.heap.size w W0 := by rw [hW0]; exact hb1.out.trans ((alloc2_below w1 _ _).mono hb1.out.size)
    have hsw := hb1.out.size
    have HI0 : Lib.IsBuilderF 67 5 w1.heap.size w1.heap.size (Lib.byteCells []) W0 := Or.inl ⟨Nat.le_refl _, .slice none 0 0, hbu, World.ownsRowF_nil _ _ _ _, by simp [Value.ownBlock]⟩
    have hIo : OwnFrom W0.heap.size (fun (pre : List Ln) W => Lib.IsBuilderF 67 5 w1.heap.size w1.heap.size (Lib.byteCells (flatLn (pre.map (·.1)))) W ∧ Below w.heap.size w W ∧ W.heap[w1.heap.size + 1]? = some (.cells (row3 ⟨⟨ka, kn, kc, kd⟩, dft, ⟨ra, rn, rc, rl⟩⟩) 25 (0, 0))) := fun s A B row hs hg hr => ⟨isB_kept hs.1 hg (fun r e => (hr r e).2), (ownFrom_below (β := List Ln) (n₀ := w.heap.size) (B := W0.heap.size) (w₀ := w) (Nat.le_refl _) (by omega)) s A B row hs.2.1 hg hr, (hg.block _ (lt_of_some hs.2.2) fun e => by obtain ⟨_, o, ho, hc⟩ := hr _ e.symm; rw [hs.2.2] at ho; cases ho; cases hc).trans hs.2.2⟩
    clear c0 c1 c2 e0 hb1
    try rw [← hW0]
    refine wpIn_rangeFunc_ownF rfl (by omega) (gf := 55) (lb := #[.pointer (some ⟨w1.heap.size + 1, 0, none⟩)]) rfl trivial (enters_of Tryz.func55 (by kernel_rfl) rfl)
      (lines_stops 2 (by omega) ⟨⟨ka, kn, kc, kd⟩, dft, ⟨ra, rn, rc, rl⟩⟩ w.heap.size (w1.heap.size + 1) W0 hBn (HSP.out.1.below hbW) (HSP.out.2.below hbW) (by omega) HB0.out.symm HSM.out)
      KpB.trans ?kb (Below.refl _ _) (fun _ => rfl)
      (fun pre W => Lib.IsBuilderF 67 5 w1.heap.size w1.heap.size (Lib.byteCells (flatLn (pre.map (·.1)))) W ∧ Below w.heap.size w W ∧ W.heap[w1.heap.size + 1]? = some (.cells (row3 ⟨⟨ka, kn, kc, kd⟩, dft, ⟨ra, rn, rc, rl⟩⟩) 25 (0, 0))) (fun _ _ _ => False)
      hIo (fun _ _ _ _ _ h _ _ => h) ⟨HI0, hbW, hBn⟩
      (fun x => { tmps := #[specV ⟨⟨ka, kn, kc, kd⟩, dft, ⟨ra, rn, rc, rl⟩⟩, .pointer (some ⟨w.heap.size, 0, none⟩), .string ⟨#[]⟩, .int .i64 0, .pointer (some ⟨w1.heap.size, 0, none⟩), .string ⟨x.1.toArray⟩, .agg #[.slice ka kn kc, .bool dft, .slice ra rn rc], .bool true, .bool false, .agg #[.slice ka kn kc, .bool dft, .slice ra rn rc], .func (.func 55) #[] #[.pointer (some ⟨w1.heap.size + 1, 0, none⟩)], .string ⟨x.1.toArray⟩, undef, undef, undef, undef], defers := [] }) ?assign ?body ?done ?stop
    case kb => intro W l o o' hl hh hc hw; exact ⟨belowK_b (w := W0) (by omega) W l o o' hl hh hc hw, World.putObj_heap_other (by omega)⟩
    case assign =>
      intro l x W K hK
      dsimp only [lnV]
      gi_wp2
      exact hK
    case body =>
      rintro l pre x W ⟨hB, hbel, hbn⟩ hlen
      have hp := spec_parts HB0.out.symm
      have hl58 : (linesT ⟨⟨ka, kn, kc, kd⟩, dft, ⟨ra, rn, rc, rl⟩⟩).length ≤ 60 := by
        have h1 := hp.2.1
        have h2 := hp.2.2.2.1
        dsimp only at h1 h2
        unfold linesT condLs ruleLs dftLs
        simp only [List.length_append, List.length_map, List.length_range, List.length_cons, List.length_nil]
        split <;> simp <;> omega
      have hfl := flat_len pre
      have hx := x.2
      have hp60 : pre.length * 6000401 ≤ 60 * 6000401 := Nat.mul_le_mul_right _ (by omega)
      obtain ⟨p, v, hpv⟩ : ∃ p v, W.heap[w1.heap.size]? = some (.cells #[p, v] 67 (0, 0)) := by
        rcases hB with ⟨_, v, q, _⟩ | ⟨_, v, q, _⟩
        · exact ⟨_, _, q⟩
        · exact ⟨_, _, q⟩
      have HWS := Lib.hid (Tryz.Builder_WriteString_k w1.heap.size w1.heap.size _ ⟨x.1.toArray⟩ W hB (by rw [Lib.byteCells_length]; show _ + x.1.toArray.size ≤ _; rw [List.size_toArray]; omega) (by have := lt_of_some hpv; omega))
      have HWB := Lib.hid (fun W2 (hB2 : Lib.BuilderAtF 67 5 w1.heap.size w1.heap.size (.pointer (some ⟨w1.heap.size, 0, none⟩)) (Lib.byteCells (flatLn (pre.map fun y : Ln => y.1)) ++ Lib.strCells ⟨x.1.toArray⟩) W2) => Tryz.Builder_WriteByte_k w1.heap.size w1.heap.size _ 10 W2 (Or.inr hB2) (by rw [List.length_append, Lib.byteCells_length, Lib.strCells_length]; show _ + x.1.toArray.size + 1 ≤ _; rw [List.size_toArray]; omega) (by have := hB2.lt; omega))
      gi_wp2_with (first
        | (refine ⟨trivial, ?_⟩; gi_at_call 31; refine (CallsIn.inRound l (callsIn_wide.2 HWS.out)).mono ?_; rintro e W2 ⟨rfl, hB2, hb2, ho2⟩)
        | (refine ⟨trivial, ?_⟩; gi_at_call 32; refine (CallsIn.inRound l (callsIn_wide.2 (HWB.out W2 hB2))).mono ?_; rintro e W3 ⟨rfl, hB3, hb3, ho3⟩))
      obtain ⟨_, v2, hpv2, _⟩ := id hB2
      have hbn2 := ho2 _ _ hbn (fun e => by have := Option.some.inj e; omega) (fun c fz e => by cases e)
      have hbn3 := ho3 _ _ hbn2 (fun e => by have := Option.some.inj e; omega) (fun c fz e => by cases e)
      have hcl : (Lib.byteCells (flatLn (pre.map fun y : Ln => y.1)) ++ Lib.strCells ⟨x.1.toArray⟩) ++ [Value.int .u8 10] = Lib.byteCells (flatLn ((pre ++ [x]).map fun y : Ln => y.1)) := by rw [List.map_append, flatLn_append]; simp [Lib.byteCells, Lib.strCells, flatLn]
      rw [hcl] at hB3
      have hbb : Below w.heap.size W W3 := (hb2.mono (by omega)).trans (hb3.mono (by omega))
      exact ⟨(keeps_of ho2 hb2.size hpv).trans (keeps_of ho3 hb3.size hpv2), ⟨hbb, hbn3.trans hbn.symm⟩, Or.inr hB3, hbel.trans hbb, hbn3⟩
    case done =>
      rintro D ys W hD hS ⟨hB, hbel, hbn⟩ hK
      obtain ⟨p, v, hpv⟩ : ∃ p v, W.heap[w1.heap.size]? = some (.cells #[p, v] 67 (0, 0)) := by
        rcases hB with ⟨_, v, q, _⟩ | ⟨_, v, q, _⟩
        · exact ⟨_, _, q⟩
        · exact ⟨_, _, q⟩
      have hS' : flatLn (ys.map fun y : Ln => y.1) = textT ⟨⟨ka, kn, kc, kd⟩, dft, ⟨ra, rn, rc, rl⟩⟩ := by unfold textT; rw [← hS]
      rw [hS'] at hB
      have HST := Lib.hid (Tryz.Builder_String_any_k w1.heap.size w1.heap.size (textT ⟨⟨ka, kn, kc, kd⟩, dft, ⟨ra, rn, rc, rl⟩⟩) W hB (by have := lt_of_some hpv; omega))
      obtain ⟨TX, hTX⟩ : ∃ T, T = textT ⟨⟨ka, kn, kc, kd⟩, dft, ⟨ra, rn, rc, rl⟩⟩ := ⟨_, rfl⟩
      rw [← hTX] at HST
      have HTX := Lib.hid hTX
      clear hTX hB hS hS'
      gi_wp2_with (first | (refine ⟨trivial, ?_⟩; gi_at_call 33; refine (callsIn_wide.2 HST.out).mono ?_; rintro e W2 ⟨rfl, hB2, hb2, ho2⟩))
      have hK2 := ho2 _ _ hK (fun e => by have := Option.some.inj e; rw [this, hpv] at hK; cases hK) (fun c fz e => by cases e)
      refine ⟨by simp, .inl ⟨_, _, rfl, run_takeDeferred hK2, ?_⟩⟩
      exact ⟨_, results_tmp2 rfl _ _ _, (by rw [← HTX.out]; rfl), (hbel.trans (hb2.mono (by omega))).trans (belowK_b (w := w) (Nat.le_refl _) W2 D _ _ (by omega) hK2 rfl rfl)⟩
    case stop =>
      rintro D c pre W _ _ h _
      exact h.elim
end Go.Proofs.YtnjplgfpnobicaaGreatDoor
