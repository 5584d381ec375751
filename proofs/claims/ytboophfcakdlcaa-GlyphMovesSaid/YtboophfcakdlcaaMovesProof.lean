/- GlyphMoves (layer 8): glyphs without ligatures and kerns, set in one size and then in another one, are as set in that. For every input. -/
import Derived.Test.YtboophfcakdlcaaRows
import Derived.Test.YtboophfcakdlcaaGlMvLaw
import Derived.Test.YtboophfcakdlcaaDeepAid
import Derived.Test.YtboophfcakdlcaaLawAid
import Derived.Test.YtboophfcakdlcaaFtProofAid
import Derived.ProofKit
import Derived.SizedLaws
namespace Go.Proofs.Ytboophfcakdlcaa
open Go.ChangeShapes Go.WideShapes Go.ChangeAt Go.RowKit Go.Deep

theorem Reads.u8 {H : Type} {enc : TypeId × Value → H} {P : Program} {w : World} {base : Nat} {spare : Nat → Bool} {held : Bool} {t : TypeId} {v : Value} (ht : P.underlying t = some (.int .u8)) (h : Reads enc P w base spare held t v) : ∃ z : Int, v = .int .u8 z ∧ 0 ≤ z ∧ z ≤ 255 := by
  obtain ⟨n, y, hy⟩ := h
  obtain ⟨z, hz, _, hw⟩ := DataW.trod_int ht hy
  simp [Lit.wf, IntKind.min, IntKind.max, IntKind.bits, IntKind.signed] at hw
  exact ⟨z, (List.cons.inj hz).1, by omega⟩
theorem reach_18 : reachBytes ≤ 1000000000000000000 := by decide
set_option maxRecDepth 100000 in
theorem moves_lifted (os : Os) (started : os.Started) (H : Type) (enc : TypeId × Value → H) :
    ReturnsInHanded {} Try.checked os 6 .any (Rows.glyphMovesSpec.pre6 enc Try.prog Try.f6 Rows.glyphMovesRow.domain false) (Rows.glyphMovesSpec.post enc Try.prog Try.f6 false true false false) := by
  refine returnsInHanded_of_change_sized (C := Try.checked) own_knob started (by kernel_rfl) Try.func6
    (ChangeSpec.witness6 (enc := enc) (C := Try.checked) false ⟨#[], #[.agg #[.string ⟨#[]⟩, .int .u8 0, .int .u8 0, .int .u8 0]], []⟩ 8 (by kernel_rfl) (by kernel_rfl) (by kernel_rfl) (by kernel_rfl)) ?_
  intro W base args ds gs before hval0 hW _ hweights _
  have hval : ∀ (j : Nat) t v, Try.f6.params[j]? = some t → args[j]? = some v → Value.okWide Try.prog W .any base t v := hval0
  have hW' := hW
  obtain ⟨p, q, hA0, hV, rfl, _, _⟩ := hW
  have hA : DataW.TrodAll enc Try.prog W 0 (fun _ => true) true Try.f6.params.toList args.toList ds p := hA0
  rw [Try.params6] at hA hval hweights
  obtain ⟨v0, d0, rfl, rfl, h0⟩ := trodAll_one hA
  have l0 : Light Try.prog 50 d0 := light_arg (j := 0) hweights rfl rfl
  obtain ⟨cs, rfl, _⟩ := okWide_struct Try.underlying50 (hval 0 50 _ rfl rfl)
  obtain ⟨fuel, hf⟩ := h0
  obtain ⟨hcl, hcf⟩ := cells_of_structL Try.underlying50 (by kernel_rfl) (by kernel_rfl) hf l0
  obtain ⟨u0, e0, q0⟩ := hcf 0 _ rfl
  obtain ⟨u1, e1, q1⟩ := hcf 1 _ rfl
  obtain ⟨u2, e2, q2⟩ := hcf 2 _ rfl
  obtain ⟨u3, e3, q3⟩ := hcf 3 _ rfl
  simp only [Value.cells] at hcl e0 e1 e2 e3
  have hcs : cs.toList = [u0, u1, u2, u3] := by
    apply List.ext_getElem?
    intro j
    match j with
    | 0 => exact e0
    | 1 => exact e1
    | 2 => exact e2
    | 3 => exact e3
    | j + 4 => rw [List.getElem?_eq_none (by rw [hcl]; show 4 ≤ j + 4; omega)]; rfl
  obtain rfl : cs = #[u0, u1, u2, u3] := Array.toList_inj.1 hcs
  obtain ⟨s, rfl, hs⟩ := ReadsL.string Try.underlying9 q0
  obtain ⟨a, rfl, a0, a1⟩ := Reads.u8 Try.underlying5 q1.reads
  obtain ⟨b, rfl, b0, b1⟩ := Reads.u8 Try.underlying5 q2.reads
  obtain ⟨c, rfl, c0, c1⟩ := Reads.u8 Try.underlying5 q3.reads
  have hlaw := law_moves s.data.toList a b c a0 a1 b0 b1 c0 c1 (by rw [← mk8_size, mk8_of]; exact Nat.le_trans hs reach_18) W
  rw [mk8_of] at hlaw
  refine hlaw.mono fun e W' ⟨he, hk⟩ => ?_
  subst he
  exact ⟨_, rfl, law_post laid_out (tb := 4) rfl rfl Try.underlying4 (by kernel_rfl) rfl hW' hk⟩

theorem glyphMoves_holds : Rows.GlyphMovesSaid :=
  OpenClaim.holds_of_wide 6 Try.f6 rfl rfl rfl rfl rfl rfl rfl ⟨rfl, rfl, rfl, rfl, rfl⟩ rfl rfl rfl rfl rfl (by kernel_rfl) Try.func6 (by kernel_rfl)
    (of_decide_eq_true (by kernel_rfl)) (by unfold Func.isWrapper; first | (rw [if_pos (by decide +kernel)]; kernel_rfl) | (rw [if_neg (by decide +kernel)]; exact ⟨rfl, rfl⟩))
    (fun os started H enc _ => moves_lifted os started H enc)
#print axioms glyphMoves_holds
end Go.Proofs.Ytboophfcakdlcaa
