/- GlyphSums (layer 8): the width of boxes is the sum of the glyphs' widths and the kerns. For every input. -/
import Derived.Test.YtboophfcakdlcaaRows
import Derived.Test.YtboophfcakdlcaaGlSuLaw
import Derived.Test.YtboophfcakdlcaaDeepAid
import Derived.Test.YtboophfcakdlcaaLawAid
import Derived.Test.YtboophfcakdlcaaFtProofAid
import Derived.ProofKit
import Derived.SizedLaws
namespace Go.Proofs.Ytboophfcakdlcaa
open Go.ChangeShapes Go.WideShapes Go.ChangeAt Go.RowKit

set_option maxRecDepth 100000 in
theorem sums_lifted (os : Os) (started : os.Started) (H : Type) (enc : TypeId × Value → H) :
    ReturnsInHanded {} Try.checked os 8 .any (Rows.glyphSumsSpec.pre6 enc Try.prog Try.f8 Rows.glyphSumsRow.domain false) (Rows.glyphSumsSpec.post enc Try.prog Try.f8 false true false false) := by
  refine returnsInHanded_of_change_sized (C := Try.checked) own_knob started (by kernel_rfl) Try.func8
    (ChangeSpec.witness6 (enc := enc) (C := Try.checked) false ⟨#[], #[.string ⟨#[]⟩, .agg #[.int .i64 0, .int .i64 0, .bool false, .bool false]], []⟩ 8 (by kernel_rfl) (by kernel_rfl) (by kernel_rfl) (by kernel_rfl)) ?_
  intro W base args ds gs before hval0 hW _ hweights _
  have hval : ∀ (j : Nat) t v, Try.f8.params[j]? = some t → args[j]? = some v → Value.okWide Try.prog W .any base t v := hval0
  have hW' := hW
  obtain ⟨p, q, hA0, hV, rfl, _, _⟩ := hW
  have hA : DataW.TrodAll enc Try.prog W 0 (fun _ => true) true Try.f8.params.toList args.toList ds p := hA0
  rw [Try.params8] at hA hval hweights
  obtain ⟨v0, v1, d0, d1, p0, p1, rfl, rfl, rfl, h0, h1⟩ := trodAll_two hA
  have l1 : Light Try.prog 52 d1 := light_arg (j := 1) hweights rfl rfl
  obtain ⟨s, rfl, _, _, _⟩ := Go.ChangeMaps.open_string Try.underlying9 (hval 0 9 v0 rfl rfl) h0
  obtain ⟨cs, rfl, _⟩ := okWide_struct Try.underlying52 (hval 1 52 v1 rfl rfl)
  obtain ⟨fuel, hf⟩ := h1
  obtain ⟨hcl, hcf⟩ := cells_of_structL Try.underlying52 (by kernel_rfl) (by kernel_rfl) hf l1
  obtain ⟨u0, e0, q0⟩ := hcf 0 _ rfl
  obtain ⟨u1, e1, q1⟩ := hcf 1 _ rfl
  obtain ⟨u2, e2, q2⟩ := hcf 2 _ rfl
  obtain ⟨u3, e3, q3⟩ := hcf 3 _ rfl
  simp only [Value.cells] at hcl e0 e1 e2 e3
  have hcs : cs.toList = [u0, u1, u2, u3] := by
    apply List.ext_getElem?
    intro j
    match j with
    | 0 => exact e0
    | 1 => exact e1
    | 2 => exact e2
    | 3 => exact e3
    | j + 4 => rw [List.getElem?_eq_none (by rw [hcl]; show 4 ≤ j + 4; omega)]; rfl
  obtain rfl : cs = #[u0, u1, u2, u3] := Array.toList_inj.1 hcs
  obtain ⟨a, rfl, _⟩ := Reads.int Try.underlying3 q0.reads
  obtain ⟨b, rfl, _⟩ := Reads.int Try.underlying3 q1.reads
  obtain ⟨c, rfl⟩ := Reads.bool Try.underlying4 q2.reads
  obtain ⟨d, rfl⟩ := Reads.bool Try.underlying4 q3.reads
  have hlaw := law_sums s.data.toList a b c d W
  rw [mk8_of] at hlaw
  refine hlaw.mono fun e W' ⟨he, hk⟩ => ?_
  subst he
  exact ⟨_, rfl, law_post laid_out (tb := 4) rfl rfl Try.underlying4 (by kernel_rfl) rfl hW' hk⟩

theorem glyphSums_holds : Rows.GlyphSumsSaid :=
  OpenClaim.holds_of_wide 8 Try.f8 rfl rfl rfl rfl rfl rfl rfl ⟨rfl, rfl, rfl, rfl, rfl⟩ rfl rfl rfl rfl rfl (by kernel_rfl) Try.func8 (by kernel_rfl)
    (of_decide_eq_true (by kernel_rfl)) (by unfold Func.isWrapper; first | (rw [if_pos (by decide +kernel)]; kernel_rfl) | (rw [if_neg (by decide +kernel)]; exact ⟨rfl, rfl⟩))
    (fun os started H enc _ => sums_lifted os started H enc)
#print axioms glyphSums_holds
end Go.Proofs.Ytboophfcakdlcaa
