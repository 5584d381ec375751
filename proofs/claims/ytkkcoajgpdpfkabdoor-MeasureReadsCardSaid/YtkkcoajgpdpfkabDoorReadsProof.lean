/- MeasureReads (layer 1): a string is read as a number, as an expression, by its longest beginning, and as a change, as the document says, whatever bytes it has. For every input, the table 'operators' laid as the program's text lays it. -/
import Derived.Test.YtkkcoajgpdpfkabDoorRows
import Derived.Test.YtkkcoajgpdpfkabDoorTie
import Derived.Test.YtkkcoajgpdpfkabDoorCards
import Derived.Test.YtkkcoajgpdpfkabDoorReadsWalk
import Derived.Test.YtkkcoajgpdpfkabDoorMsLaid
import Derived.Test.YtkkcoajgpdpfkabDoorLawAid
import Derived.Test.YtkkcoajgpdpfkabDoorMsProofAid
import Derived.ProofKit
import Derived.LaidMore
import Derived.Lay
import Derived.MakeChecks
import Derived.SevenTiedAt
namespace Go.Proofs.YtkkcoajgpdpfkabDoor
open Go.ChangeShapes Go.WideShapes Go.ChangeAt Go.RowKit

set_option maxRecDepth 100000 in
theorem reads_lifted (os : Os) (started : os.Started) (H : Type) (enc : TypeId × Value → H) :
    ReturnsInHanded {} Tryd.checked os 3 .any (fun w args => (Rows.measureReadsSpec.pre enc Tryd.prog Tryd.f3 Rows.measureReadsRow.domain false w args ∧ laidMetH Tryd.prog opsLaid w) ∧ sizedMet enc Tryd.prog Tryd.f3 (OpenSpec.ofChange Rows.measureReadsSpec) false w args)
      (Rows.measureReadsSpec.post enc Tryd.prog Tryd.f3 false true false false) := by
  refine returnsInHanded_of_change_and (C := Tryd.checked) (X := fun w _ => laidMetH Tryd.prog opsLaid w) (fun _ _ _ hh h => h.of_heap hh) own_knob started (by kernel_rfl) Tryd.func3
    (ChangeSpec.witness_shaped (enc := enc) (C := Tryd.checked) (os := os) (X := fun w _ => laidMetH Tryd.prog opsLaid w) false (World.laidAll Tryd.prog os opsLaid) #[.string ⟨#[]⟩, .agg #[.int .i64 0, .int .i64 0, .int .i64 0], .int .i64 0] 8 (World.laidAll_os _ _ _)
      (World.shaped_of_ZipB (by kernel_rfl) (by kernel_rfl)) (by kernel_rfl) (by kernel_rfl) (by kernel_rfl)
      (by rw [MakeChecks.laidMetH_plain _ _ _ (by kernel_rfl)]; exact laidMet_laidAll _ (by kernel_rfl) (by kernel_rfl))) ?_
  intro W base args ds gs before hval0 hW _ _ hL _
  have hval : ∀ (j : Nat) t v, Tryd.f3.params[j]? = some t → args[j]? = some v → Value.okWide Tryd.prog W .any base t v := hval0
  have hW' := hW
  obtain ⟨p, q, hA0, hV, rfl, _, _⟩ := hW
  have hA : DataW.TrodAll enc Tryd.prog W 0 (fun _ => true) true Tryd.f3.params.toList args.toList ds p := hA0
  rw [Tryd.params3] at hA hval
  obtain ⟨v0, v1, v2, d0, d1, d2, p0, p1, p2, rfl, rfl, rfl, h0, h1, h2⟩ := trodAll_three hA
  obtain ⟨s, rfl, _, _, hs⟩ := Go.ChangeMaps.open_string Tryd.underlying9 (hval 0 9 v0 rfl rfl) h0
  obtain ⟨fs, hfs, hsz, hone, hty⟩ := ctx_fields
  obtain ⟨zs, hzl, rfl⟩ := ints_of hfs hone (by rw [ctx_cells, hsz]) (fun i f hf => by
    have := List.all_eq_true.1 hty f (Array.mem_toList_iff.2 (Array.mem_of_getElem? hf))
    rw [beq_iff_eq.1 this]; exact Tryd.underlying3) (hval 1 23 v1 rfl rfl) h1
  rw [hsz] at hzl
  obtain ⟨z, v, h, rfl⟩ := three_of hzl
  obtain ⟨n, rfl, _, _, _⟩ := open_int Tryd.underlying3 (hval 2 3 v2 rfl rfl) h2
  have ho := ops_of_laid hL
  refine (mreads_any s z v h n W ho ho.lt (by unfold maxLen at hs; omega)).mono fun e W' ⟨he, hk⟩ => ?_
  subst he
  exact ⟨_, rfl, law_post laid_out (tb := 4) rfl rfl Tryd.underlying4 (by kernel_rfl) rfl hW' hk⟩

theorem measureReads_holds : Rows.MeasureReadsSaid :=
  OpenClaim.holds_of_wide 3 Tryd.f3 rfl rfl rfl rfl rfl rfl rfl ⟨rfl, rfl, rfl, rfl, rfl⟩ rfl rfl rfl rfl rfl (by kernel_rfl) Tryd.func3 (by kernel_rfl)
    (of_decide_eq_true (by kernel_rfl)) (by unfold Func.isWrapper; first | (rw [if_pos (by decide +kernel)]; kernel_rfl) | (rw [if_neg (by decide +kernel)]; exact ⟨rfl, rfl⟩))
    (fun os started H enc _ => reads_lifted os started H enc)

theorem measureReads_card : Rows.MeasureReadsCardSaid :=
  Claim7.holds_tied_plain_at .later [] [.data] true Rows.measureReadsCard.stood.harness true
    measureReads_holds (fun _ h => by cases h) (by kernel_rfl) (fun _ h => by cases h) measureReads_row_tie rfl ⟨rfl, rfl⟩ (by kernel_rfl) rfl
    (fun f fn hf hfn => by
      obtain rfl : f = 3 := Option.some.inj ((show Tryd.prog.funcNamed "frisket/frisketlaw01.MeasureReads" = some 3 by kernel_rfl).symm.trans hf) |>.symm
      obtain rfl : fn = Tryd.f3 := (Option.some.inj (Tryd.func3.symm.trans hfn)).symm
      exact ⟨by kernel_rfl, fun j t ht => by
        rw [Tryd.params3] at ht
        have hm : t ∈ [9, 23, 3] := by simpa using Array.mem_of_getElem? ht
        have hall : ([9, 23, 3].all fun u => !Tryd.prog.wantsStandIn u) = true := by kernel_rfl
        exact (show Tryd.prog.wantsStandIn t = false by simpa using List.all_eq_true.1 hall t hm)⟩)
    (by kernel_rfl)
#print axioms measureReads_card
end Go.Proofs.YtkkcoajgpdpfkabDoor
