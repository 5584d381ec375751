/- MeasureSums (layer 1): a chain of + and - is the sum, and Prefix of an expression is all of it. For every input, the table 'operators' laid as the program's text lays it. -/
import Derived.Test.YtkkcoajgpdpfkabDoorRows
import Derived.Test.YtkkcoajgpdpfkabDoorTie
import Derived.Test.YtkkcoajgpdpfkabDoorCards
import Derived.Test.YtkkcoajgpdpfkabDoorMsSumsWalk
import Derived.Test.YtkkcoajgpdpfkabDoorMsLaid
import Derived.Test.YtkkcoajgpdpfkabDoorLawAid
import Derived.Test.YtkkcoajgpdpfkabDoorMsProofAid
import Derived.ProofKit
import Derived.LaidMore
import Derived.Lay
import Derived.MakeChecks
import Derived.SevenTiedAt
namespace Go.Proofs.YtkkcoajgpdpfkabDoor
open Go.ChangeShapes Go.WideShapes Go.ChangeAt Go.RowKit

set_option maxRecDepth 100000 in
theorem sums_lifted (os : Os) (started : os.Started) (H : Type) (enc : TypeId × Value → H) :
    ReturnsInHanded {} Tryd.checked os 7 .any (fun w args => (Rows.measureSumsSpec.pre enc Tryd.prog Tryd.f7 Rows.measureSumsRow.domain false w args ∧ laidMetH Tryd.prog opsLaid w) ∧ sizedMet enc Tryd.prog Tryd.f7 (OpenSpec.ofChange Rows.measureSumsSpec) false w args)
      (Rows.measureSumsSpec.post enc Tryd.prog Tryd.f7 false true false false) := by
  refine returnsInHanded_of_change_and (C := Tryd.checked) (X := fun w _ => laidMetH Tryd.prog opsLaid w) (fun _ _ _ hh h => h.of_heap hh) own_knob started (by kernel_rfl) Tryd.func7
    (ChangeSpec.witness_shaped (enc := enc) (C := Tryd.checked) (os := os) (X := fun w _ => laidMetH Tryd.prog opsLaid w) false (World.laidAll Tryd.prog os opsLaid) #[.slice none 0 0] 8 (World.laidAll_os _ _ _)
      (World.shaped_of_ZipB (by kernel_rfl) (by kernel_rfl)) (by kernel_rfl) (by kernel_rfl) (by kernel_rfl)
      (by rw [MakeChecks.laidMetH_plain _ _ _ (by kernel_rfl)]; exact laidMet_laidAll _ (by kernel_rfl) (by kernel_rfl))) ?_
  intro W base args ds gs before hval0 hW _ _ hL _
  have hval : ∀ (j : Nat) t v, Tryd.f7.params[j]? = some t → args[j]? = some v → Value.okWide Tryd.prog W .any base t v := hval0
  have hW' := hW
  obtain ⟨p, q, hA0, hV, rfl, _, _⟩ := hW
  have hA : DataW.TrodAll enc Tryd.prog W 0 (fun _ => true) true Tryd.f7.params.toList args.toList ds p := hA0
  rw [Tryd.params7] at hA hval
  obtain ⟨v0, d0, rfl, rfl, h0⟩ := trodAll_one hA
  obtain ⟨ao, len, cap, rfl, hi⟩ := ints_slice Tryd.underlying26 Tryd.underlying3 int_cells (hval 0 26 v0 rfl rfl) h0
  have ho := ops_of_laid hL
  have hw : Calls Tryd.prog 7 #[.slice ao len cap] W fun e w' => e = .returned (.bool true) ∧ Kept W w' := by
    by_cases hl : len ≤ 100
    · exact sums_any ao len cap hl W hi ho ho.lt
    · exact sums_long ao len cap (by omega) W ho ho.lt
  refine hw.mono fun e W' ⟨he, hk⟩ => ?_
  subst he
  exact ⟨_, rfl, law_post laid_out (tb := 4) rfl rfl Tryd.underlying4 (by kernel_rfl) rfl hW' hk⟩

theorem measureSums_holds : Rows.MeasureSumsSaid :=
  OpenClaim.holds_of_wide 7 Tryd.f7 rfl rfl rfl rfl rfl rfl rfl ⟨rfl, rfl, rfl, rfl, rfl⟩ rfl rfl rfl rfl rfl (by kernel_rfl) Tryd.func7 (by kernel_rfl)
    (of_decide_eq_true (by kernel_rfl)) (by unfold Func.isWrapper; first | (rw [if_pos (by decide +kernel)]; kernel_rfl) | (rw [if_neg (by decide +kernel)]; exact ⟨rfl, rfl⟩))
    (fun os started H enc _ => sums_lifted os started H enc)

theorem measureSums_card : Rows.MeasureSumsCardSaid :=
  Claim7.holds_tied_plain_at .later [] [.data] true Rows.measureSumsCard.stood.harness true
    measureSums_holds (fun _ h => by cases h) (by kernel_rfl) (fun _ h => by cases h) measureSums_row_tie rfl ⟨rfl, rfl⟩ (by kernel_rfl) rfl
    (fun f fn hf hfn => by
      obtain rfl : f = 7 := Option.some.inj ((show Tryd.prog.funcNamed "frisket/frisketlaw01.MeasureSums" = some 7 by kernel_rfl).symm.trans hf) |>.symm
      obtain rfl : fn = Tryd.f7 := (Option.some.inj (Tryd.func7.symm.trans hfn)).symm
      exact ⟨by kernel_rfl, fun j t ht => by
        rw [Tryd.params7] at ht
        have hm : t ∈ [26] := by simpa using Array.mem_of_getElem? ht
        have hall : ([26].all fun u => !Tryd.prog.wantsStandIn u) = true := by kernel_rfl
        exact (show Tryd.prog.wantsStandIn t = false by simpa using List.all_eq_true.1 hall t hm)⟩)
    (by kernel_rfl)
#print axioms measureSums_card
end Go.Proofs.YtkkcoajgpdpfkabDoor
