/- MeasureBack (layer 1): what Text writes in units and points is reckoned as the number again. For every input; the table 'operators' and the library's listed tables laid as the program's text lays them. -/
import Derived.Test.YtkkcoajgpdpfkabDoorRows
import Derived.Test.YtkkcoajgpdpfkabDoorTie
import Derived.Test.YtkkcoajgpdpfkabDoorCards
import Derived.Test.YtkkcoajgpdpfkabDoorBackWalk
import Derived.Test.YtkkcoajgpdpfkabDoorTxLaid
import Derived.Test.YtkkcoajgpdpfkabDoorLawAid
import Derived.Test.YtkkcoajgpdpfkabDoorMsProofAid
import Derived.ProofKit
import Derived.LaidMore
import Derived.Lay
import Derived.MakeChecks
import Derived.SevenTiedAt
namespace Go.Proofs.YtkkcoajgpdpfkabDoor
open Go.ChangeShapes Go.WideShapes Go.ChangeAt Go.RowKit

set_option maxRecDepth 100000 in
theorem back_lifted (os : Os) (started : os.Started) (H : Type) (enc : TypeId × Value → H) :
    ReturnsInHanded {} Tryd.checked os 6 .any (fun w args => (Rows.measureBackSpec.pre enc Tryd.prog Tryd.f6 Rows.measureBackRow.domain false w args ∧ laidMetH Tryd.prog txLaid w) ∧ sizedMet enc Tryd.prog Tryd.f6 (OpenSpec.ofChange Rows.measureBackSpec) false w args)
      (Rows.measureBackSpec.post enc Tryd.prog Tryd.f6 false true false false) := by
  refine returnsInHanded_of_change_and (C := Tryd.checked) (X := fun w _ => laidMetH Tryd.prog txLaid w) (fun _ _ _ hh h => h.of_heap hh) own_knob started (by kernel_rfl) Tryd.func6
    (ChangeSpec.witness_shaped (enc := enc) (C := Tryd.checked) (os := os) (X := fun w _ => laidMetH Tryd.prog txLaid w) false (World.laidAll Tryd.prog os txLaid) #[.int .i64 0, .agg #[.int .i64 0, .int .i64 0, .int .i64 0]] 8 (World.laidAll_os _ _ _)
      (World.shaped_of_ZipB (by kernel_rfl) (by kernel_rfl)) (by kernel_rfl) (by kernel_rfl) (by kernel_rfl)
      (by rw [MakeChecks.laidMetH_plain _ _ _ (by kernel_rfl)]; exact laidMet_laidAll _ (by kernel_rfl) (by kernel_rfl))) ?_
  intro W base args ds gs before hval0 hW _ _ hL _
  have hval : ∀ (j : Nat) t v, Tryd.f6.params[j]? = some t → args[j]? = some v → Value.okWide Tryd.prog W .any base t v := hval0
  have hW' := hW
  obtain ⟨p, q, hA0, hV, rfl, _, _⟩ := hW
  have hA : DataW.TrodAll enc Tryd.prog W 0 (fun _ => true) true Tryd.f6.params.toList args.toList ds p := hA0
  rw [Tryd.params6] at hA hval
  obtain ⟨v0, v1, d0, d1, p0, p1, rfl, rfl, rfl, h0, h1⟩ := trodAll_two hA
  obtain ⟨n, rfl, _, _, _⟩ := open_int Tryd.underlying3 (hval 0 3 v0 rfl rfl) h0
  obtain ⟨fs, hfs, hsz, hone, hty⟩ := ctx_fields
  obtain ⟨zs, hzl, rfl⟩ := ints_of hfs hone (by rw [ctx_cells, hsz]) (fun i f hf => by
    have := List.all_eq_true.1 hty f (Array.mem_toList_iff.2 (Array.mem_of_getElem? hf))
    rw [beq_iff_eq.1 this]; exact Tryd.underlying3) (hval 1 23 v1 rfl rfl) h1
  rw [hsz] at hzl
  obtain ⟨z, v, h, rfl⟩ := three_of hzl
  obtain ⟨ho, hp⟩ := tx_of_laid hL
  refine (back_law n z v h W ho ho.lt hp).mono fun e W' ⟨he, hk⟩ => ?_
  subst he
  exact ⟨_, rfl, law_post laid_out (tb := 4) rfl rfl Tryd.underlying4 (by kernel_rfl) rfl hW' hk⟩

theorem measureBack_holds : Rows.MeasureBackSaid :=
  OpenClaim.holds_of_wide 6 Tryd.f6 rfl rfl rfl rfl rfl rfl rfl ⟨rfl, rfl, rfl, rfl, rfl⟩ rfl rfl rfl rfl rfl (by kernel_rfl) Tryd.func6 (by kernel_rfl)
    (of_decide_eq_true (by kernel_rfl)) (by unfold Func.isWrapper; first | (rw [if_pos (by decide +kernel)]; kernel_rfl) | (rw [if_neg (by decide +kernel)]; exact ⟨rfl, rfl⟩))
    (fun os started H enc _ => back_lifted os started H enc)

theorem measureBack_card : Rows.MeasureBackCardSaid :=
  Claim7.holds_tied_plain_at .later [] [.data, .data, .data, .data, .data, .pinned] true Rows.measureBackCard.stood.harness true
    measureBack_holds (fun _ h => by cases h) (by kernel_rfl) (fun _ h => by cases h) measureBack_row_tie rfl ⟨rfl, rfl⟩ (by kernel_rfl) rfl
    (fun f fn hf hfn => by
      obtain rfl : f = 6 := Option.some.inj ((show Tryd.prog.funcNamed "frisket/frisketlaw01.MeasureBack" = some 6 by kernel_rfl).symm.trans hf) |>.symm
      obtain rfl : fn = Tryd.f6 := (Option.some.inj (Tryd.func6.symm.trans hfn)).symm
      exact ⟨by kernel_rfl, fun j t ht => by
        rw [Tryd.params6] at ht
        have hm : t ∈ [3, 23] := by simpa using Array.mem_of_getElem? ht
        have hall : ([3, 23].all fun u => !Tryd.prog.wantsStandIn u) = true := by kernel_rfl
        exact (show Tryd.prog.wantsStandIn t = false by simpa using List.all_eq_true.1 hall t hm)⟩)
    (by kernel_rfl)
#print axioms measureBack_card
end Go.Proofs.YtkkcoajgpdpfkabDoor
