/- MeasureBits (layer 1): strings that are made of bits of expressions are read as a number, as an expression, by their longest beginning, and as a change, as the document says. For every input, the table 'operators' laid as the program's text lays it. -/
import Derived.Test.YtkkcoajgpdpfkabDoorRows
import Derived.Test.YtkkcoajgpdpfkabDoorTie
import Derived.Test.YtkkcoajgpdpfkabDoorCards
import Derived.Test.YtkkcoajgpdpfkabDoorBitsWalk
import Derived.Test.YtkkcoajgpdpfkabDoorMsLaid
import Derived.Test.YtkkcoajgpdpfkabDoorLawAid
import Derived.Test.YtkkcoajgpdpfkabDoorMsProofAid
import Derived.ProofKit
import Derived.LaidMore
import Derived.Lay
import Derived.MakeChecks
import Derived.SevenTiedAt
namespace Go.Proofs.YtkkcoajgpdpfkabDoor
open Go.ChangeShapes Go.WideShapes Go.ChangeAt Go.RowKit

set_option maxRecDepth 100000 in
theorem bits_lifted (os : Os) (started : os.Started) (H : Type) (enc : TypeId × Value → H) :
    ReturnsInHanded {} Tryd.checked os 4 .any (fun w args => (Rows.measureBitsSpec.pre enc Tryd.prog Tryd.f4 Rows.measureBitsRow.domain false w args ∧ laidMetH Tryd.prog opsLaid w) ∧ sizedMet enc Tryd.prog Tryd.f4 (OpenSpec.ofChange Rows.measureBitsSpec) false w args)
      (Rows.measureBitsSpec.post enc Tryd.prog Tryd.f4 false true false false) := by
  refine returnsInHanded_of_change_and (C := Tryd.checked) (X := fun w _ => laidMetH Tryd.prog opsLaid w) (fun _ _ _ hh h => h.of_heap hh) own_knob started (by kernel_rfl) Tryd.func4
    (ChangeSpec.witness_shaped (enc := enc) (C := Tryd.checked) (os := os) (X := fun w _ => laidMetH Tryd.prog opsLaid w) false (World.laidAll Tryd.prog os opsLaid) #[.slice none 0 0, .agg #[.int .i64 0, .int .i64 0, .int .i64 0], .int .i64 0] 8 (World.laidAll_os _ _ _)
      (World.shaped_of_ZipB (by kernel_rfl) (by kernel_rfl)) (by kernel_rfl) (by kernel_rfl) (by kernel_rfl)
      (by rw [MakeChecks.laidMetH_plain _ _ _ (by kernel_rfl)]; exact laidMet_laidAll _ (by kernel_rfl) (by kernel_rfl))) ?_
  intro W base args ds gs before hval0 hW _ _ hL _
  have hval : ∀ (j : Nat) t v, Tryd.f4.params[j]? = some t → args[j]? = some v → Value.okWide Tryd.prog W .any base t v := hval0
  have hW' := hW
  obtain ⟨p, q, hA0, hV, rfl, _, _⟩ := hW
  have hA : DataW.TrodAll enc Tryd.prog W 0 (fun _ => true) true Tryd.f4.params.toList args.toList ds p := hA0
  rw [Tryd.params4] at hA hval
  obtain ⟨v0, v1, v2, d0, d1, d2, p0, p1, p2, rfl, rfl, rfl, h0, h1, h2⟩ := trodAll_three hA
  obtain ⟨ao, len, cap, rfl, hi⟩ := ints_slice Tryd.underlying26 Tryd.underlying3 int_cells (hval 0 26 v0 rfl rfl) h0
  obtain ⟨fs, hfs, hsz, hone, hty⟩ := ctx_fields
  obtain ⟨zs, hzl, rfl⟩ := ints_of hfs hone (by rw [ctx_cells, hsz]) (fun i f hf => by
    have := List.all_eq_true.1 hty f (Array.mem_toList_iff.2 (Array.mem_of_getElem? hf))
    rw [beq_iff_eq.1 this]; exact Tryd.underlying3) (hval 1 23 v1 rfl rfl) h1
  rw [hsz] at hzl
  obtain ⟨z, v, h, rfl⟩ := three_of hzl
  obtain ⟨n, rfl, _, _, _⟩ := open_int Tryd.underlying3 (hval 2 3 v2 rfl rfl) h2
  have ho := ops_of_laid hL
  refine (bitslaw_any ao len cap z v h n W hi ho ho.lt).mono fun e W' ⟨he, hk⟩ => ?_
  subst he
  exact ⟨_, rfl, law_post laid_out (tb := 4) rfl rfl Tryd.underlying4 (by kernel_rfl) rfl hW' hk⟩

theorem measureBits_holds : Rows.MeasureBitsSaid :=
  OpenClaim.holds_of_wide 4 Tryd.f4 rfl rfl rfl rfl rfl rfl rfl ⟨rfl, rfl, rfl, rfl, rfl⟩ rfl rfl rfl rfl rfl (by kernel_rfl) Tryd.func4 (by kernel_rfl)
    (of_decide_eq_true (by kernel_rfl)) (by unfold Func.isWrapper; first | (rw [if_pos (by decide +kernel)]; kernel_rfl) | (rw [if_neg (by decide +kernel)]; exact ⟨rfl, rfl⟩))
    (fun os started H enc _ => bits_lifted os started H enc)

theorem measureBits_card : Rows.MeasureBitsCardSaid :=
  Claim7.holds_tied_plain_at .later [] [.data] true Rows.measureBitsCard.stood.harness true
    measureBits_holds (fun _ h => by cases h) (by kernel_rfl) (fun _ h => by cases h) measureBits_row_tie rfl ⟨rfl, rfl⟩ (by kernel_rfl) rfl
    (fun f fn hf hfn => by
      obtain rfl : f = 4 := Option.some.inj ((show Tryd.prog.funcNamed "frisket/frisketlaw01.MeasureBits" = some 4 by kernel_rfl).symm.trans hf) |>.symm
      obtain rfl : fn = Tryd.f4 := (Option.some.inj (Tryd.func4.symm.trans hfn)).symm
      exact ⟨by kernel_rfl, fun j t ht => by
        rw [Tryd.params4] at ht
        have hm : t ∈ [26, 23, 3] := by simpa using Array.mem_of_getElem? ht
        have hall : ([26, 23, 3].all fun u => !Tryd.prog.wantsStandIn u) = true := by kernel_rfl
        exact (show Tryd.prog.wantsStandIn t = false by simpa using List.all_eq_true.1 hall t hm)⟩)
    (by kernel_rfl)
#print axioms measureBits_card
end Go.Proofs.YtkkcoajgpdpfkabDoor
