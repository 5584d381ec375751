/- MeasureLeft (layer 1): operators are taken from the left: an expression is what brackets around its beginning say. For every input, the table 'operators' laid as the program's text lays it. -/
import Derived.Test.YtkkcoajgpdpfkabDoorRows
import Derived.Test.YtkkcoajgpdpfkabDoorTie
import Derived.Test.YtkkcoajgpdpfkabDoorCards
import Derived.Test.YtkkcoajgpdpfkabDoorMsLeftWalk
import Derived.Test.YtkkcoajgpdpfkabDoorMsLaid
import Derived.Test.YtkkcoajgpdpfkabDoorLawAid
import Derived.Test.YtkkcoajgpdpfkabDoorMsProofAid
import Derived.ProofKit
import Derived.LaidMore
import Derived.Lay
import Derived.MakeChecks
import Derived.SevenTiedAt
namespace Go.Proofs.YtkkcoajgpdpfkabDoor
open Go.ChangeShapes Go.WideShapes Go.ChangeAt Go.RowKit

theorem left_fields : ∃ fs : Array Field, Tryd.prog.underlying 48 = some (.struct fs) ∧ fs.size = 5 ∧ Go.Deep.oneCellFields Tryd.prog fs = true ∧ (fs.toList.all fun f => f.type == 3) = true := by
  exact ⟨_, Tryd.underlying48, by kernel_rfl, by kernel_rfl, by kernel_rfl⟩
theorem left_cells : Tryd.prog.cellsOf 48 = 5 := by kernel_rfl

theorem five_of {zs : List Int} (h : zs.length = 5) : ∃ a b c o t, zs = [a, b, c, o, t] := by
  match zs, h with
  | [a, b, c, o, t], _ => exact ⟨a, b, c, o, t, rfl⟩

set_option maxRecDepth 100000 in
theorem left_lifted (os : Os) (started : os.Started) (H : Type) (enc : TypeId × Value → H) :
    ReturnsInHanded {} Tryd.checked os 8 .any (fun w args => (Rows.measureLeftSpec.pre enc Tryd.prog Tryd.f8 Rows.measureLeftRow.domain false w args ∧ laidMetH Tryd.prog opsLaid w) ∧ sizedMet enc Tryd.prog Tryd.f8 (OpenSpec.ofChange Rows.measureLeftSpec) false w args)
      (Rows.measureLeftSpec.post enc Tryd.prog Tryd.f8 false true false false) := by
  refine returnsInHanded_of_change_and (C := Tryd.checked) (X := fun w _ => laidMetH Tryd.prog opsLaid w) (fun _ _ _ hh h => h.of_heap hh) own_knob started (by kernel_rfl) Tryd.func8
    (ChangeSpec.witness_shaped (enc := enc) (C := Tryd.checked) (os := os) (X := fun w _ => laidMetH Tryd.prog opsLaid w) false (World.laidAll Tryd.prog os opsLaid) #[.agg #[.int .i64 0, .int .i64 0, .int .i64 0, .int .i64 0, .int .i64 0]] 8 (World.laidAll_os _ _ _)
      (World.shaped_of_ZipB (by kernel_rfl) (by kernel_rfl)) (by kernel_rfl) (by kernel_rfl) (by kernel_rfl)
      (by rw [MakeChecks.laidMetH_plain _ _ _ (by kernel_rfl)]; exact laidMet_laidAll _ (by kernel_rfl) (by kernel_rfl))) ?_
  intro W base args ds gs before hval0 hW _ _ hL _
  have hval : ∀ (j : Nat) t v, Tryd.f8.params[j]? = some t → args[j]? = some v → Value.okWide Tryd.prog W .any base t v := hval0
  have hW' := hW
  obtain ⟨p, q, hA0, hV, rfl, _, _⟩ := hW
  have hA : DataW.TrodAll enc Tryd.prog W 0 (fun _ => true) true Tryd.f8.params.toList args.toList ds p := hA0
  rw [Tryd.params8] at hA hval
  obtain ⟨v0, d0, rfl, rfl, h0⟩ := trodAll_one hA
  obtain ⟨fs, hfs, hsz, hone, hty⟩ := left_fields
  obtain ⟨zs, hzl, rfl⟩ := ints_of hfs hone (by rw [left_cells, hsz]) (fun i f hf => by
    have := List.all_eq_true.1 hty f (Array.mem_toList_iff.2 (Array.mem_of_getElem? hf))
    rw [beq_iff_eq.1 this]; exact Tryd.underlying3) (hval 0 48 v0 rfl rfl) h0
  rw [hsz] at hzl
  obtain ⟨a, b, c, o, t, rfl⟩ := five_of hzl
  have ho := ops_of_laid hL
  refine (left_any a b c o t W ho ho.lt).mono fun e W' ⟨he, hk⟩ => ?_
  subst he
  exact ⟨_, rfl, law_post laid_out (tb := 4) rfl rfl Tryd.underlying4 (by kernel_rfl) rfl hW' hk⟩

theorem measureLeft_holds : Rows.MeasureLeftSaid :=
  OpenClaim.holds_of_wide 8 Tryd.f8 rfl rfl rfl rfl rfl rfl rfl ⟨rfl, rfl, rfl, rfl, rfl⟩ rfl rfl rfl rfl rfl (by kernel_rfl) Tryd.func8 (by kernel_rfl)
    (of_decide_eq_true (by kernel_rfl)) (by unfold Func.isWrapper; first | (rw [if_pos (by decide +kernel)]; kernel_rfl) | (rw [if_neg (by decide +kernel)]; exact ⟨rfl, rfl⟩))
    (fun os started H enc _ => left_lifted os started H enc)

theorem measureLeft_card : Rows.MeasureLeftCardSaid :=
  Claim7.holds_tied_plain_at .later [] [.data] true Rows.measureLeftCard.stood.harness true
    measureLeft_holds (fun _ h => by cases h) (by kernel_rfl) (fun _ h => by cases h) measureLeft_row_tie rfl ⟨rfl, rfl⟩ (by kernel_rfl) rfl
    (fun f fn hf hfn => by
      obtain rfl : f = 8 := Option.some.inj ((show Tryd.prog.funcNamed "frisket/frisketlaw01.MeasureLeft" = some 8 by kernel_rfl).symm.trans hf) |>.symm
      obtain rfl : fn = Tryd.f8 := (Option.some.inj (Tryd.func8.symm.trans hfn)).symm
      exact ⟨by kernel_rfl, fun j t ht => by
        rw [Tryd.params8] at ht
        have hm : t ∈ [48] := by simpa using Array.mem_of_getElem? ht
        have hall : ([48].all fun u => !Tryd.prog.wantsStandIn u) = true := by kernel_rfl
        exact (show Tryd.prog.wantsStandIn t = false by simpa using List.all_eq_true.1 hall t hm)⟩)
    (by kernel_rfl)
#print axioms measureLeft_card
end Go.Proofs.YtkkcoajgpdpfkabDoor
