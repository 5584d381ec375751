/- RegisterApart (layer 2): a copy has the same, and is not changed with the book. For every input; the table of numerals, and the library's listed tables, laid as the program's text lays them. -/
import Derived.Test.YtopgbbkndkincaaGreatDoorRows
import Derived.Test.YtopgbbkndkincaaGreatDoorTie
import Derived.Test.YtopgbbkndkincaaGreatDoorCards
import Derived.Test.YtopgbbkndkincaaGreatDoorRdLaidA
import Derived.Test.YtopgbbkndkincaaGreatDoorRdApart
import Derived.Test.YtopgbbkndkincaaGreatDoorLawAid
import Derived.ProofKit
import Derived.LaidMore
import Derived.Lay
import Derived.MakeChecks
import Derived.SevenTiedAt
namespace Go.Proofs.YtopgbbkndkincaaGreatDoor
open Go.ChangeShapes Go.WideShapes Go.ChangeAt Go.RowKit

abbrev rdLaid : List (String × DataW Unit) := Rows.registerApartRow.laid
theorem tabs_of_laid {W : World} (h : laidMetH Tryz.prog rdLaid W) : Tabs W := by
  rw [MakeChecks.laidMetH_plain _ _ _ (by kernel_rfl)] at h
  have r1 := Lib.laidMet.reads h (n := "internal/strconv.uint64pow10") (.tail _ (.tail _ (.head _)))
  have r3 := Lib.laidMet.reads h (n := "frisket/register.numerals") (.tail _ (.tail _ (.tail _ (.tail _ (.head _)))))
  have hn := nums_of_reads r3
  exact ⟨⟨hn, hn.lt⟩, pow_of_reads r1⟩

set_option maxRecDepth 100000 in
theorem apart_lifted (os : Os) (started : os.Started) (H : Type) (enc : TypeId × Value → H) :
    ReturnsInHanded {} Tryz.checked os 3 .any (fun w args => (Rows.registerApartSpec.pre enc Tryz.prog Tryz.f3 Rows.registerApartRow.domain false w args ∧ laidMetH Tryz.prog rdLaid w) ∧ sizedMet enc Tryz.prog Tryz.f3 (OpenSpec.ofChange Rows.registerApartSpec) false w args)
      (Rows.registerApartSpec.post enc Tryz.prog Tryz.f3 false true false false) := by
  refine returnsInHanded_of_change_and (C := Tryz.checked) (X := fun w _ => laidMetH Tryz.prog rdLaid w) (fun _ _ _ hh h => h.of_heap hh) own_knob started (by kernel_rfl) Tryz.func3
    (ChangeSpec.witness_shaped (enc := enc) (C := Tryz.checked) (os := os) (X := fun w _ => laidMetH Tryz.prog rdLaid w) false (World.laidAll Tryz.prog os rdLaid) #[.slice none 0 0, .slice none 0 0] 8 (World.laidAll_os _ _ _)
      (World.shaped_of_ZipB (by kernel_rfl) (by kernel_rfl)) (by kernel_rfl) (by kernel_rfl) (by kernel_rfl)
      (by rw [MakeChecks.laidMetH_plain _ _ _ (by kernel_rfl)]; exact laidMet_laidAll _ (by kernel_rfl) (by kernel_rfl))) ?_
  intro W base args ds gs before hval0 hW _ _ hL _
  have hval : ∀ (j : Nat) t v, Tryz.f3.params[j]? = some t → args[j]? = some v → Value.okWide Tryz.prog W .any base t v := hval0
  have hW' := hW
  obtain ⟨p, q, hA0, hV, rfl, _, _⟩ := hW
  have hA : DataW.TrodAll enc Tryz.prog W 0 (fun _ => true) true Tryz.f3.params.toList args.toList ds p := hA0
  rw [Tryz.params3] at hA hval
  obtain ⟨v0, v1, d0, d1, p0, p1, rfl, rfl, rfl, h0, h1⟩ := trodAll_two hA
  obtain ⟨ao, len, cap, X, rfl, hl, hX⟩ := deeds_open (hval 0 22 v0 rfl rfl) h0
  obtain ⟨ao2, len2, cap2, Y, rfl, hl2, hY⟩ := deeds_open (hval 1 22 v1 rfl rfl) h1
  refine (law_apart ao ao2 len cap len2 cap2 hl hl2 X Y W hX hY (tabs_of_laid hL)).mono fun e W' ⟨he, hk⟩ => ?_
  subst he
  exact ⟨_, rfl, law_post laid_out (tb := 4) rfl rfl Tryz.underlying4 (by kernel_rfl) rfl hW' hk⟩

theorem registerApart_holds : Rows.RegisterApartSaid :=
  OpenClaim.holds_of_wide 3 Tryz.f3 rfl rfl rfl rfl rfl rfl rfl ⟨rfl, rfl, rfl, rfl, rfl⟩ rfl rfl rfl rfl rfl (by kernel_rfl) Tryz.func3 (by kernel_rfl)
    (of_decide_eq_true (by kernel_rfl)) (by unfold Func.isWrapper; first | (rw [if_pos (by decide +kernel)]; kernel_rfl) | (rw [if_neg (by decide +kernel)]; exact ⟨rfl, rfl⟩))
    (fun os started H enc _ => apart_lifted os started H enc)

theorem registerApart_card : Rows.RegisterApartCardSaid :=
  Claim7.holds_tied_plain_at .later [] [.data, .data, .data, .data, .data, .pinned, .pinned] true Rows.registerApartCard.stood.harness true
    registerApart_holds (fun _ h => by cases h) (by kernel_rfl) (fun _ h => by cases h) registerApart_row_tie rfl ⟨rfl, rfl⟩ (by kernel_rfl) rfl
    (fun f fn hf hfn => by
      obtain rfl : f = 3 := Option.some.inj ((show Tryz.prog.funcNamed "frisket/frisketlaw02.RegisterApart" = some 3 by kernel_rfl).symm.trans hf) |>.symm
      obtain rfl : fn = Tryz.f3 := (Option.some.inj (Tryz.func3.symm.trans hfn)).symm
      exact ⟨by kernel_rfl, fun j t ht => by
        rw [Tryz.params3] at ht
        have hm : t ∈ [22, 22] := by simpa using Array.mem_of_getElem? ht
        have hall : ([22, 22].all fun u => !Tryz.prog.wantsStandIn u) = true := by kernel_rfl
        exact (show Tryz.prog.wantsStandIn t = false by simpa using List.all_eq_true.1 hall t hm)⟩)
    (by kernel_rfl)
#print axioms registerApart_card
end Go.Proofs.YtopgbbkndkincaaGreatDoor
