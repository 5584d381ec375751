/- SourceNothing (layer 5): a stack that is nil, or was not made, does nothing. For every input; the library's listed tables laid as the program's text lays them (the proof reads none of them). -/
import Derived.Test.YtkocgedliakclaaDoorRows
import Derived.Test.YtkocgedliakclaaDoorTie
import Derived.Test.YtkocgedliakclaaDoorCards
import Derived.Test.YtkocgedliakclaaDoorSoNoth
import Derived.Test.YtkocgedliakclaaDoorStDeepArgs
import Derived.Test.YtkocgedliakclaaDoorLawAid
import Derived.Test.YtkocgedliakclaaDoorSoProofAid
import Derived.ProofKit
import Derived.LaidMore
import Derived.Lay
import Derived.MakeChecks
import Derived.SevenTiedAt
namespace Go.Proofs.YtkocgedliakclaaDoor
open Go.ChangeShapes Go.WideShapes Go.ChangeAt Go.RowKit

section
open Go.Deep
variable {H : Type} {enc : TypeId × Value → H} {W : World} {base b0 : Nat} {r : Reach} {spare : Nat → Bool} {held : Bool}
set_option maxRecDepth 100000 in
/-- A deed that came in. -/
theorem deed_in {v : Value} {d : DataW H} {p : List MemPlace} (hv : Value.okWide Tryd.prog W r b0 25 v) (h : DataW.Trod enc Tryd.prog W base spare held 25 v d p) (hl : Light Tryd.prog 25 d) :
    ∃ (k z : Int) (s t : ByteArray) (ao : Option Addr) (c : Nat) (l : List LineC) (aa : Option Addr) (ac : Nat) (xs : List ByteArray), v = .agg #[.int .i64 k, .string s, .string t, .slice ao l.length c, .slice aa xs.length ac, .int .i64 z] ∧
      LinesRd (· < W.heap.size) (.slice ao l.length c) l W ∧ Fit l ∧ (∀ x ∈ l, x.text.size ≤ 140737488355328) ∧ t.size ≤ 140737488355328 ∧ StrsRd (· < W.heap.size) (.slice aa xs.length ac) xs W ∧ xs.length * 16 ≤ 140737488355328 := by
  obtain ⟨cs, rfl, _⟩ := okWide_struct Tryd.underlying25 hv
  obtain ⟨fuel, hf⟩ := h
  obtain ⟨hcl, hcf⟩ := cells_of_structL Tryd.underlying25 (by kernel_rfl) (by kernel_rfl) hf hl
  obtain ⟨u0, e0, q0⟩ := hcf 0 _ rfl
  obtain ⟨u1, e1, q1⟩ := hcf 1 _ rfl
  obtain ⟨u2, e2, q2⟩ := hcf 2 _ rfl
  obtain ⟨u3, e3, q3⟩ := hcf 3 _ rfl
  obtain ⟨u4, e4, q4⟩ := hcf 4 _ rfl
  obtain ⟨u5, e5, q5⟩ := hcf 5 _ rfl
  simp only [Value.cells] at hcl e0 e1 e2 e3 e4 e5
  have hcs : cs.toList = [u0, u1, u2, u3, u4, u5] := by
    apply List.ext_getElem?
    intro j
    match j with
    | 0 => exact e0
    | 1 => exact e1
    | 2 => exact e2
    | 3 => exact e3
    | 4 => exact e4
    | 5 => exact e5
    | j + 6 => rw [List.getElem?_eq_none (by rw [hcl]; show 6 ≤ j + 6; omega)]; rfl
  obtain rfl : cs = #[u0, u1, u2, u3, u4, u5] := Array.toList_inj.1 hcs
  obtain ⟨k, rfl, _⟩ := Reads.int Tryd.underlying3 q0.reads
  obtain ⟨s, rfl, _⟩ := ReadsL.string Tryd.underlying9 q1
  obtain ⟨t, rfl, ht⟩ := ReadsL.string Tryd.underlying9 q2
  obtain ⟨ao, c, l, rfl, hr, hft, _, _, hx⟩ := lines_in q3
  obtain ⟨aa, xs, ac, rfl, hpl, hpm, _, b, off, h1, h2⟩ := ReadsL.strings Tryd.underlying23 Tryd.underlying9 (by kernel_rfl) q4
  obtain ⟨z, rfl, _⟩ := Reads.int Tryd.underlying3 q5.reads
  obtain ⟨ao', len', cap', e, _, _, hb, _⟩ := ReadsL.cells Tryd.underlying23 (by kernel_rfl) q4
  cases e
  have h16 : Tryd.prog.bytesOf 9 = 16 := by kernel_rfl
  rw [h16] at hb
  exact ⟨k, z, s, t, ao, c, l, aa, ac, xs, rfl, hr, hft, fun x h => Nat.le_trans (hx x h) reach_le, Nat.le_trans ht reach_le, ⟨aa, ac, rfl, hpl, hpm, b, off, h1, h2⟩, Nat.le_trans hb reach_le⟩
end

abbrev nothLaid : List (String × DataW Unit) := Rows.sourceNothingRow.laid
set_option maxRecDepth 100000 in
theorem noth_lifted (os : Os) (started : os.Started) (H : Type) (enc : TypeId × Value → H) :
    ReturnsInHanded {} Tryd.checked os 3 .any (fun w args => (Rows.sourceNothingSpec.pre enc Tryd.prog Tryd.f3 Rows.sourceNothingRow.domain false w args ∧ laidMetH Tryd.prog nothLaid w) ∧ sizedMet enc Tryd.prog Tryd.f3 (OpenSpec.ofChange Rows.sourceNothingSpec) false w args)
      (Rows.sourceNothingSpec.post enc Tryd.prog Tryd.f3 false true false false) := by
  refine returnsInHanded_of_change_and (C := Tryd.checked) (X := fun w _ => laidMetH Tryd.prog nothLaid w) (fun _ _ _ hh h => h.of_heap hh) own_knob started (by kernel_rfl) Tryd.func3
    (ChangeSpec.witness_shaped (enc := enc) (C := Tryd.checked) (os := os) (X := fun w _ => laidMetH Tryd.prog nothLaid w) false (World.laidAll Tryd.prog os nothLaid) #[.agg #[.int .i64 0, .string ⟨#[]⟩, .string ⟨#[]⟩, .slice none 0 0, .slice none 0 0, .int .i64 0]] 8 (World.laidAll_os _ _ _)
      (World.shaped_of_ZipB (by kernel_rfl) (by kernel_rfl)) (by kernel_rfl) (by kernel_rfl) (by kernel_rfl)
      (by rw [MakeChecks.laidMetH_plain _ _ _ (by kernel_rfl)]; exact laidMet_laidAll _ (by kernel_rfl) (by kernel_rfl))) ?_
  intro W base args ds gs before hval0 hW _ hweights hL _
  have hval : ∀ (j : Nat) t v, Tryd.f3.params[j]? = some t → args[j]? = some v → Value.okWide Tryd.prog W .any base t v := hval0
  have hW' := hW
  obtain ⟨p, q, hA0, hV, rfl, _, _⟩ := hW
  have hA : DataW.TrodAll enc Tryd.prog W 0 (fun _ => true) true Tryd.f3.params.toList args.toList ds p := hA0
  rw [Tryd.params3] at hA hval hweights
  obtain ⟨v0, d0, rfl, rfl, h0⟩ := trodAll_one hA
  have l0 : Light Tryd.prog 25 d0 := light_arg (j := 0) hweights rfl rfl
  obtain ⟨k, z, s, t, ao, c, l, aa, ac, xs, rfl, hr, hf, hx, ht, ha, hal⟩ := deed_in (hval 0 25 v0 rfl rfl) h0 l0
  refine (nothing_any k z s t ao c l aa ac xs W hr hf hx ht ha hal).mono fun e W' ⟨he, hk⟩ => ?_
  subst he
  exact ⟨_, rfl, law_post laid_out (tb := 4) rfl rfl Tryd.underlying4 (by kernel_rfl) rfl hW' hk⟩

theorem sourceNothing_holds : Rows.SourceNothingSaid :=
  OpenClaim.holds_of_wide 3 Tryd.f3 rfl rfl rfl rfl rfl rfl rfl ⟨rfl, rfl, rfl, rfl, rfl⟩ rfl rfl rfl rfl rfl (by kernel_rfl) Tryd.func3 (by kernel_rfl)
    (of_decide_eq_true (by kernel_rfl)) (by unfold Func.isWrapper; first | (rw [if_pos (by decide +kernel)]; kernel_rfl) | (rw [if_neg (by decide +kernel)]; exact ⟨rfl, rfl⟩))
    (fun os started H enc _ => noth_lifted os started H enc)

theorem sourceNothing_card : Rows.SourceNothingCardSaid :=
  Claim7.holds_tied_plain_at .later [] [.data, .pinned] true Rows.sourceNothingCard.stood.harness false
    sourceNothing_holds (fun _ h => by cases h) (by kernel_rfl) (fun _ h => by cases h) sourceNothing_row_tie rfl ⟨rfl, rfl⟩ (by kernel_rfl) rfl
    (fun f fn hf hfn => by
      obtain rfl : f = 3 := Option.some.inj ((show Tryd.prog.funcNamed "frisket/frisketlaw05.SourceNothing" = some 3 by kernel_rfl).symm.trans hf) |>.symm
      obtain rfl : fn = Tryd.f3 := (Option.some.inj (Tryd.func3.symm.trans hfn)).symm
      exact ⟨by kernel_rfl, fun j t ht => by
        rw [Tryd.params3] at ht
        have hm : t ∈ [25] := by simpa using Array.mem_of_getElem? ht
        have hall : ([25].all fun u => !Tryd.prog.wantsStandIn u) = true := by kernel_rfl
        exact (show Tryd.prog.wantsStandIn t = false by simpa using List.all_eq_true.1 hall t hm)⟩)
    (by kernel_rfl)
#print axioms sourceNothing_card
end Go.Proofs.YtkocgedliakclaaDoor
