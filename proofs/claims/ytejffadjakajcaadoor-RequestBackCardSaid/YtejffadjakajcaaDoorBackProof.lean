/- RequestBack (layer 6): what is written is split into the name and the arguments again. For every input; the library's listed tables laid as the program's text lays them. -/
import Derived.Test.YtejffadjakajcaaDoorRows
import Derived.Test.YtejffadjakajcaaDoorTie
import Derived.Test.YtejffadjakajcaaDoorCards
import Derived.Test.YtejffadjakajcaaDoorRqBackLaw
import Derived.Test.YtejffadjakajcaaDoorLawAid
import Derived.Test.YtejffadjakajcaaDoorRqProofAid
import Derived.Test.YtejffadjakajcaaDoorSizedAid
import Derived.SliceStrings
import Derived.ProofKit
import Derived.LaidMore
import Derived.Lay
import Derived.MakeChecks
import Derived.SevenTiedAt
namespace Go.Proofs.YtejffadjakajcaaDoor
open Go.ChangeShapes Go.WideShapes Go.ChangeAt Go.RowKit

theorem max_at {W : World} (h : W.ShapedOpen Tryd.prog) : MaxAt W :=
  cell_of_shapedOpen_int (t := 3) (zero := #[.int .i64 0]) h (of_decide_eq_true (by kernel_rfl)) (by kernel_rfl) (by kernel_rfl) (by kernel_rfl) (by kernel_rfl) Tryd.underlying3
theorem texts_slice {H : Type} {enc : TypeId × Value → H} {P : Program} {W : World} {spare : Nat → Bool} {held : Bool} {r : Reach} {b0 : Nat} {t e : TypeId} {v : Value} {d : DataW H} {p : List MemPlace}
    (ht : P.underlying t = some (.slice e)) (he : P.underlying e = some .string) (hC : P.cellsOf e = 1)
    (hv : Value.okWide P W r b0 t v) (h : DataW.Trod enc P W 0 spare held t v d p) : ∃ (ax : List (List UInt8)) (ao : Option Addr) (cap : Nat), v = .slice ao ax.length cap ∧ TxAt (.slice ao ax.length cap) ax W ∧ (∀ a ∈ ax, a.length ∈ DataW.weights P t d) ∧ ax.length ≤ 9223372036854775807 := by
  obtain ⟨ao0, len0, cap0, rfl⟩ := okWide_slice ht hv
  obtain ⟨fuel, hf⟩ := h
  rcases open_strings ht he hC hf with ⟨hcs, _⟩ | ⟨a, len, cap, ss, hcs, _, hl, hm, hsl, hx, hc, hmx⟩
  · exact ⟨[], none, 0, (List.cons.inj hcs).1, ⟨none, 0, 0, 0, rfl, fun h => absurd h (by simp), fun j w hj => (by simp at hj)⟩, fun a ha => (by cases ha), by simp⟩
  · have e0 := (List.cons.inj hcs).1
    have hle : len ≤ ss.length := by rw [hsl]; split <;> omega
    have htl : ((ss.take len).map fun s => s.data.toList).length = len := by rw [List.length_map, List.length_take]; omega
    obtain ⟨b, off, spot⟩ := a
    have each : ∀ (i : Nat) (hi : i < len), W.cell? ((⟨b, off, spot⟩ : Addr).add i) = some (.string (ss[i]'(by omega))) := fun i hi => by
      have := hc i (by omega)
      rw [List.getD_eq_getElem?_getD, List.getElem?_eq_getElem (by omega)] at this
      exact this
    have key : 0 < len → spot = none ∧ b < W.heap.size := fun hz => by
      have h0 := each 0 hz
      have hsp : spot = none := by
        have := World.cell?_spot h0
        simpa [Addr.add] using this
      subst hsp
      exact ⟨rfl, by have := lt_of_cell h0; simpa [Addr.add] using this⟩
    refine ⟨(ss.take len).map fun s => s.data.toList, some ⟨b, off, spot⟩, cap, by rw [htl]; exact e0, ⟨some ⟨b, off, spot⟩, cap, b, off, rfl, fun hz => ?_, fun j w hj => ?_⟩, fun a ha => ?_, by rw [htl]; unfold maxLen at hm; omega⟩
    · rw [htl] at hz
      obtain ⟨h1, h2⟩ := key hz
      exact ⟨by rw [h1], h2⟩
    · obtain ⟨h1, h2⟩ := List.getElem?_eq_some_iff.1 hj
      rw [htl] at h1
      have h3 := each j h1
      rw [(key (by omega)).1, add_plain] at h3
      rw [h3, ← h2]
      simp only [List.getElem_map, List.getElem_take]
    · obtain ⟨s, hs, rfl⟩ := List.mem_map.1 ha
      have hd : d = .slice (strs (ss.take len)) (strs (ss.drop len)) := congrArg Prod.fst hx
      rw [hd]
      simp only [DataW.weights, ht]
      exact List.mem_cons_of_mem _ (List.mem_append_left _ (weight_of hs))
abbrev backLaid : List (String × DataW Unit) := Rows.requestBackRow.laid
set_option maxRecDepth 100000 in
theorem back_lifted (os : Os) (started : os.Started) (H : Type) (enc : TypeId × Value → H) :
    ReturnsInHanded {} Tryd.checked os 9 .any (fun w args => (Rows.requestBackSpec.pre enc Tryd.prog Tryd.f9 Rows.requestBackRow.domain false w args ∧ laidMetH Tryd.prog backLaid w) ∧ sizedMet enc Tryd.prog Tryd.f9 (OpenSpec.ofChange Rows.requestBackSpec) false w args)
      (Rows.requestBackSpec.post enc Tryd.prog Tryd.f9 false true false false) := by
  refine handed_shaped_sized (C := Tryd.checked) (X := fun w _ => laidMetH Tryd.prog backLaid w) (fun _ _ _ hh h => h.of_heap hh) own_knob started (by kernel_rfl) Tryd.func9
    (ChangeSpec.witness_shaped (enc := enc) (C := Tryd.checked) (os := os) (X := fun w _ => laidMetH Tryd.prog backLaid w) false (World.laidAll Tryd.prog os backLaid) #[.string ⟨#[]⟩, .slice none 0 0] 8 (World.laidAll_os _ _ _)
      (World.shaped_of_ZipB (by kernel_rfl) (by kernel_rfl)) (by kernel_rfl) (by kernel_rfl) (by kernel_rfl)
      (by rw [MakeChecks.laidMetH_plain _ _ _ (by kernel_rfl)]; exact laidMet_laidAll _ (by kernel_rfl) (by kernel_rfl))) ?_
  intro W base args ds gs before hval0 hW hweights _ hsh
  have hval : ∀ (j : Nat) t v, Tryd.f9.params[j]? = some t → args[j]? = some v → Value.okWide Tryd.prog W .any base t v := hval0
  have hW' := hW
  obtain ⟨p, q, hA0, hV, rfl, _, _⟩ := hW
  have hA : DataW.TrodAll enc Tryd.prog W 0 (fun _ => true) true Tryd.f9.params.toList args.toList ds p := hA0
  rw [Tryd.params9] at hA hval hweights
  obtain ⟨v0, v1, d0, d1, p0, p1, rfl, rfl, rfl, h0, h1⟩ := trodAll_two hA
  obtain ⟨s, rfl, hd0, _, hs⟩ := Go.ChangeMaps.open_string Tryd.underlying9 (hval 0 9 v0 rfl rfl) h0
  obtain ⟨ax, ao, cap, rfl, htx, hsz, hln⟩ := texts_slice Tryd.underlying25 Tryd.underlying9 (by kernel_rfl) (hval 1 25 v1 rfl rfl) h1
  have hs47 : s.data.toList.length ≤ 140737488351232 := by
    have hmem := List.all_eq_true.1 hweights s.data.toList.length (DataW.weights_mem_each (j := 0) (t := 9) (d := d0) rfl rfl _ (by rw [hd0]; simp [DataW.weights]))
    have h2 := of_decide_eq_true hmem
    unfold reachBytes at h2
    omega
  have hsz47 : ∀ a ∈ ax, a.length ≤ 140737488355328 := fun a ha => by
    have hmem := List.all_eq_true.1 hweights a.length (DataW.weights_mem_each (j := 1) (t := 25) (d := d1) rfl rfl _ (hsz a ha))
    have : a.length ≤ reachBytes := by simpa using hmem
    unfold reachBytes at this
    omega
  have hlaw : Calls Tryd.prog 9 #[.string s, .slice ao ax.length cap] W (Makes (.bool true) W) := by
    rw [← mk8_of s]
    rcases Nat.lt_or_ge 30 ax.length with h | h
    · exact law_back_many s.data.toList ao cap ax W htx h hln
    · exact law_back_few s.data.toList ao cap ax W hs47 htx (max_at hsh) h hsz47
  refine hlaw.mono fun e W' ⟨he, hk⟩ => ?_
  subst he
  exact ⟨_, rfl, law_post laid_out (tb := 4) rfl rfl Tryd.underlying4 (by kernel_rfl) rfl hW' hk⟩

theorem requestBack_holds : Rows.RequestBackSaid :=
  OpenClaim.holds_of_wide 9 Tryd.f9 rfl rfl rfl rfl rfl rfl rfl ⟨rfl, rfl, rfl, rfl, rfl⟩ rfl rfl rfl rfl rfl (by kernel_rfl) Tryd.func9 (by kernel_rfl)
    (of_decide_eq_true (by kernel_rfl)) (by unfold Func.isWrapper; first | (rw [if_pos (by decide +kernel)]; kernel_rfl) | (rw [if_neg (by decide +kernel)]; exact ⟨rfl, rfl⟩))
    (fun os started H enc _ => back_lifted os started H enc)

theorem requestBack_card : Rows.RequestBackCardSaid :=
  Claim7.holds_tied_plain_at .later [] [.data, .pinned] true Rows.requestBackCard.stood.harness false
    requestBack_holds (fun _ h => by cases h) (by kernel_rfl) (fun _ h => by cases h) requestBack_row_tie rfl ⟨rfl, rfl⟩ (by kernel_rfl) rfl
    (fun f fn hf hfn => by
      obtain rfl : f = 9 := Option.some.inj ((show Tryd.prog.funcNamed "frisket/frisketlaw06.RequestBack" = some 9 by kernel_rfl).symm.trans hf) |>.symm
      obtain rfl : fn = Tryd.f9 := (Option.some.inj (Tryd.func9.symm.trans hfn)).symm
      exact ⟨by kernel_rfl, fun j t ht => by
        rw [Tryd.params9] at ht
        have hm : t ∈ [9, 25] := by simpa using Array.mem_of_getElem? ht
        have hall : ([9, 25].all fun u => !Tryd.prog.wantsStandIn u) = true := by kernel_rfl
        exact (show Tryd.prog.wantsStandIn t = false by simpa using List.all_eq_true.1 hall t hm)⟩)
    (by kernel_rfl)
#print axioms requestBack_card
end Go.Proofs.YtejffadjakajcaaDoor
