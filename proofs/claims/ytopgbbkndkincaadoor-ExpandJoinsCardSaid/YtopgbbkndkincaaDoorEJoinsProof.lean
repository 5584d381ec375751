/- ExpandJoins (layer 4): lines that end in an odd number of backslashes are joined, as the document says. For every input; the library's listed tables laid as the program's text lays them. -/
import Derived.Test.YtopgbbkndkincaaDoorRows
import Derived.Test.YtopgbbkndkincaaDoorTie
import Derived.Test.YtopgbbkndkincaaDoorCards
import Derived.Test.YtopgbbkndkincaaDoorExJoinLaw
import Derived.Test.YtopgbbkndkincaaDoorLawAid
import Derived.Test.YtopgbbkndkincaaDoorExProofAid
import Derived.SliceStrings
import Derived.ProofKit
import Derived.LaidMore
import Derived.Lay
import Derived.MakeChecks
import Derived.SevenTiedAt
namespace Go.Proofs.YtopgbbkndkincaaDoor
open Go.ChangeShapes Go.WideShapes Go.ChangeAt Go.RowKit

theorem weight_of {H : Type} {P : Program} {e : TypeId} {s : ByteArray} : ∀ {l : List ByteArray}, s ∈ l → s.data.toList.length ∈ DataW.weightsAll (H := H) P e (strs l)
  | b :: r, h => by
    rcases List.mem_cons.1 h with rfl | h
    · simp [strs, DataW.weightsAll, DataW.weights]
    · have := weight_of (H := H) (P := P) (e := e) h
      simp only [strs, List.map_cons, DataW.weightsAll, List.mem_append] at this ⊢
      exact .inr this

abbrev joinsLaid : List (String × DataW Unit) := Rows.expandJoinsRow.laid
set_option maxRecDepth 100000 in
theorem joins_lifted (os : Os) (started : os.Started) (H : Type) (enc : TypeId × Value → H) :
    ReturnsInHanded {} Tryd.checked os 3 .any (fun w args => (Rows.expandJoinsSpec.pre enc Tryd.prog Tryd.f3 Rows.expandJoinsRow.domain false w args ∧ laidMetH Tryd.prog joinsLaid w) ∧ sizedMet enc Tryd.prog Tryd.f3 (OpenSpec.ofChange Rows.expandJoinsSpec) false w args)
      (Rows.expandJoinsSpec.post enc Tryd.prog Tryd.f3 false true false false) := by
  refine returnsInHanded_of_change_and (C := Tryd.checked) (X := fun w _ => laidMetH Tryd.prog joinsLaid w) (fun _ _ _ hh h => h.of_heap hh) own_knob started (by kernel_rfl) Tryd.func3
    (ChangeSpec.witness_shaped (enc := enc) (C := Tryd.checked) (os := os) (X := fun w _ => laidMetH Tryd.prog joinsLaid w) false (World.laidAll Tryd.prog os joinsLaid) #[.slice none 0 0] 8 (World.laidAll_os _ _ _)
      (World.shaped_of_ZipB (by kernel_rfl) (by kernel_rfl)) (by kernel_rfl) (by kernel_rfl) (by kernel_rfl)
      (by rw [MakeChecks.laidMetH_plain _ _ _ (by kernel_rfl)]; exact laidMet_laidAll _ (by kernel_rfl) (by kernel_rfl))) ?_
  intro W base args ds gs before hval0 hW _ hweights _ _
  have hval : ∀ (j : Nat) t v, Tryd.f3.params[j]? = some t → args[j]? = some v → Value.okWide Tryd.prog W .any base t v := hval0
  have hW' := hW
  obtain ⟨p, q, hA0, hV, rfl, _, _⟩ := hW
  have hA : DataW.TrodAll enc Tryd.prog W 0 (fun _ => true) true Tryd.f3.params.toList args.toList ds p := hA0
  rw [Tryd.params3] at hA hval hweights
  obtain ⟨v0, d0, rfl, rfl, h0⟩ := trodAll_one hA
  obtain ⟨ao0, len0, cap0, rfl⟩ := okWide_slice Tryd.underlying22 (hval 0 22 v0 rfl rfl)
  obtain ⟨fuel, hf⟩ := h0
  have fin : ∀ (ao : Option Addr) (ls : List ByteArray) (cap : Nat), Value.slice ao0 len0 cap0 = .slice ao ls.length cap → Strs ao ls W → (∀ s ∈ ls, s.size ≤ 140737488355328) → ls.length ≤ 9223372036854775807 →
      Calls Tryd.prog 3 #[.slice ao0 len0 cap0] W fun e W' => ∃ v, e = .returned v ∧ Rows.expandJoinsSpec.post enc Tryd.prog Tryd.f3 false true false false W #[.slice ao0 len0 cap0] v W' := fun ao ls cap e hs hb hl => by
    rw [e] at hW' ⊢
    refine (law_joins ao ls cap W hs hb hl).mono fun e W' ⟨he, hk⟩ => ?_
    subst he
    exact ⟨_, rfl, law_post laid_out (tb := 4) rfl rfl Tryd.underlying4 (by kernel_rfl) rfl hW' hk⟩
  rcases open_strings Tryd.underlying22 Tryd.underlying9 (by kernel_rfl) hf with ⟨hcs, _⟩ | ⟨a, len, cap, ss, hcs, _, hl, hm, hsl, hx, hc, hmx⟩
  · exact fin none [] 0 (List.cons.inj hcs).1 ⟨0, 0, fun h => absurd h (by simp), fun i s hs => by simp at hs⟩ (fun s hs => by cases hs) (by simp)
  · have e0 := (List.cons.inj hcs).1
    have hle : len ≤ ss.length := by rw [hsl]; split <;> omega
    have htl : (ss.take len).length = len := by rw [List.length_take]; omega
    refine fin (some a) (ss.take len) cap (by rw [htl]; exact e0) ?_ (fun s hs => ?_) (by rw [htl]; unfold maxLen at hm; omega)
    · obtain ⟨b, off, spot⟩ := a
      have each : ∀ (i : Nat) s, (ss.take len)[i]? = some s → W.cell? ((⟨b, off, spot⟩ : Addr).add i) = some (.string s) := fun i s hs => by
        obtain ⟨h1, h2⟩ := List.getElem?_eq_some_iff.1 hs
        rw [List.getElem_take] at h2
        rw [htl] at h1
        have := hc i (by omega)
        rw [List.getD_eq_getElem?_getD, List.getElem?_eq_getElem (by omega), h2] at this
        exact this
      by_cases hz : 0 < len
      · obtain ⟨s0, hs0⟩ : ∃ s0, (ss.take len)[0]? = some s0 := ⟨_, List.getElem?_eq_getElem (by omega)⟩
        have h0 := each 0 s0 hs0
        have hsp : spot = none := by
          have := World.cell?_spot h0
          simpa [Addr.add] using this
        subst hsp
        refine ⟨b, off, fun _ => ⟨rfl, ?_⟩, fun i s hs => ?_⟩
        · have := lt_of_cell h0
          simpa [Addr.add] using this
        · have := each i s hs
          rw [add_plain] at this
          exact this
      · have : len = 0 := by omega
        refine ⟨0, 0, fun h => by omega, fun i s hs => ?_⟩
        have := (List.getElem?_eq_some_iff.1 hs).1
        omega
    · have hd : d0 = .slice (strs (ss.take len)) (strs (ss.drop len)) := congrArg Prod.fst hx
      have hmem := List.all_eq_true.1 hweights s.data.toList.length (DataW.weights_mem_each (j := 0) (t := 22) (d := d0) rfl rfl _ (by
        rw [hd]
        have hu : Tryd.checked.prog.underlying 22 = some (.slice 9) := Tryd.underlying22
        simp only [DataW.weights, hu]
        exact List.mem_cons_of_mem _ (List.mem_append_left _ (weight_of hs))))
      have : s.data.toList.length ≤ reachBytes := by simpa using hmem
      rw [← Lib.size_eq] at this
      unfold reachBytes at this
      omega

theorem expandJoins_holds : Rows.ExpandJoinsSaid :=
  OpenClaim.holds_of_wide 3 Tryd.f3 rfl rfl rfl rfl rfl rfl rfl ⟨rfl, rfl, rfl, rfl, rfl⟩ rfl rfl rfl rfl rfl (by kernel_rfl) Tryd.func3 (by kernel_rfl)
    (of_decide_eq_true (by kernel_rfl)) (by unfold Func.isWrapper; first | (rw [if_pos (by decide +kernel)]; kernel_rfl) | (rw [if_neg (by decide +kernel)]; exact ⟨rfl, rfl⟩))
    (fun os started H enc _ => joins_lifted os started H enc)

theorem expandJoins_card : Rows.ExpandJoinsCardSaid :=
  Claim7.holds_tied_plain_at .later [] [.data, .pinned] true Rows.expandJoinsCard.stood.harness true
    expandJoins_holds (fun _ h => by cases h) (by kernel_rfl) (fun _ h => by cases h) expandJoins_row_tie rfl ⟨rfl, rfl⟩ (by kernel_rfl) rfl
    (fun f fn hf hfn => by
      obtain rfl : f = 3 := Option.some.inj ((show Tryd.prog.funcNamed "frisket/frisketlaw04.ExpandJoins" = some 3 by kernel_rfl).symm.trans hf) |>.symm
      obtain rfl : fn = Tryd.f3 := (Option.some.inj (Tryd.func3.symm.trans hfn)).symm
      exact ⟨by kernel_rfl, fun j t ht => by
        rw [Tryd.params3] at ht
        have hm : t ∈ [22] := by simpa using Array.mem_of_getElem? ht
        have hall : ([22].all fun u => !Tryd.prog.wantsStandIn u) = true := by kernel_rfl
        exact (show Tryd.prog.wantsStandIn t = false by simpa using List.all_eq_true.1 hall t hm)⟩)
    (by kernel_rfl)
#print axioms expandJoins_card
end Go.Proofs.YtopgbbkndkincaaDoor
