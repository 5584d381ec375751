/- StoreAppends (layer 3): Append of parts is Define of the whole; Add of parts is Macro of the whole. For every input. -/
import Derived.Test.YtkocgedliakclaaRows
import Derived.Test.YtkocgedliakclaaStApLaw
import Derived.Test.YtkocgedliakclaaStDeepArgs
import Derived.Test.YtkocgedliakclaaLawAid
import Derived.Test.YtkocgedliakclaaStProofAid
import Derived.ProofKit
import Derived.SizedLaws
namespace Go.Proofs.Ytkocgedliakclaa
open Go.ChangeShapes Go.WideShapes Go.ChangeAt Go.RowKit

set_option maxRecDepth 100000 in
theorem appends_lifted (os : Os) (started : os.Started) (H : Type) (enc : TypeId × Value → H) :
    ReturnsInHanded {} Try.checked os 3 .any (Rows.storeAppendsSpec.pre6 enc Try.prog Try.f3 Rows.storeAppendsRow.domain false) (Rows.storeAppendsSpec.post enc Try.prog Try.f3 false true false false) := by
  refine returnsInHanded_of_change_sized (C := Try.checked) own_knob started (by kernel_rfl) Try.func3
    (ChangeSpec.witness6 (enc := enc) (C := Try.checked) false ⟨#[], #[.slice none 0 0, .slice none 0 0, .int .i64 0], []⟩ 8 (by kernel_rfl) (by kernel_rfl) (by kernel_rfl) (by kernel_rfl)) ?_
  intro W base args ds gs before hval0 hW _ hweights _
  have hval : ∀ (j : Nat) t v, Try.f3.params[j]? = some t → args[j]? = some v → Value.okWide Try.prog W .any base t v := hval0
  have hW' := hW
  obtain ⟨p, q, hA0, hV, rfl, _, _⟩ := hW
  have hA : DataW.TrodAll enc Try.prog W 0 (fun _ => true) true Try.f3.params.toList args.toList ds p := hA0
  rw [Try.params3] at hA hval hweights
  obtain ⟨v0, v1, v2, d0, d1, d2, p0, p1, p2, rfl, rfl, rfl, h0, h1, h2⟩ := trodAll_three hA
  obtain ⟨n, rfl, _, _, hn⟩ := open_int Try.underlying3 (hval 2 3 v2 rfl rfl) h2
  have bn : -9223372036854775808 ≤ n ∧ n ≤ 9223372036854775807 := int_bd hn
  have l0 : Light Try.prog 22 d0 := light_arg (j := 0) hweights rfl rfl
  have l1 : Light Try.prog 23 d1 := light_arg (j := 1) hweights rfl rfl
  obtain ⟨pa, ls, pc, rfl, hpl, hpm, hsz, hP⟩ := ReadsL.strings Try.underlying22 Try.underlying9 (by kernel_rfl) (readsL_slice Try.underlying22 (hval 0 22 v0 rfl rfl) h0 l0)
  obtain ⟨ao, lc, l, rfl, hL, hf, hcap, hlm⟩ := lines_in (readsL_slice Try.underlying23 (hval 1 23 v1 rfl rfl) h1 l1)
  refine (appends_any pa pc ls ao lc l n W (Nat.le_trans hpl hpm) hP (fun s hs => Nat.le_trans (hsz s hs) reach_le) hL hcap hlm hf bn.1 bn.2).mono fun e W' ⟨he, hk⟩ => ?_
  subst he
  exact ⟨_, rfl, law_post laid_out (tb := 4) rfl rfl Try.underlying4 (by kernel_rfl) rfl hW' hk⟩

theorem storeAppends_holds : Rows.StoreAppendsSaid :=
  OpenClaim.holds_of_wide 3 Try.f3 rfl rfl rfl rfl rfl rfl rfl ⟨rfl, rfl, rfl, rfl, rfl⟩ rfl rfl rfl rfl rfl (by kernel_rfl) Try.func3 (by kernel_rfl)
    (of_decide_eq_true (by kernel_rfl)) (by unfold Func.isWrapper; first | (rw [if_pos (by decide +kernel)]; kernel_rfl) | (rw [if_neg (by decide +kernel)]; exact ⟨rfl, rfl⟩))
    (fun os started H enc _ => appends_lifted os started H enc)
#print axioms storeAppends_holds
end Go.Proofs.Ytkocgedliakclaa
