/- Closed facts that the rows of layer 6 share; what came in. -/
import Derived.Test.YtjbaljibaejdgaaDoorRows
import Derived.Test.YtjbaljibaejdgaaDoorRqBits
import Derived.Test.YtjbaljibaejdgaaDoorLawAid
import Derived.ProofKit
import Derived.OpenShut
namespace Go.Proofs.YtjbaljibaejdgaaDoor
open Go.ChangeShapes Go.WideShapes Go.ChangeAt Go.RowKit
theorem own_knob : ownKnob Tryd.prog.godebug = none := by kernel_rfl
theorem laid_out : laidOutB Tryd.prog = true := by kernel_rfl
theorem u8_bd {n : Int} (h : (Lit.int .u8 n).wf = true) : 0 ≤ n ∧ n ≤ 255 := by
  simp [Lit.wf, IntKind.min, IntKind.max, IntKind.signed, IntKind.bits] at h
  omega
theorem bytes_slice {H : Type} {enc : TypeId × Value → H} {P : Program} {W : World} {base : Nat} {spare : Nat → Bool} {held : Bool} {r : Reach} {b0 : Nat} {t e : TypeId} {v : Value} {d : DataW H} {p : List MemPlace}
    (ht : P.underlying t = some (.slice e)) (he : P.underlying e = some (.int .u8)) (hC : P.cellsOf e = 1)
    (hv : Value.okWide P W r b0 t v) (h : DataW.Trod enc P W base spare held t v d p) : ∃ (ao : Option Addr) (len cap : Nat), v = .slice ao len cap ∧ BytesAt ao len W := by
  obtain ⟨ao, len, cap, rfl⟩ := okWide_slice ht hv
  refine ⟨ao, len, cap, rfl, ?_⟩
  obtain ⟨fuel, hf⟩ := h
  rcases open_ints ht he hC hf with ⟨hcs, _⟩ | ⟨a, len', cap', zs, hcs, _, hl, _, hz, _, hcell, hwf⟩
  · intro j hj
    have : len = 0 := by
      have := (List.cons.inj hcs).1
      injection this
    omega
  · intro j hj
    have e1 := (List.cons.inj hcs).1
    injection e1 with e2 e3 e4
    subst e2 e3 e4
    have hzl : j < zs.length := by rw [hz]; split <;> omega
    obtain ⟨b, off, rfl, hc⟩ := ints_at hcell (by omega)
    have hm : zs.getD j 0 ∈ zs := by rw [List.getD_eq_getElem?_getD, List.getElem?_eq_getElem hzl]; exact List.getElem_mem hzl
    have hb := u8_bd (hwf _ hm)
    exact ⟨b, off, _, rfl, lt_of_cell (hc j hzl), hc j hzl, hb.1, hb.2⟩
end Go.Proofs.YtjbaljibaejdgaaDoor
