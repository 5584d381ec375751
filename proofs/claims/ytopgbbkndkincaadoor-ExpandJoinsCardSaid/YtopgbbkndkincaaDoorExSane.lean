/- The law's fixed example. -/
import Derived.Test.YtopgbbkndkincaaDoorExTeller
import Derived.KernelRfl
namespace Go.Proofs.YtopgbbkndkincaaDoor
open Go.RowKit Go.PlainAid Go.Lib

section
variable {r : ByteArray} {cm : Bool} {acc rest : ByteArray} {a : Nat} {o : Option (ByteArray × Nat)} {p : Piece}
theorem Ex.stays (h : Ex r cm acc rest a o) (hz : 0 < rest.size) (hp : firstM rest cm = p) (hk : p.kind = 0) : Ex r cm (acc ++ writM cm (rest.extract 0 p.size)) (tail rest p.size) a o := by
  subst hp
  cases h with
  | done h => omega
  | stay _ _ h => exact h
  | rem _ h => rw [hk] at h; cases h
  | full _ h _ _ _ => exact absurd hk h
  | num _ h _ _ => rw [hk] at h; cases h
  | read _ h _ _ => rw [hk] at h; rcases h with h | h <;> cases h
  | widNo _ h _ => rw [hk] at h; cases h
  | widFull _ h _ => rw [hk] at h; cases h
  | wid _ h _ _ _ => rw [hk] at h; cases h
theorem Ex.nums (h : Ex r cm acc rest a o) (hz : 0 < rest.size) (hp : firstM rest cm = p) (hk : p.kind = 110) (ha : a < 500) : Ex r cm (acc ++ r) (tail rest p.size) (a + 1) o := by
  subst hp
  cases h with
  | done h => omega
  | stay _ h _ => rw [hk] at h; cases h
  | rem _ h => rw [hk] at h; cases h
  | full _ _ _ _ h => omega
  | num _ _ _ h => exact h
  | read _ h _ _ => rw [hk] at h; rcases h with h | h <;> cases h
  | widNo _ h _ => rw [hk] at h; cases h
  | widFull _ h _ => rw [hk] at h; cases h
  | wid _ h _ _ _ => rw [hk] at h; cases h
end

abbrev saneT : ByteArray := ⟨#[97, 92, 110, 120, 98]⟩
theorem sane_ex {o : Option (ByteArray × Nat)} (h : Ex ⟨#[51]⟩ false ⟨#[]⟩ saneT 0 o) : o = some (⟨#[97, 51, 98]⟩, 1) := by
  have h1 := h.stays (p := onePiece) (by decide) (by kernel_rfl) rfl
  have h2 := h1.nums (p := ⟨110, ⟨#[120]⟩, 0, 3⟩) (of_decide_eq_true (by kernel_rfl)) (by kernel_rfl) rfl (by omega)
  have h3 := h2.stays (p := onePiece) (of_decide_eq_true (by kernel_rfl)) (by kernel_rfl) rfl
  have h4 := h3.empty (by kernel_rfl)
  exact h4.trans (by kernel_rfl)

set_option maxHeartbeats 1000000 in
theorem sane_any (W : World) : Calls Tryd.prog 6 #[] W (Makes (.bool true) W) := by
  have HE := Lib.hid (expand_some fixedA saneT false W (by kernel_rfl) trivial)
  go_enter Tryd.func6, Tryd.ntmps6
  go_wp2_with fail
  refine HE.out.mono ?_
  rintro e W2 ⟨o, b, hE, _, hL, hO⟩
  have := sane_ex hE
  subst this
  obtain ⟨rfl, rfl⟩ := hO
  have HB : Hid (Below W.heap.size W W2) := ⟨hL.os, hL.tape, hL.output, hL.size, fun k hk => (hL.block k hk (fun h => h)).1⟩
  clear hE hL
  go_wp2_with fail
  go_ret
  exact ⟨rfl, HB.out⟩

end Go.Proofs.YtopgbbkndkincaaDoor
