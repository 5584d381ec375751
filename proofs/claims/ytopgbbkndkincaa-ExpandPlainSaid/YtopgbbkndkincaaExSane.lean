/- The law's fixed example; ExpandNil, walked. -/
import Derived.Test.YtopgbbkndkincaaExTeller
import Derived.KernelRfl
namespace Go.Proofs.Ytopgbbkndkincaa
open Go.RowKit Go.PlainAid Go.Lib

section
variable {r : ByteArray} {cm : Bool} {acc rest : ByteArray} {a : Nat} {o : Option (ByteArray × Nat)} {p : Piece}
theorem Ex.stays (h : Ex r cm acc rest a o) (hz : 0 < rest.size) (hp : firstM rest cm = p) (hk : p.kind = 0) : Ex r cm (acc ++ writM cm (rest.extract 0 p.size)) (tail rest p.size) a o := by
  subst hp
  cases h with
  | done h => omega
  | stay _ _ h => exact h
  | rem _ h => rw [hk] at h; cases h
  | full _ h _ _ _ => exact absurd hk h
  | num _ h _ _ => rw [hk] at h; cases h
  | read _ h _ _ => rw [hk] at h; rcases h with h | h <;> cases h
  | widNo _ h _ => rw [hk] at h; cases h
  | widFull _ h _ => rw [hk] at h; cases h
  | wid _ h _ _ _ => rw [hk] at h; cases h
theorem Ex.nums (h : Ex r cm acc rest a o) (hz : 0 < rest.size) (hp : firstM rest cm = p) (hk : p.kind = 110) (ha : a < 500) : Ex r cm (acc ++ r) (tail rest p.size) (a + 1) o := by
  subst hp
  cases h with
  | done h => omega
  | stay _ h _ => rw [hk] at h; cases h
  | rem _ h => rw [hk] at h; cases h
  | full _ _ _ _ h => omega
  | num _ _ _ h => exact h
  | read _ h _ _ => rw [hk] at h; rcases h with h | h <;> cases h
  | widNo _ h _ => rw [hk] at h; cases h
  | widFull _ h _ => rw [hk] at h; cases h
  | wid _ h _ _ _ => rw [hk] at h; cases h
end

abbrev saneT : ByteArray := ⟨#[97, 92, 110, 120, 98]⟩
theorem sane_ex {o : Option (ByteArray × Nat)} (h : Ex ⟨#[51]⟩ false ⟨#[]⟩ saneT 0 o) : o = some (⟨#[97, 51, 98]⟩, 1) := by
  have h1 := h.stays (p := onePiece) (by decide) (by kernel_rfl) rfl
  have h2 := h1.nums (p := ⟨110, ⟨#[120]⟩, 0, 3⟩) (of_decide_eq_true (by kernel_rfl)) (by kernel_rfl) rfl (by omega)
  have h3 := h2.stays (p := onePiece) (of_decide_eq_true (by kernel_rfl)) (by kernel_rfl) rfl
  have h4 := h3.empty (by kernel_rfl)
  exact h4.trans (by kernel_rfl)

set_option maxHeartbeats 1000000 in
theorem sane_any (W : World) : Calls Try.prog 10 #[] W (Makes (.bool true) W) := by
  have HE := Lib.hid (expand_some fixedA saneT false W (by kernel_rfl) trivial)
  go_enter Try.func10, Try.ntmps10
  go_wp2_with fail
  refine HE.out.mono ?_
  rintro e W2 ⟨o, b, hE, _, hL, hO⟩
  have := sane_ex hE
  subst this
  obtain ⟨rfl, rfl⟩ := hO
  have HB : Hid (Below W.heap.size W W2) := ⟨hL.os, hL.tape, hL.output, hL.size, fun k hk => (hL.block k hk (fun h => h)).1⟩
  clear hE hL
  go_wp2_with fail
  go_ret
  exact ⟨rfl, HB.out⟩

set_option maxHeartbeats 1000000 in
theorem law_nil (s : ByteArray) (cm : Bool) (W : World) : Calls Try.prog 3 #[.string s, .bool cm] W (Makes (.bool true) W) := by
  have HE := Lib.hid (expand_none s cm W)
  have HS := Lib.hid sane_any
  go_enter Try.func3, Try.ntmps3
  go_wp2_with fail
  refine HE.out.mono ?_
  rintro e W2 ⟨rfl, hb⟩
  have HB := Lib.hid hb
  clear hb
  go_wp2_with fail
  refine (HS.out _).mono ?_
  rintro e W3 ⟨rfl, hb⟩
  have HB2 := Lib.hid (HB.out.trans (hb.mono HB.out.size))
  clear hb
  go_wp2_with fail
  go_ret
  exact ⟨rfl, HB2.out⟩
end Go.Proofs.Ytopgbbkndkincaa
