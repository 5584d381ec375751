/- Roman numbers written and read. -/
import Derived.Test.YtghpcfodjacdpaaDoorRgSum
namespace Go.Proofs.YtghpcfodjacdpaaDoor
open Go.RowKit Go.PlainAid Go.Shelf

theorem below_step {B : Nat} {w w1 w2 : World} (h1 : Below B w w1) (h2 : Below w1.heap.size w1 w2) (hB : B ≤ w.heap.size := by exact Nat.le_refl _) : Below B w w2 := h1.trans (Below.mono h2 (Nat.le_trans hB h1.size))
abbrev StrIs (S : ByteArray) (w : World) (e : Ending) (w' : World) : Prop := e = .returned (.string S) ∧ Below w.heap.size w w'
abbrev Ready (w : World) : Prop := NumsAt w ∧ 0 < w.heap.size
theorem Ready.below {w w' : World} (h : Ready w) (hb : Below w.heap.size w w') : Ready w' := ⟨h.1.below hb h.2, Nat.lt_of_lt_of_le h.2 hb.size⟩

/-- A number's roman texts, small (R) and great (U), and what the calls make of them. -/
structure RomIs (N : Nat) (R U : ByteArray) : Prop where
  n0 : 0 < N
  n1 : N ≤ 39999
  ne : (U.toList != R.toList) = true
  rom : ∀ w, Ready w → Calls Tryd.prog 20 #[.int .i64 N] w (StrIs R w)
  up : ∀ w, Calls Tryd.prog 21 #[.string R] w (StrIs U w)
  lowR : ∀ w, Calls Tryd.prog 19 #[.string R] w (StrIs R w)
  lowU : ∀ w, Calls Tryd.prog 19 #[.string U] w (StrIs R w)
  sum : ∀ w, Ready w → Calls Tryd.prog 18 #[.string R] w fun e w' => e = .returned (.int .i64 N) ∧ Below w.heap.size w w'

theorem rom_is (N : Nat) (h0 : 0 < N) (h1 : N ≤ 39999) : ∃ R U, RomIs N R U := by
  have hl := rom_len N
  have hsm : ∀ (j : Nat) (b : UInt8), (romL romT N)[j]? = some b → b.toNat < 128 := fun j b hb => (rom_small (rom_set (List.mem_of_getElem? hb))).1
  have hgr : ∀ (j : Nat) (b : UInt8), (Lib.toUpperA (romL romT N))[j]? = some b → b.toNat < 128 := fun j b hb => by
    obtain ⟨x, hx, rfl⟩ := List.mem_map.1 (show b ∈ (romL romT N).map Lib.upperB from List.mem_of_getElem? hb)
    exact (rom_small (rom_set hx)).2.2.2.1
  have hz : ∀ l : List UInt8, (⟨l.toArray⟩ : ByteArray).size = l.length := fun l => by rw [Lib.size_eq]
  refine ⟨⟨(romL romT N).toArray⟩, ⟨(Lib.toUpperA (romL romT N)).toArray⟩, h0, h1, ?_, fun w hw => roman_any N h0 h1 w hw.1 hw.2, ?_, ?_, ?_, ?_⟩
  · rw [Lib.toList_data, Lib.toList_data, bne_iff_ne]
    exact rom_great h0
  · intro w
    exact upper_at _ (by rw [hz]; omega) hsm w
  · intro w
    have := lower_at ⟨(romL romT N).toArray⟩ (by rw [hz]; omega) hsm w
    rw [show (⟨(romL romT N).toArray⟩ : ByteArray).data.toList = romL romT N from rfl, rom_lower] at this
    exact this
  · intro w
    have := lower_at ⟨(Lib.toUpperA (romL romT N)).toArray⟩ (by rw [hz]; unfold Lib.toUpperA; rw [List.length_map]; omega) hgr w
    rw [show (⟨(Lib.toUpperA (romL romT N)).toArray⟩ : ByteArray).data.toList = Lib.toUpperA (romL romT N) from rfl, rom_back] at this
    exact this
  · intro w hw
    have := sum_any ⟨(romL romT N).toArray⟩ (by rw [hz]; omega) w hw.1 hw.2
    rw [show (⟨(romL romT N).toArray⟩ : ByteArray).data.toList = romL romT N from rfl, sum_roman] at this
    exact this

abbrev NumP (N : Nat) (w : World) (e : Ending) (w' : World) : Prop := e = .returned (.tuple #[.int .i64 N, .int .i64 0]) ∧ Below w.heap.size w w'
set_option maxRecDepth 100000 in
set_option maxHeartbeats 1000000 in
theorem read_small {N : Nat} {R U : ByteArray} (H : Hid (RomIs N R U)) (w : World) (hw : Ready w) : Calls Tryd.prog 7 #[.string R] w (NumP N w) := by
  have h0 := H.out.n0
  have h1 := H.out.n1
  have HW := Lib.hid hw
  clear hw
  go_enter Tryd.func7, Tryd.ntmps7
  go_wp2_with fail
  refine (H.out.lowR _).mono ?_
  rintro e w1 ⟨rfl, b1⟩
  have HW1 := Lib.hid (HW.out.below b1)
  go_wp2_with fail
  refine (H.out.sum _ HW1.out).mono ?_
  rintro e w2 ⟨rfl, b2⟩
  have HW2 := Lib.hid (HW1.out.below b2)
  go_wp2_with fail
  refine (H.out.rom _ HW2.out).mono ?_
  rintro e w3 ⟨rfl, b3⟩
  go_wp2_with fail
  go_ret2
  exact ⟨rfl, below_step (below_step b1 b2) b3⟩

set_option maxRecDepth 100000 in
set_option maxHeartbeats 1000000 in
theorem read_great {N : Nat} {R U : ByteArray} (H : Hid (RomIs N R U)) (w : World) (hw : Ready w) : Calls Tryd.prog 7 #[.string U] w (NumP N w) := by
  have h0 := H.out.n0
  have h1 := H.out.n1
  have hne := H.out.ne
  have hne2 : (U.toList == R.toList) = false := by simpa [bne] using hne
  have HW := Lib.hid hw
  clear hw
  go_enter Tryd.func7, Tryd.ntmps7
  go_wp2_with fail
  refine (H.out.lowU _).mono ?_
  rintro e w1 ⟨rfl, b1⟩
  have HW1 := Lib.hid (HW.out.below b1)
  go_wp2_with fail
  refine (H.out.sum _ HW1.out).mono ?_
  rintro e w2 ⟨rfl, b2⟩
  have HW2 := Lib.hid (HW1.out.below b2)
  go_wp2_with fail
  refine (H.out.rom _ HW2.out).mono ?_
  rintro e w3 ⟨rfl, b3⟩
  go_wp2_with fail
  refine (H.out.up _).mono ?_
  rintro e w4 ⟨rfl, b4⟩
  go_wp2_with fail
  go_ret2
  exact ⟨rfl, below_step (below_step (below_step b1 b2) b3) b4⟩

set_option maxRecDepth 100000 in
set_option maxHeartbeats 1000000 in
theorem text_small {N : Nat} {R U : ByteArray} (H : Hid (RomIs N R U)) (w : World) (hw : Ready w) : Calls Tryd.prog 11 #[.int .i64 N, .string ⟨#[105]⟩] w (StrIs R w) := by
  have HW := Lib.hid hw
  clear hw
  go_enter Tryd.func11, Tryd.ntmps11
  go_wp2_with fail
  refine (H.out.rom _ HW.out).mono ?_
  rintro e w3 ⟨rfl, b3⟩
  go_wp2_with fail
  go_ret
  exact ⟨rfl, b3⟩
set_option maxRecDepth 100000 in
set_option maxHeartbeats 1000000 in
theorem text_great {N : Nat} {R U : ByteArray} (H : Hid (RomIs N R U)) (w : World) (hw : Ready w) : Calls Tryd.prog 11 #[.int .i64 N, .string ⟨#[73]⟩] w (StrIs U w) := by
  have HW := Lib.hid hw
  clear hw
  go_enter Tryd.func11, Tryd.ntmps11
  go_wp2_with fail
  refine (H.out.rom _ HW.out).mono ?_
  rintro e w3 ⟨rfl, b3⟩
  go_wp2_with fail
  refine (H.out.up _).mono ?_
  rintro e w4 ⟨rfl, b4⟩
  go_wp2_with fail
  go_ret
  exact ⟨rfl, below_step b3 b4⟩

abbrev WriteIs (S : ByteArray) (w : World) (e : Ending) (w' : World) : Prop := e = .returned (.tuple #[.string S, .int .i64 0]) ∧ Below w.heap.size w w'
theorem formError_I (w : World) : Calls Tryd.prog 9 #[.string ⟨#[73]⟩] w fun e w' => e = .returned (.int .i64 0) ∧ w = w' := by
  go_enter Tryd.func9, Tryd.ntmps9
  go_wp2_with fail
  go_ret
  exact ⟨rfl, rfl⟩
set_option maxRecDepth 100000 in
set_option maxHeartbeats 1000000 in
theorem write_form {N : Nat} {S F : ByteArray} (h1 : N ≤ 39999) (w : World)
    (HF : ∀ w, Calls Tryd.prog 9 #[.string F] w fun e w' => e = .returned (.int .i64 0) ∧ w = w')
    (HT : Hid (Calls Tryd.prog 11 #[.int .i64 N, .string F] w (StrIs S w))) : Calls Tryd.prog 5 #[.int .i64 N, .string F] w (WriteIs S w) := by
  have hr : rangeErr N = 0 := if_pos ⟨by omega, by omega⟩
  have HR := Lib.hid (rangeError_any N)
  rw [hr] at HR
  have HF' := Lib.hid HF
  clear hr HF
  go_enter Tryd.func5, Tryd.ntmps5
  go_wp2_with fail
  refine (HF'.out _).mono ?_
  rintro e w1 ⟨rfl, rfl⟩
  go_wp2_with fail
  refine (HR.out _).mono ?_
  rintro e w1 ⟨rfl, rfl⟩
  go_wp2_with fail
  refine HT.out.mono ?_
  rintro e w1 ⟨rfl, b⟩
  go_wp2_with fail
  go_ret2
  exact ⟨rfl, b⟩

end Go.Proofs.YtghpcfodjacdpaaDoor
