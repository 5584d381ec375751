/- Protect. -/
import Derived.Test.YtopgbbkndkincaaDoorExBackPure
import Derived.Test.YtopgbbkndkincaaDoorExLay2
import Derived.Shelf.Strings.Replace
namespace Go.Proofs.YtopgbbkndkincaaDoor
open Go.RowKit Go.PlainAid Go.Shelf

theorem x_replace : Builder.Extra Tryd.prog Tryd.replaceL_ren := { sizeBuilder := by kernel_rfl, liesBuilder := by kernel_rfl, t5 := Tryd.underlying5, a5 := Tryd.isAgg5, z5 := Tryd.sizeOf5, v5 := Tryd.zeroValue5, infoByte := by kernel_rfl, cellsByte := by kernel_rfl, sizeByte := by kernel_rfl, neB5 := by decide }

/-- The library's one variable that is read on the way holds some number. -/
def MaxAt (w : World) : Prop := ∃ m, w.cell? ⟨0, 0, none⟩ = some (.int .i64 m)
theorem MaxAt.below {w w' : World} (h : MaxAt w) (hb : Below w.heap.size w w') : MaxAt w' := by
  obtain ⟨m, hm⟩ := h
  have hlt : 0 < w.heap.size := World.block_lt_of_cell? _ _ hm
  exact ⟨m, by rw [hb.cell (p := ⟨0, 0, none⟩) hlt]; exact hm⟩
theorem replace_at (s : ByteArray) (hs : s.size ≤ 100000) (w : World) (hm : MaxAt w) : Calls Tryd.prog 20 #[.string s, .string ⟨#[92]⟩, .string ⟨#[92, 92]⟩] w (Makes (.string (protB s)) w) := by
  obtain ⟨m, hm⟩ := hm
  have hc : Lib.countB s ⟨#[92]⟩ ≤ s.size := by
    unfold Lib.countB
    rw [show (⟨#[92]⟩ : ByteArray).data.toList = [92] from rfl, Lib.count_one, Lib.size_eq s]
    exact List.count_le_length
  have h := Any.strings_ReplaceAll Tryd.replaceL x_replace s ⟨#[92]⟩ ⟨#[92, 92]⟩ m w (by omega) hm (by decide) (by
    rw [show (⟨#[92, 92]⟩ : ByteArray).size = 2 from rfl]
    omega)
  rw [show (⟨#[92]⟩ : ByteArray).data.toList = [92] from rfl, show (⟨#[92, 92]⟩ : ByteArray).data.toList = [92, 92] from rfl, replaceAll_dbl] at h
  exact h

set_option maxRecDepth 100000 in
set_option maxHeartbeats 1000000 in
theorem protect_any (s : ByteArray) (h : lineB s = true) (hs : s.size ≤ 1000) (w : World) (hm : MaxAt w) : Calls Tryd.prog 11 #[.string s] w (Makes (.tuple #[.string (protB s), .int .i64 0]) w) := by
  have HL := Lib.hid (isLine_any s w)
  rw [h] at HL
  have HR := Lib.hid (replace_at s (by omega) w hm)
  have hz := protB_size s
  have hz2 : (protB s).size ≤ 2000 := by omega
  obtain ⟨t, ht⟩ : ∃ t, protB s = t := ⟨_, rfl⟩
  rw [ht] at HR hz2 ⊢
  clear h hs hm hz ht
  go_enter Tryd.func11, Tryd.ntmps11
  go_wp2_with fail
  refine HL.out.mono ?_
  rintro e w1 ⟨rfl, rfl⟩
  go_wp2_with fail
  refine HR.out.mono ?_
  rintro e w1 ⟨rfl, hb⟩
  go_wp2_with fail
  go_ret2
  exact ⟨rfl, hb⟩
end Go.Proofs.YtopgbbkndkincaaDoor
