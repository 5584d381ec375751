/- The law's example of boxes; the standard fonts as Boxes takes them; chars that are no names. -/
import Derived.Test.YtboophfcakdlcaaGlBoxes
import Derived.Test.YtboophfcakdlcaaFtSane
import Derived.Deep.DeepCutAuto
namespace Go.Proofs.Ytboophfcakdlcaa
open Go.RowKit Go.PlainAid Go.Shelf

theorem std_small : ∀ F ∈ [FR, FI, FB, FM, FS], validB F = true ∧ F.gs.length ≤ 1000 := by
  intro F hF
  simp only [List.mem_cons, List.not_mem_nil, or_false] at hF
  rcases hF with rfl | rfl | rfl | rfl | rfl
  · exact ⟨valid_R, by decide +kernel⟩
  · exact ⟨valid_I, by decide +kernel⟩
  · exact ⟨valid_B, by decide +kernel⟩
  · exact ⟨valid_M, by decide +kernel⟩
  · exact ⟨valid_S, by decide +kernel⟩
theorem std_mem {l : List FA} (h : l.map FA.F = [FR, FI, FB, FM, FS]) {x : FA} (hx : x ∈ l) : x.F ∈ [FR, FI, FB, FM, FS] := by rw [← h]; exact List.mem_map_of_mem hx
theorem std_len {l : List FA} (h : l.map FA.F = [FR, FI, FB, FM, FS]) : l.length = 5 := by have := congrArg List.length h; simpa using this
theorem std_fonts {l : List FA} {ao : Option Addr} {w : World} (h : l.map FA.F = [FR, FI, FB, FM, FS]) (hr : RowK encF 6 ao l w) (hok : ∀ x ∈ l, x.ok w) : Fonts ao l w :=
  ⟨hr, hok, fun x hx => by have := (std_small _ (std_mem h hx)).2; omega, by rw [std_len h]; omega, by rw [std_len h]; omega⟩
theorem std_valid {l : List FA} (h : l.map FA.F = [FR, FI, FB, FM, FS]) : ∀ x ∈ l, validB x.F = true := fun _x hx => (std_small _ (std_mem h hx)).1
theorem std_zero {l : List FA} (h : l.map FA.F = [FR, FI, FB, FM, FS]) : l[0]!.F = FR := by
  obtain ⟨x, r, rfl, hx, _⟩ := std_first h
  exact hx
theorem has_fi : hasB GR [102, 105] = true := by decide +kernel
theorem join_fi : joinedL RL [[102], [105]] = [[102, 105]] := by decide +kernel
theorem place_fi {l : List FA} (h : l[0]!.F = FR) (z : Int) : placeL l 0 z [[102, 105]] = ([⟨0, scaleZ (widL GR [102, 105]) z, 0, z, [102, 105]⟩], []) := by
  have hg : l[0]!.F.gs = GR := by rw [h]; rfl
  have hh : homeL l 0 [102, 105] = 0 := by
    unfold homeL
    rw [hg, has_fi]
    rfl
  unfold placeL
  rw [List.foldl_cons, List.foldl_nil]
  unfold stepP
  rw [hh, if_neg (by omega)]
  have ht : ((0 : Int)).toNat = 0 := rfl
  rw [ht, hg]
  rfl
theorem set_fi {l : List FA} (h : l[0]!.F = FR) : setL l 0 true [[102], [105]] = [[102, 105]] := by
  unfold setL
  rw [if_pos rfl, h]
  exact join_fi
set_option maxRecDepth 100000 in
set_option maxHeartbeats 4000000 in
theorem sane8_any (W : World) : Calls Try.prog 19 #[] W (Makes (.bool true) W) := by
  have HSt := Lib.hid (standard_any W)
  unfold StdP at HSt
  go_enter Try.func19, Try.ntmps19
  go_wp2_with fail
  refine HSt.out.mono ?_
  rintro e w1 ⟨g, l, rfl, hl, hr, hok, hb⟩
  have hF := std_fonts hl hr hok
  have hV := std_valid hl
  have h0 := std_zero hl
  have h5 := std_len hl
  have HBX : Hid (∀ (a : Option Addr) (w' : World), Below w1.heap.size w1 w' → RowK encS 1 a [[102], [105]] w' → (∀ b, a = some b → ∃ c off, b = ⟨c, off, none⟩) → Calls Try.prog 20 #[.slice (some ⟨g, 0, none⟩) 5 5, .agg #[.int .i64 0, .int .i64 10, .bool true, .bool false], .slice a 2 2, .slice none 0 0] w' (BoxesP l 0 10 true [[102], [105]] w')) := fun a w' hb hr hs => by
    have := boxes_ok (some ⟨g, 0, none⟩) l 5 0 10 true a [[102], [105]] 2 w' (hF.below hb) hV (by omega) (by decide) hr (by decide) hs (by decide)
    rw [h5] at this
    exact this
  unfold BoxesP at HBX
  simp only [set_fi h0, place_fi h0] at HBX
  obtain ⟨Z, hZ⟩ : ∃ Z, scaleZ (widL GR [102, 105]) 10 = Z := ⟨_, rfl⟩
  simp only [hZ] at HBX
  have HB := Lib.hid hb
  clear hl hr hok hb hF hV h0 h5 hZ HSt
  have HR : Hid (RowK encS 1 (some ⟨w1.heap.size, 0, none⟩) [[102], [105]] (w1.alloc (.cells #[.string ⟨#[102]⟩, .string ⟨#[105]⟩] 9))) := rowK_block (enc := encS) (k := 1) (fun _ => rfl) (heap_alloc_new w1 _) rfl
  have hb2 : Below w1.heap.size w1 (w1.alloc (.cells #[.string ⟨#[102]⟩, .string ⟨#[105]⟩] 9)) := (Below.refl _ _).alloc (Nat.le_refl _) _
  have HB2 := Lib.hid hb2
  clear hb2
  go_wp2_with fail
  refine (HBX.out _ _ HB2.out HR.out (fun b hb => by cases hb; exact ⟨_, _, rfl⟩)).mono ?_
  rintro e w3 ⟨vb, vm, rfl, hob, hom, hb3⟩
  obtain ⟨a1, c1, rfl, hr1⟩ := own_row encB_len (by decide) hob
  obtain ⟨a2, c2, rfl, hr2⟩ := own_row encS_len (by decide) hom
  obtain ⟨b, off, ha, hc⟩ := hr1
  obtain ⟨rfl, hbl⟩ := ha (by simp)
  have x4 : w3.cell? ⟨b, off + 4, none⟩ = some (.string ⟨#[102, 105]⟩) := by have := hc 0 (by simp) 4 _ rfl; simpa using this
  have HB3 := Lib.hid (HB.out.trans ((HB2.out.trans (hb3.mono HB2.out.size)).mono HB.out.size))
  clear hob hom hb3 hr2 hc ha HBX HR HB2
  go_wp2_with fail
  go_ret
  exact ⟨rfl, HB3.out⟩
end Go.Proofs.Ytboophfcakdlcaa
