/- Chars become boxes: a style without kerns, no pairs. -/
import Derived.Test.YtboophfcakdlcaaGlPlaced
import Derived.Test.YtboophfcakdlcaaGlJoined
import Derived.Test.YtboophfcakdlcaaGlAsk
import Derived.Deep.DeepCutAuto
namespace Go.Proofs.Ytboophfcakdlcaa
open Go.RowKit Go.PlainAid Go.Shelf

/-- The names that are set. -/
def setL (l : List FA) (own : Nat) (lg : Bool) (chars : List (List UInt8)) : List (List UInt8) := if lg then joinedL l[own]!.F.ls chars else chars
/-- What Boxes gives. -/
def BoxesP (l : List FA) (own : Nat) (z : Int) (lg : Bool) (chars : List (List UInt8)) (W : World) (e : Ending) (w : World) : Prop :=
  ∃ vb vm, e = .returned (.tuple #[vb, vm, .int .i64 0]) ∧ OwnB W.heap.size vb (placeL l own z (setL l own lg chars)).1 w ∧ OwnS W.heap.size vm (placeL l own z (setL l own lg chars)).2 w ∧ Below W.heap.size W w
abbrev StB (p own : Nat) (z : Int) (lg : Bool) (w : World) : Prop := w.heap[p]? = some (.cells #[.int .i64 own, .int .i64 z, .bool lg, .bool false] 52 (0, 0))
theorem StB.below {p own : Nat} {z : Int} {lg : Bool} {w w' : World} (h : StB p own z lg w) (hb : Below w.heap.size w w') : StB p own z lg w' := by
  show w'.heap[p]? = _
  rw [hb.block p (Array.getElem?_eq_some_iff.1 h).1]
  exact h
set_option maxRecDepth 100000 in
set_option maxHeartbeats 8000000 in
theorem boxes_ok (ao : Option Addr) (l : List FA) (c : Nat) (own : Nat) (z : Int) (lg : Bool) (an : Option Addr) (chars : List (List UInt8)) (cn : Nat) (W : World) (h : Fonts ao l W) (hv : ∀ x ∈ l, validB x.F = true) (ho : own < l.length) (hz : sizeB z = true) (hn : RowK encS 1 an chars W) (hnl : chars.length ≤ 2000)
    (hs : ∀ a, an = some a → ∃ b off, a = ⟨b, off, none⟩) (hg : chars.all glyphNameB = true) :
    Calls Try.prog 20 #[.slice ao l.length c, .agg #[.int .i64 own, .int .i64 z, .bool lg, .bool false], .slice an chars.length cn, .slice none 0 0] W (BoxesP l own z lg chars W) := by
  have hfew := h.few
  have hva : (l.all fun x => validB x.F) = true := List.all_eq_true.2 hv
  have hmem : l[own]! ∈ l := by rw [getElem!_pos l own ho]; exact List.getElem_mem ho
  have H1 : Hid (∀ W', Below W.heap.size W W' → Calls Try.prog 49 #[.slice ao l.length c] W' (Makes (.bool true) W')) := fun W' hb => by have := areFonts_any ao l c W' (h.below hb); rwa [hva] at this
  have H2 : Hid (∀ W', Calls Try.prog 50 #[.agg #[.int .i64 own, .int .i64 z, .bool lg, .bool false], .slice ao l.length c] W' (Makes (.bool true) W')) := fun W' => style_ok own z lg false ao l.length c W' ho hz hfew
  have H3 : Hid (∀ W', Below W.heap.size W W' → Calls Try.prog 51 #[.slice an chars.length cn] W' (Makes (.bool true) W')) := fun W' hb => by have := areChars_any an chars cn W' (hn.below hb) hnl; rwa [hg] at this
  have H4 := Lib.hid (fun W' => pairs0_any W')
  have H5 : Hid (∀ W', Below W.heap.size W W' → Calls Try.prog 53 #[.slice an chars.length cn, .slice none 0 0] W' (fun e w' => ∃ v, e = .returned v ∧ OwnS W'.heap.size v chars w' ∧ Below W'.heap.size W' w')) := fun W' hb => trans0_any an chars cn W' (hn.below hb) (by omega) hs
  have H6 : Hid (∀ (W' : World) (a : Option Addr) (k : Nat), Below W.heap.size W W' → RowK encS 1 a chars W' → Calls Try.prog 54 #[fontVal l[own]!, .slice a chars.length k] W' (fun e w' => ∃ v, e = .returned v ∧ OwnS W'.heap.size v (joinedL l[own]!.F.ls chars) w' ∧ Below W'.heap.size W' w')) := fun W' a k hb hr => joined_any l[own]! a chars k W' ((h.ok _ hmem).below hb) (hv _ hmem) hr hnl
  have hjl : (joinedL l[own]!.F.ls chars).length ≤ 2000 := by have := joined_len l[own]!.F.ls chars []; unfold joinedL; simp only [List.length_nil] at this; omega
  have H7 : Hid (∀ (W' : World) (a : Option Addr) (names : List (List UInt8)) (k : Nat), Below W.heap.size W W' → RowK encS 1 a names W' → names.length ≤ 2000 → Calls Try.prog 55 #[.slice ao l.length c, .agg #[.int .i64 own, .int .i64 z, .bool lg, .bool false], .slice a names.length k] W' (PlacedP l own z names W')) := fun W' a names k hb hr hl => placed_any ao l c own z lg false a names k W' (h.below hb) hv ho hz hr hl
  unfold PlacedP at H7
  unfold BoxesP
  have hlt : (own : Int) < l.length := by omega
  have hz0 : (0 : Int) ≤ own := by omega
  obtain ⟨b, off, rfl, hb, hc⟩ := h.at_
  have hx := hc own ho
  have HCL := Lib.hid hnl
  have HJL := Lib.hid hjl
  unfold setL
  obtain ⟨X, hX⟩ : ∃ X, l[own]! = X := ⟨_, rfl⟩
  simp only [hX] at H6 HJL hx ⊢
  clear h hv hva hmem hs hg hn hjl hc hX ho hz
  obtain ⟨⟨fn, fs, fz, gs, ls, ks⟩, ag, al, ak, cg, cl, ck⟩ := X
  have x0 := hx 0 _ rfl
  have x1 := hx 1 _ rfl
  have x2 := hx 2 _ rfl
  have x3 := hx 3 _ rfl
  have x4 := hx 4 _ rfl
  have x5 := hx 5 _ rfl
  simp only [fontVal] at H6
  simp only [Nat.add_zero] at x0 x1 x2 x3 x4 x5
  simp only at HJL
  generalize mk8 fn = m1 at H6 x0
  clear hx
  go_enter Try.func20, Try.ntmps20
  go_upto_region 1 with fail
  generalize hw1 : W.alloc _ = w1
  have hb1 : Below W.heap.size W w1 := by rw [← hw1]; exact (Below.refl _ _).alloc (Nat.le_refl _) _
  have t1 : StB W.heap.size own z lg w1 := by rw [← hw1]; exact heap_alloc_new W _
  obtain ⟨p, hp⟩ : ∃ p, W.heap.size = p := ⟨_, rfl⟩
  have HPW : Hid (W.heap.size = p) := hp
  have HB1 := Lib.hid hb1
  rw [hp] at t1
  rw [hp]
  have HT1 := Lib.hid t1
  clear hw1 hb1 t1 hp
  go_wp2_with fail
  refine (H1.out _ HB1.out).mono ?_
  rintro e w2 ⟨rfl, hb2⟩
  have HB2 := Lib.hid (HB1.out.trans (hb2.mono HB1.out.size))
  have HT2 := Lib.hid (HT1.out.below hb2)
  have s0 := cell_of (j := 0) HT2.out rfl
  have s1 := cell_of (j := 1) HT2.out rfl
  have s2 := cell_of (j := 2) HT2.out rfl
  have s3 := cell_of (j := 3) HT2.out rfl
  clear hb2 HT1 HB1
  go_wp2_with fail
  refine (H2.out _).mono ?_
  rintro e w3 ⟨rfl, hb3⟩
  have HB3 := Lib.hid (HB2.out.trans (hb3.mono HB2.out.size))
  have HT3 := Lib.hid (HT2.out.below hb3)
  clear s0 s1 s2 s3 hb3 HT2 HB2
  go_wp2_with fail
  refine (H3.out _ HB3.out).mono ?_
  rintro e w4 ⟨rfl, hb4⟩
  have HB4 := Lib.hid (HB3.out.trans (hb4.mono HB3.out.size))
  have HT4 := Lib.hid (HT3.out.below hb4)
  clear hb4 HT3 HB3
  go_wp2_with fail
  refine (H4.out _).mono ?_
  rintro e w5 ⟨rfl, rfl⟩
  go_wp2_with fail
  refine (H5.out _ HB4.out).mono ?_
  rintro e w6 ⟨v, rfl, hov, hb6⟩
  obtain ⟨av, cv, rfl, hrv⟩ := own_row encS_len (by decide) hov
  have HB6 := Lib.hid (HB4.out.trans (hb6.mono HB4.out.size))
  have HT6 := Lib.hid (HT4.out.below hb6)
  have HRV := Lib.hid hrv
  have s0 := cell_of (j := 0) HT6.out rfl
  have s1 := cell_of (j := 1) HT6.out rfl
  have s2 := cell_of (j := 2) HT6.out rfl
  have s3 := cell_of (j := 3) HT6.out rfl
  clear hov hrv hb6 HT4 HB4
  cases lg with
  | false =>
    go_wp2_with fail
    refine (H7.out w6 av chars cv HB6.out HRV.out HCL.out).mono ?_
    rintro e w8 ⟨vb, vm, rfl, hob, hom, hb8⟩
    have HB8 := Lib.hid (HB6.out.trans (hb8.mono HB6.out.size))
    have HT8 := Lib.hid (HT6.out.below hb8)
    have HOB := Lib.hid (own_base hob HB6.out.size)
    have HOM := Lib.hid (own_base hom HB6.out.size)
    clear s0 s1 s2 s3 hob hom hb8
    have s3 := cell_of (j := 3) HT8.out rfl
    go_wp2_with fail
    go_ret3
    exact ⟨vb, vm, rfl, HOB.out, HOM.out, HB8.out⟩
  | true =>
    have cx := fun (i : Nat) => HB6.out.cell (p := ⟨b, off + own * 6 + i, none⟩) hb
    have y0 := (cx 0).trans x0
    have y1 := (cx 1).trans x1
    have y2 := (cx 2).trans x2
    have y3 := (cx 3).trans x3
    have y4 := (cx 4).trans x4
    have y5 := (cx 5).trans x5
    simp only [Nat.add_zero] at y0
    clear cx x0 x1 x2 x3 x4 x5
    go_wp2_with fail
    refine (H6.out w6 av cv HB6.out HRV.out).mono ?_
    rintro e w7 ⟨v7, rfl, ho7, hb7⟩
    obtain ⟨a7, c7, rfl, hr7⟩ := own_row encS_len (by decide) ho7
    have HB7 := Lib.hid (HB6.out.trans (hb7.mono HB6.out.size))
    have HT7 := Lib.hid (HT6.out.below hb7)
    have HR7 := Lib.hid hr7
    clear s0 s1 s2 s3 y0 y1 y2 y3 y4 y5 ho7 hr7 hb7
    have s0 := cell_of (j := 0) HT7.out rfl
    have s1 := cell_of (j := 1) HT7.out rfl
    have s2 := cell_of (j := 2) HT7.out rfl
    have s3 := cell_of (j := 3) HT7.out rfl
    go_wp2_with fail
    refine (H7.out w7 a7 (joinedL ls chars) c7 HB7.out HR7.out HJL.out).mono ?_
    rintro e w8 ⟨vb, vm, rfl, hob, hom, hb8⟩
    have HB8 := Lib.hid (HB7.out.trans (hb8.mono HB7.out.size))
    have HT8 := Lib.hid (HT7.out.below hb8)
    have HOB := Lib.hid (own_base hob HB7.out.size)
    have HOM := Lib.hid (own_base hom HB7.out.size)
    clear s0 s1 s2 s3 hob hom hb8
    have s3 := cell_of (j := 3) HT8.out rfl
    go_wp2_with fail
    go_ret3
    exact ⟨vb, vm, rfl, HOB.out, HOM.out, HB8.out⟩
end Go.Proofs.Ytboophfcakdlcaa
