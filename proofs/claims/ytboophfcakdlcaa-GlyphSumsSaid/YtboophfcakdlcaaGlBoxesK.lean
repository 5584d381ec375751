/- Chars become boxes: any good style, no pairs. -/
import Derived.Test.YtboophfcakdlcaaGlBad
import Derived.Test.YtboophfcakdlcaaGlKerned
import Derived.BigQuiet
import Derived.Deep.DeepCutAuto
namespace Go.Proofs.Ytboophfcakdlcaa
open Go.RowKit Go.PlainAid Go.Shelf

/-- The boxes. -/
def boxK (l : List FA) (own : Nat) (z : Int) (lg kn : Bool) (chars : List (List UInt8)) : List Bx' := if kn then kAcc l z (placeL l own z (setL l own lg chars)).1 (placeL l own z (setL l own lg chars)).1.length else (placeL l own z (setL l own lg chars)).1
/-- What Boxes gives. -/
def BoxesK (l : List FA) (own : Nat) (z : Int) (lg kn : Bool) (chars : List (List UInt8)) (W : World) (e : Ending) (w : World) : Prop :=
  ∃ vb vm, e = .returned (.tuple #[vb, vm, .int .i64 0]) ∧ OwnB W.heap.size vb (boxK l own z lg kn chars) w ∧ OwnS W.heap.size vm (placeL l own z (setL l own lg chars)).2 w ∧ Below W.heap.size W w
abbrev StK (p own : Nat) (z : Int) (lg kn : Bool) (w : World) : Prop := w.heap[p]? = some (.cells #[.int .i64 own, .int .i64 z, .bool lg, .bool kn] 52 (0, 0))
theorem StK.below {p own : Nat} {z : Int} {lg kn : Bool} {w w' : World} (h : StK p own z lg kn w) (hb : Below w.heap.size w w') : StK p own z lg kn w' := by
  show w'.heap[p]? = _
  rw [hb.block p (Array.getElem?_eq_some_iff.1 h).1]
  exact h
set_option maxRecDepth 100000 in
set_option maxHeartbeats 8000000 in
theorem boxesK_ok (ao : Option Addr) (l : List FA) (c : Nat) (own : Nat) (z : Int) (lg kn : Bool) (an : Option Addr) (chars : List (List UInt8)) (cn : Nat) (W : World) (h : Fonts ao l W) (hv : ∀ x ∈ l, validB x.F = true) (ho : own < l.length) (hz : sizeB z = true) (hn : RowK encS 1 an chars W) (hnl : chars.length ≤ 2000)
    (hs : ∀ a, an = some a → ∃ b off, a = ⟨b, off, none⟩) (hg : chars.all glyphNameB = true) :
    Calls Try.prog 20 #[.slice ao l.length c, .agg #[.int .i64 own, .int .i64 z, .bool lg, .bool kn], .slice an chars.length cn, .slice none 0 0] W (BoxesK l own z lg kn chars W) := by
  have hfew := h.few
  have hva : (l.all fun x => validB x.F) = true := List.all_eq_true.2 hv
  have hmem : l[own]! ∈ l := by rw [getElem!_pos l own ho]; exact List.getElem_mem ho
  have H1 : Hid (∀ W', Below W.heap.size W W' → Calls Try.prog 49 #[.slice ao l.length c] W' (Makes (.bool true) W')) := fun W' hb => by have := areFonts_any ao l c W' (h.below hb); rwa [hva] at this
  have H2 : Hid (∀ W', Calls Try.prog 50 #[.agg #[.int .i64 own, .int .i64 z, .bool lg, .bool kn], .slice ao l.length c] W' (Makes (.bool true) W')) := fun W' => style_ok own z lg kn ao l.length c W' ho hz hfew
  have H3 : Hid (∀ W', Below W.heap.size W W' → Calls Try.prog 51 #[.slice an chars.length cn] W' (Makes (.bool true) W')) := fun W' hb => by have := areChars_any an chars cn W' (hn.below hb) hnl; rwa [hg] at this
  have H4 := Lib.hid (fun W' => pairs0_any W')
  have H5 : Hid (∀ W', Below W.heap.size W W' → Calls Try.prog 53 #[.slice an chars.length cn, .slice none 0 0] W' (fun e w' => ∃ v, e = .returned v ∧ OwnS W'.heap.size v chars w' ∧ Below W'.heap.size W' w')) := fun W' hb => trans0_any an chars cn W' (hn.below hb) (by omega) hs
  have H6 : Hid (∀ (W' : World) (a : Option Addr) (k : Nat), Below W.heap.size W W' → RowK encS 1 a chars W' → Calls Try.prog 54 #[fontVal l[own]!, .slice a chars.length k] W' (fun e w' => ∃ v, e = .returned v ∧ OwnS W'.heap.size v (joinedL l[own]!.F.ls chars) w' ∧ Below W'.heap.size W' w')) := fun W' a k hb hr => joined_any l[own]! a chars k W' ((h.ok _ hmem).below hb) (hv _ hmem) hr hnl
  have hjl : (joinedL l[own]!.F.ls chars).length ≤ 2000 := by have := joined_len l[own]!.F.ls chars []; unfold joinedL; simp only [List.length_nil] at this; omega
  have H7 : Hid (∀ (W' : World) (a : Option Addr) (names : List (List UInt8)) (k : Nat), Below W.heap.size W W' → RowK encS 1 a names W' → names.length ≤ 2000 → Calls Try.prog 55 #[.slice ao l.length c, .agg #[.int .i64 own, .int .i64 z, .bool lg, .bool kn], .slice a names.length k] W' (PlacedP l own z names W')) := fun W' a names k hb hr hl => placed_any ao l c own z lg kn a names k W' (h.below hb) hv ho hz hr hl
  have H8 : Hid (∀ (W' : World) (a : Option Addr) (bs : List Bx') (k : Nat), Below W.heap.size W W' → RowK encB 7 a bs W' → bs.length ≤ 2000 → (∀ b ∈ bs, Fine l b) → Calls Try.prog 56 #[.slice ao l.length c, .int .i64 z, .slice a bs.length k] W' (fun e w' => ∃ v, e = .returned v ∧ OwnB W'.heap.size v (kAcc l z bs bs.length) w' ∧ Below W'.heap.size W' w')) := fun W' a bs k hb hr hl hf => kerned_any ao l c z a bs k W' (h.below hb) hv hz hr hl hf
  have HPF : Hid (∀ names, ∀ b ∈ (placeL l own z names).1, Fine l b) := fun names => place_fine l own ho z names ([], []) (fun b hb => absurd hb List.not_mem_nil)
  have HPL : Hid (∀ names, (placeL l own z names).1.length ≤ names.length) := fun names => by have := place_len l own z names ([], []); unfold placeL; simp only [List.length_nil] at this; omega
  have HBK : Hid (∀ names, setL l own lg chars = names → boxK l own z lg kn chars = if kn then kAcc l z (placeL l own z names).1 (placeL l own z names).1.length else (placeL l own z names).1) := fun names e => by unfold boxK; rw [e]
  have HSL : Hid (setL l own lg chars = if lg then joinedL l[own]!.F.ls chars else chars) := rfl
  unfold PlacedP at H7
  unfold BoxesK
  have hlt : (own : Int) < l.length := by omega
  have hz0 : (0 : Int) ≤ own := by omega
  obtain ⟨b, off, rfl, hb, hc⟩ := h.at_
  have hx := hc own ho
  have HCL := Lib.hid hnl
  have HJL := Lib.hid hjl
  generalize hBO : boxK l own z lg kn chars = BO at HBK ⊢
  generalize hSE : setL l own lg chars = SE at HBK HSL ⊢
  clear hBO hSE
  obtain ⟨X, hX⟩ : ∃ X, l[own]! = X := ⟨_, rfl⟩
  simp only [hX] at H6 HJL HSL hx ⊢
  clear h hv hva hmem hs hg hn hjl hc hX ho hz
  obtain ⟨⟨fn, fs, fz, gs, ls, ks⟩, ag, al, ak, cg, cl, ck⟩ := X
  have x0 := hx 0 _ rfl
  have x1 := hx 1 _ rfl
  have x2 := hx 2 _ rfl
  have x3 := hx 3 _ rfl
  have x4 := hx 4 _ rfl
  have x5 := hx 5 _ rfl
  simp only [fontVal] at H6
  simp only [Nat.add_zero] at x0 x1 x2 x3 x4 x5
  simp only at HJL HSL
  generalize mk8 fn = m1 at H6 x0
  clear hx
  go_enter Try.func20, Try.ntmps20
  go_upto_region 1 with fail
  generalize hw1 : W.alloc _ = w1
  have hb1 : Below W.heap.size W w1 := by rw [← hw1]; exact (Below.refl _ _).alloc (Nat.le_refl _) _
  have t1 : StK W.heap.size own z lg kn w1 := by rw [← hw1]; exact heap_alloc_new W _
  obtain ⟨p, hp⟩ : ∃ p, W.heap.size = p := ⟨_, rfl⟩
  have HPW : Hid (W.heap.size = p) := hp
  have HB1 := Lib.hid hb1
  rw [hp] at t1
  rw [hp]
  have HT1 := Lib.hid t1
  clear hw1 hb1 t1 hp
  go_wp2_with fail
  refine (H1.out _ HB1.out).mono ?_
  rintro e w2 ⟨rfl, hb2⟩
  have HB2 := Lib.hid (HB1.out.trans (hb2.mono HB1.out.size))
  have HT2 := Lib.hid (HT1.out.below hb2)
  have s0 := cell_of (j := 0) HT2.out rfl
  have s1 := cell_of (j := 1) HT2.out rfl
  have s2 := cell_of (j := 2) HT2.out rfl
  have s3 := cell_of (j := 3) HT2.out rfl
  clear hb2 HT1 HB1
  go_wp2_with fail
  refine (H2.out _).mono ?_
  rintro e w3 ⟨rfl, hb3⟩
  have HB3 := Lib.hid (HB2.out.trans (hb3.mono HB2.out.size))
  have HT3 := Lib.hid (HT2.out.below hb3)
  clear s0 s1 s2 s3 hb3 HT2 HB2
  go_wp2_with fail
  refine (H3.out _ HB3.out).mono ?_
  rintro e w4 ⟨rfl, hb4⟩
  have HB4 := Lib.hid (HB3.out.trans (hb4.mono HB3.out.size))
  have HT4 := Lib.hid (HT3.out.below hb4)
  clear hb4 HT3 HB3
  go_wp2_with fail
  refine (H4.out _).mono ?_
  rintro e w5 ⟨rfl, rfl⟩
  go_wp2_with fail
  refine (H5.out _ HB4.out).mono ?_
  rintro e w6 ⟨v, rfl, hov, hb6⟩
  obtain ⟨av, cv, rfl, hrv⟩ := own_row encS_len (by decide) hov
  have HB6 := Lib.hid (HB4.out.trans (hb6.mono HB4.out.size))
  have HT6 := Lib.hid (HT4.out.below hb6)
  have HRV := Lib.hid hrv
  have s0 := cell_of (j := 0) HT6.out rfl
  have s1 := cell_of (j := 1) HT6.out rfl
  have s2 := cell_of (j := 2) HT6.out rfl
  have s3 := cell_of (j := 3) HT6.out rfl
  clear hov hrv hb6 HT4 HB4
  cases lg with
  | false =>
    go_wp2_with fail
    refine (H7.out w6 av chars cv HB6.out HRV.out HCL.out).mono ?_
    rintro e w8 ⟨vb, vm, rfl, hob, hom, hb8⟩
    have HB8 := Lib.hid (HB6.out.trans (hb8.mono HB6.out.size))
    have HT8 := Lib.hid (HT6.out.below hb8)
    have HOB := Lib.hid (own_base hob HB6.out.size)
    have HOM := Lib.hid (own_base hom HB6.out.size)
    clear s0 s1 s2 s3 hob hom hb8
    have s3 := cell_of (j := 3) HT8.out rfl
    obtain rfl : SE = chars := HSL.out
    cases kn with
    | false =>
      have e := HBK.out SE rfl
      rw [if_neg Bool.false_ne_true] at e
      go_wp2_with fail
      go_ret3
      exact ⟨vb, vm, rfl, by rw [e]; exact HOB.out, HOM.out, HB8.out⟩
    | true =>
      have e := HBK.out SE rfl
      rw [if_pos rfl] at e
      have HE := Lib.hid e
      obtain ⟨P, hP⟩ : ∃ P, placeL l own z SE = P := ⟨_, rfl⟩
      have HPE := Lib.hid hP
      have HF1 := HPF.out SE
      have HL1 := HPL.out SE
      have hn1 := HCL.out
      rw [hP] at HF1 HL1
      simp only [hP] at HOB HOM HE ⊢
      have HP1 : Hid (P.1.length ≤ 2000) := Nat.le_trans HL1 hn1
      have HF1 := Lib.hid HF1
      clear hP HL1 hn1 e
      obtain ⟨Pb, Pm⟩ := P
      simp only at HOB HOM HE HP1 HF1 HPE ⊢
      obtain ⟨ab, cb, rfl, hrb⟩ := own_row encB_len (by decide) HOB.out
      have HRB := Lib.hid hrb
      clear hrb HOB
      have s1 := cell_of (j := 1) HT8.out rfl
      go_wp2_with fail
      refine (H8.out w8 ab Pb cb HB8.out HRB.out HP1.out HF1.out).mono ?_
      rintro e w9 ⟨v9, rfl, ho9, hb9⟩
      have HB9 := Lib.hid (HB8.out.trans (hb9.mono HB8.out.size))
      have HO9 := Lib.hid (own_base ho9 HB8.out.size)
      have HM9 := Lib.hid (owns_below HOM.out hb9)
      clear ho9 hb9 s1 s3
      go_wp2_with fail
      go_ret3
      exact ⟨v9, vm, rfl, by rw [HE.out]; exact HO9.out, by rw [HPE.out]; exact HM9.out, HB9.out⟩
  | true =>
    have cx := fun (i : Nat) => HB6.out.cell (p := ⟨b, off + own * 6 + i, none⟩) hb
    have y0 := (cx 0).trans x0
    have y1 := (cx 1).trans x1
    have y2 := (cx 2).trans x2
    have y3 := (cx 3).trans x3
    have y4 := (cx 4).trans x4
    have y5 := (cx 5).trans x5
    simp only [Nat.add_zero] at y0
    clear cx x0 x1 x2 x3 x4 x5
    go_wp2_with fail
    refine (H6.out w6 av cv HB6.out HRV.out).mono ?_
    rintro e w7 ⟨v7, rfl, ho7, hb7⟩
    obtain ⟨a7, c7, rfl, hr7⟩ := own_row encS_len (by decide) ho7
    have HB7 := Lib.hid (HB6.out.trans (hb7.mono HB6.out.size))
    have HT7 := Lib.hid (HT6.out.below hb7)
    have HR7 := Lib.hid hr7
    clear s0 s1 s2 s3 y0 y1 y2 y3 y4 y5 ho7 hr7 hb7
    have s0 := cell_of (j := 0) HT7.out rfl
    have s1 := cell_of (j := 1) HT7.out rfl
    have s2 := cell_of (j := 2) HT7.out rfl
    have s3 := cell_of (j := 3) HT7.out rfl
    go_wp2_with fail
    refine (H7.out w7 a7 (joinedL ls chars) c7 HB7.out HR7.out HJL.out).mono ?_
    rintro e w8 ⟨vb, vm, rfl, hob, hom, hb8⟩
    have HB8 := Lib.hid (HB7.out.trans (hb8.mono HB7.out.size))
    have HT8 := Lib.hid (HT7.out.below hb8)
    have HOB := Lib.hid (own_base hob HB7.out.size)
    have HOM := Lib.hid (own_base hom HB7.out.size)
    clear s0 s1 s2 s3 hob hom hb8
    have s3 := cell_of (j := 3) HT8.out rfl
    obtain rfl : SE = (joinedL ls chars) := HSL.out
    cases kn with
    | false =>
      have e := HBK.out (joinedL ls chars) rfl
      rw [if_neg Bool.false_ne_true] at e
      go_wp2_with fail
      go_ret3
      exact ⟨vb, vm, rfl, by rw [e]; exact HOB.out, HOM.out, HB8.out⟩
    | true =>
      have e := HBK.out (joinedL ls chars) rfl
      rw [if_pos rfl] at e
      have HE := Lib.hid e
      obtain ⟨P, hP⟩ : ∃ P, placeL l own z (joinedL ls chars) = P := ⟨_, rfl⟩
      have HPE := Lib.hid hP
      have HF1 := HPF.out (joinedL ls chars)
      have HL1 := HPL.out (joinedL ls chars)
      have hn1 := HJL.out
      rw [hP] at HF1 HL1
      simp only [hP] at HOB HOM HE ⊢
      have HP1 : Hid (P.1.length ≤ 2000) := Nat.le_trans HL1 hn1
      have HF1 := Lib.hid HF1
      clear hP HL1 hn1 e
      obtain ⟨Pb, Pm⟩ := P
      simp only at HOB HOM HE HP1 HF1 HPE ⊢
      obtain ⟨ab, cb, rfl, hrb⟩ := own_row encB_len (by decide) HOB.out
      have HRB := Lib.hid hrb
      clear hrb HOB
      have s1 := cell_of (j := 1) HT8.out rfl
      go_wp2_with fail
      refine (H8.out w8 ab Pb cb HB8.out HRB.out HP1.out HF1.out).mono ?_
      rintro e w9 ⟨v9, rfl, ho9, hb9⟩
      have HB9 := Lib.hid (HB8.out.trans (hb9.mono HB8.out.size))
      have HO9 := Lib.hid (own_base ho9 HB8.out.size)
      have HM9 := Lib.hid (owns_below HOM.out hb9)
      clear ho9 hb9 s1 s3
      go_wp2_with fail
      go_ret3
      exact ⟨v9, vm, rfl, by rw [HE.out]; exact HO9.out, by rw [HPE.out]; exact HM9.out, HB9.out⟩

set_option maxRecDepth 100000 in
set_option maxHeartbeats 4000000 in
theorem boxesK_bad (ao : Option Addr) (l : List FA) (c : Nat) (own : Nat) (z : Int) (lg kn : Bool) (an : Option Addr) (chars : List (List UInt8)) (cn : Nat) (W : World) (h : Fonts ao l W) (hv : ∀ x ∈ l, validB x.F = true) (ho : own < l.length) (hz : sizeB z = true) (hn : RowK encS 1 an chars W) (hnl : chars.length ≤ 2000)
    (hg : chars.all glyphNameB = false) :
    Calls Try.prog 20 #[.slice ao l.length c, .agg #[.int .i64 own, .int .i64 z, .bool lg, .bool kn], .slice an chars.length cn, .slice none 0 0] W (Makes (.tuple #[.slice none 0 0, .slice none 0 0, .int .i64 1]) W) := by
  have hfew := h.few
  have hva : (l.all fun x => validB x.F) = true := List.all_eq_true.2 hv
  have H1 : Hid (∀ W', Below W.heap.size W W' → Calls Try.prog 49 #[.slice ao l.length c] W' (Makes (.bool true) W')) := fun W' hb => by have := areFonts_any ao l c W' (h.below hb); rwa [hva] at this
  have H2 : Hid (∀ W', Calls Try.prog 50 #[.agg #[.int .i64 own, .int .i64 z, .bool lg, .bool kn], .slice ao l.length c] W' (Makes (.bool true) W')) := fun W' => style_ok own z lg kn ao l.length c W' ho hz hfew
  have H3 : Hid (∀ W', Below W.heap.size W W' → Calls Try.prog 51 #[.slice an chars.length cn] W' (Makes (.bool false) W')) := fun W' hb => by have := areChars_any an chars cn W' (hn.below hb) hnl; rwa [hg] at this
  clear h hv hva hg hn ho hz
  go_enter Try.func20, Try.ntmps20
  go_upto_region 1 with fail
  generalize hw1 : W.alloc _ = w1
  have hb1 : Below W.heap.size W w1 := by rw [← hw1]; exact (Below.refl _ _).alloc (Nat.le_refl _) _
  have t1 : StK W.heap.size own z lg kn w1 := by rw [← hw1]; exact heap_alloc_new W _
  obtain ⟨p, hp⟩ : ∃ p, W.heap.size = p := ⟨_, rfl⟩
  have HPW : Hid (W.heap.size = p) := hp
  have HB1 := Lib.hid hb1
  rw [hp] at t1
  rw [hp]
  have HT1 := Lib.hid t1
  clear hw1 hb1 t1 hp
  go_wp2_with fail
  refine (H1.out _ HB1.out).mono ?_
  rintro e w2 ⟨rfl, hb2⟩
  have HB2 := Lib.hid (HB1.out.trans (hb2.mono HB1.out.size))
  have HT2 := Lib.hid (HT1.out.below hb2)
  have s0 := cell_of (j := 0) HT2.out rfl
  have s1 := cell_of (j := 1) HT2.out rfl
  have s2 := cell_of (j := 2) HT2.out rfl
  have s3 := cell_of (j := 3) HT2.out rfl
  clear hb2 HT1 HB1
  go_wp2_with fail
  refine (H2.out _).mono ?_
  rintro e w3 ⟨rfl, hb3⟩
  have HB3 := Lib.hid (HB2.out.trans (hb3.mono HB2.out.size))
  have HT3 := Lib.hid (HT2.out.below hb3)
  clear s0 s1 s2 s3 hb3 HT2 HB2
  go_wp2_with fail
  refine (H3.out _ HB3.out).mono ?_
  rintro e w4 ⟨rfl, hb4⟩
  have HB4 := Lib.hid (HB3.out.trans (hb4.mono HB3.out.size))
  clear hb4 HT3 HB3
  go_wp2_with fail
  go_ret3
  exact ⟨rfl, HB4.out⟩


/-- The sum of the first k widths, as Go adds them. -/
def sumW (xs : List Bx') : Nat → Int
  | 0 => 0
  | k + 1 => wrap64 (sumW xs k + xs[k]!.wd)
set_option maxRecDepth 100000 in
set_option maxHeartbeats 4000000 in
theorem width_row (a1 : Option Addr) (xs : List Bx') (c1 : Nat) (W : World) (hr : RowK encB 7 a1 xs W) (hn : xs.length ≤ 5000) (hk : ∀ b ∈ xs, b.kind = 0 ∨ b.kind = 2) :
    Calls Try.prog 28 #[.slice a1 xs.length c1] W (Makes (.int .i64 (sumW xs xs.length)) W) := by
  have HR := Lib.hid hr
  have HKi := Lib.hid hk
  clear hr hk
  go_enter Try.func28, Try.ntmps28
  go_wp2_with fail
  go_loopw [3, 8] (fun u i wr => ∃ k : Nat, k ≤ xs.length ∧ u = .int .i64 (sumW xs k) ∧ i = .int .i64 k ∧ Hid (Below W.heap.size W wr)) (fun _ i _ => xs.length - (intOf i).toNat)
  case atStart => exact ⟨0, by omega, rfl, rfl, Below.refl _ _⟩
  case round =>
    obtain ⟨k, hk, rfl, rfl, hbl⟩ := hrel
    by_cases hlt : k < xs.length
    · have HLT := Lib.hid hlt
      obtain ⟨b2, o2, ha2, hc2⟩ := HR.out.below hbl.out
      obtain ⟨rfl, hl2⟩ := ha2 (by omega)
      have hx := hc2 k hlt
      have hkd := HKi.out xs[k]! (by rw [getElem!_pos xs k hlt]; exact List.getElem_mem hlt)
      have hz1 : (k : Int) < xs.length := by omega
      have hz0 : (0 : Int) ≤ k := by omega
      have hse : sumW xs (k + 1) = wrap64 (sumW xs k + xs[k]!.wd) := rfl
      obtain ⟨S0, hS0⟩ : ∃ S, sumW xs k = S := ⟨_, rfl⟩
      rw [hS0] at hse ⊢
      obtain ⟨X, hX⟩ : ∃ X, xs[k]! = X := ⟨_, rfl⟩
      rw [hX] at hx hkd hse
      obtain ⟨kd, wd, fo, sz, nm⟩ := X
      simp only at hkd hse
      have HSE := Lib.hid hse
      have x0 := hx 0 _ rfl
      have x1 := hx 1 _ rfl
      have x2 := hx 2 _ rfl
      have x3 := hx 3 _ rfl
      have x4 := hx 4 _ rfl
      have x5 := hx 5 _ rfl
      have x6 := hx 6 _ rfl
      simp only [Nat.add_zero] at x0 x1 x2 x3 x4 x5 x6
      generalize mk8 nm = sn at x4
      clear hX hx hc2 ha2 hlt hse hS0
      go_upto_region 5 with fail
      generalize hw4 : wr.alloc _ = w4
      have hb4 : Below wr.heap.size wr w4 := by rw [← hw4]; exact (Below.refl _ _).alloc (Nat.le_refl _) _
      have t4 : w4.heap[wr.heap.size]? = some (.cells #[.int .i64 kd, .int .i64 wd, .int .i64 fo, .int .i64 sz, .string sn, .string ⟨#[]⟩, .slice none 0 0] 70 (0, 0)) := by rw [← hw4]; exact heap_alloc_new wr _
      have HB4 := Lib.hid (hbl.out.trans (hb4.mono hbl.out.size))
      have y0 := cell_of (j := 0) t4 rfl
      have y1 := cell_of (j := 1) t4 rfl
      clear hw4 hb4 t4 hbl x0 x1 x2 x3 x4 x5 x6
      rcases hkd with rfl | rfl
      · go_wp2_with fail
        go_roundw
        case rel => exact ⟨k + 1, by have := HLT.out; omega, by rw [HSE.out], by go_num, HB4⟩
        case measure => have := HLT.out; simp only [intOf]; omega
      · go_wp2_with fail
        go_roundw
        case rel => exact ⟨k + 1, by have := HLT.out; omega, by rw [HSE.out], by go_num, HB4⟩
        case measure => have := HLT.out; simp only [intOf]; omega
    · obtain rfl : k = xs.length := by omega
      have hz1 : ¬ ((xs.length : Nat) : Int) < xs.length := by omega
      go_wp2_with fail
      go_ret
      exact ⟨rfl, hbl.out⟩

/-- A box as the law wants it. -/
def KGood (l : List FA) (z : Int) (xs : List Bx') (i : Nat) : Prop :=
  (xs[i]!.kind = 2 ∧ 0 < i ∧ i + 1 < xs.length ∧ Fine l xs[i - 1]! ∧ xs[i]!.wd = kernL l[xs[i - 1]!.font.toNat]!.F.ks xs[i - 1]!.nm xs[i + 1]!.nm z ∧ xs[i]!.wd ≠ 0)
  ∨ (Fine l xs[i]! ∧ xs[i]!.wd = scaleZ (widL l[xs[i]!.font.toNat]!.F.gs xs[i]!.nm) z ∧ xs[i]!.size = z)
theorem get_left {xs ys : List Bx'} {i : Nat} (h : i < xs.length) : (xs ++ ys)[i]! = xs[i]! := by
  rw [getElem!_pos (xs ++ ys) i (by rw [List.length_append]; omega), getElem!_pos xs i h, List.getElem_append_left h]
theorem get_snoc (xs : List Bx') (b : Bx') : (xs ++ [b])[xs.length]! = b := by
  rw [getElem!_pos (xs ++ [b]) xs.length (by simp)]; simp
theorem KGood.app {l : List FA} {z : Int} {xs ys : List Bx'} {i : Nat} (h : i < xs.length) (hg : KGood l z xs i) : KGood l z (xs ++ ys) i := by
  unfold KGood at hg ⊢
  rcases hg with ⟨h1, h2, h3, h4, h5, h6⟩ | hg
  · left
    rw [get_left h, get_left (show i - 1 < xs.length by omega), get_left h3]
    exact ⟨h1, h2, by rw [List.length_append]; omega, h4, h5, h6⟩
  · right
    rw [get_left h]
    exact hg
/-- A glyph in the size. -/
def Set1 (l : List FA) (z : Int) (b : Bx') : Prop := Fine l b ∧ b.wd = scaleZ (widL l[b.font.toNat]!.F.gs b.nm) z ∧ b.size = z
theorem kAcc_last (l : List FA) (z : Int) (bs : List Bx') (k : Nat) : ∃ xs, kAcc l z bs (k + 1) = xs ++ [bs[k]!] := ⟨_, rfl⟩
theorem kAcc_good (l : List FA) (z : Int) (bs : List Bx') (hb : ∀ b ∈ bs, Set1 l z b) : ∀ k, k ≤ bs.length → ∀ i, i < (kAcc l z bs k).length → KGood l z (kAcc l z bs k) i
  | 0, _, i, hi => absurd hi (Nat.not_lt_zero _)
  | k + 1, hk, i, hi => by
    have ih := kAcc_good l z bs hb k (by omega)
    have hs : Set1 l z bs[k]! := hb _ (by rw [getElem!_pos bs k (by omega)]; exact List.getElem_mem _)
    have snoc : ∀ xs : List Bx', (∀ j, j < xs.length → KGood l z (xs ++ [bs[k]!]) j) → ∀ j, j < (xs ++ [bs[k]!]).length → KGood l z (xs ++ [bs[k]!]) j := fun xs h j hj => by
      by_cases he : j < xs.length
      · exact h j he
      · have e : j = xs.length := by simp at hj; omega
        subst e
        right
        rw [get_snoc]
        exact hs
    by_cases hc : 0 < k ∧ kernB' l z bs[k - 1]! bs[k]! ≠ 0
    · have e : kAcc l z bs (k + 1) = (kAcc l z bs k ++ [⟨2, kernB' l z bs[k - 1]! bs[k]!, 0, 0, []⟩]) ++ [bs[k]!] := by
        conv => lhs; unfold kAcc
        rw [if_pos hc]
      rw [e] at hi ⊢
      obtain ⟨k', rfl⟩ : ∃ k', k = k' + 1 := ⟨k - 1, by omega⟩
      obtain ⟨xs, hxs⟩ := kAcc_last l z bs k'
      refine snoc _ (fun j hj => ?_) i hi
      by_cases he : j < (kAcc l z bs (k' + 1)).length
      · rw [List.append_assoc]
        exact (ih j he).app he
      · have e2 : j = (kAcc l z bs (k' + 1)).length := by simp at hj; omega
        subst e2
        have hl : (kAcc l z bs (k' + 1)).length = xs.length + 1 := by rw [hxs]; simp
        have g0 : ((kAcc l z bs (k' + 1) ++ [⟨2, kernB' l z bs[k' + 1 - 1]! bs[k' + 1]!, 0, 0, []⟩]) ++ [bs[k' + 1]!])[(kAcc l z bs (k' + 1)).length]! = ⟨2, kernB' l z bs[k' + 1 - 1]! bs[k' + 1]!, 0, 0, []⟩ := by
          rw [get_left (by simp), get_snoc]
        have g1 : ((kAcc l z bs (k' + 1) ++ [⟨2, kernB' l z bs[k' + 1 - 1]! bs[k' + 1]!, 0, 0, []⟩]) ++ [bs[k' + 1]!])[(kAcc l z bs (k' + 1)).length - 1]! = bs[k']! := by
          rw [get_left (by simp; omega), get_left (by omega), hl, Nat.add_sub_cancel, hxs, get_snoc]
        have g2 : ((kAcc l z bs (k' + 1) ++ [⟨2, kernB' l z bs[k' + 1 - 1]! bs[k' + 1]!, 0, 0, []⟩]) ++ [bs[k' + 1]!])[(kAcc l z bs (k' + 1)).length + 1]! = bs[k' + 1]! := by
          have := get_snoc (kAcc l z bs (k' + 1) ++ [⟨2, kernB' l z bs[k' + 1 - 1]! bs[k' + 1]!, 0, 0, []⟩]) bs[k' + 1]!
          rwa [List.length_append, List.length_singleton] at this
        left
        rw [g0, g1, g2]
        refine ⟨rfl, by omega, by simp, (hb _ (by rw [getElem!_pos bs k' (by omega)]; exact List.getElem_mem _)).1, ?_, hc.2⟩
        have h3 := hc.2
        show kernB' l z bs[k']! bs[k' + 1]! = _
        have h4 : kernB' l z bs[k']! bs[k' + 1]! ≠ 0 := h3
        unfold kernB' at h4 ⊢
        split at h4
        · rename_i hf
          rw [if_pos hf, hf]
        · exact absurd rfl h4
    · have e : kAcc l z bs (k + 1) = kAcc l z bs k ++ [bs[k]!] := by
        conv => lhs; unfold kAcc
        rw [if_neg hc, List.append_nil]
      rw [e] at hi ⊢
      exact snoc _ (fun j hj => (ih j hj).app hj) i hi
theorem plain_good (l : List FA) (z : Int) (bs : List Bx') (hb : ∀ b ∈ bs, Set1 l z b) (i : Nat) (hi : i < bs.length) : KGood l z bs i := by
  right
  exact hb _ (by rw [getElem!_pos bs i hi]; exact List.getElem_mem _)
theorem place_set (l : List FA) (own : Nat) (ho : own < l.length) (z : Int) : ∀ (ns : List (List UInt8)) (r : List Bx' × List (List UInt8)), (∀ b ∈ r.1, Set1 l z b) → ∀ b ∈ (ns.foldl (stepP l own z) r).1, Set1 l z b
  | [], r, h => h
  | nm :: ns, r, h => by
    rw [List.foldl_cons]
    refine place_set l own ho z ns _ ?_
    unfold stepP
    obtain hw | ⟨k, hk, hw, hh⟩ := home_ways l own nm ho
    · rw [hw, if_pos (by omega)]; exact h
    · rw [hw, if_neg (by omega)]
      intro b hb
      rcases List.mem_append.1 hb with hb | hb
      · exact h b hb
      · obtain rfl := List.mem_singleton.1 hb
        exact ⟨⟨rfl, k, rfl, hk, hh⟩, rfl, rfl⟩
/-- What the boxes of a row of chars are. -/
theorem boxK_good (l : List FA) (own : Nat) (ho : own < l.length) (z : Int) (lg kn : Bool) (chars : List (List UInt8)) (i : Nat) (hi : i < (boxK l own z lg kn chars).length) :
    KGood l z (boxK l own z lg kn chars) i ∧ ((boxK l own z lg kn chars)[i]!.kind = 2 → kn = true) := by
  have hb : ∀ b ∈ (placeL l own z (setL l own lg chars)).1, Set1 l z b := place_set l own ho z _ ([], []) (fun b h => absurd h List.not_mem_nil)
  cases kn with
  | true => exact ⟨kAcc_good l z _ hb _ (Nat.le_refl _) i hi, fun _ => rfl⟩
  | false =>
    have hi' : i < (placeL l own z (setL l own lg chars)).1.length := hi
    have h1 : Set1 l z (placeL l own z (setL l own lg chars)).1[i]! := hb _ (by rw [getElem!_pos _ i hi']; exact List.getElem_mem _)
    refine ⟨plain_good l z _ hb i hi', fun h2 => ?_⟩
    have h3 : (placeL l own z (setL l own lg chars)).1[i]!.kind = 2 := h2
    rw [h1.1.1] at h3
    exact absurd h3 (by decide)
theorem boxK_len (l : List FA) (own : Nat) (z : Int) (lg kn : Bool) (chars : List (List UInt8)) : (boxK l own z lg kn chars).length ≤ 2 * chars.length := by
  have h1 : (setL l own lg chars).length ≤ chars.length := by
    unfold setL
    split
    · have := joined_len l[own]!.F.ls chars []
      unfold joinedL
      simp only [List.length_nil] at this
      omega
    · exact Nat.le_refl _
  have h2 : (placeL l own z (setL l own lg chars)).1.length ≤ (setL l own lg chars).length := by
    have := place_len l own z (setL l own lg chars) ([], [])
    unfold placeL
    simp only [List.length_nil] at this
    omega
  unfold boxK
  split
  · have := kAcc_len l z (placeL l own z (setL l own lg chars)).1 (placeL l own z (setL l own lg chars)).1.length
    omega
  · omega
theorem boxK_kinds (l : List FA) (own : Nat) (ho : own < l.length) (z : Int) (lg kn : Bool) (chars : List (List UInt8)) : ∀ b ∈ boxK l own z lg kn chars, b.kind = 0 ∨ b.kind = 2 := fun b hb => by
  obtain ⟨i, hi, rfl⟩ := List.mem_iff_getElem.1 hb
  have := (boxK_good l own ho z lg kn chars i hi).1
  unfold KGood at this
  rw [getElem!_pos _ i hi] at this
  rcases this with h | h
  · exact Or.inr h.1
  · exact Or.inl h.1.1
end Go.Proofs.Ytboophfcakdlcaa
