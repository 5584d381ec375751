/- Text: the document's. -/
import Derived.Test.YtkkcoajgpdpfkabDoorTxDigits
namespace Go.Proofs.YtkkcoajgpdpfkabDoor
open Go.RowKit Go.PlainAid Go.Shelf

theorem last_split {D : ByteArray} (h : 0 < D.size) : ∃ (l : List UInt8) (x : UInt8), D.data.toList = l ++ [x] ∧ bt D (D.size - 1) = (x.toNat : Int) ∧ (D.extract 0 (D.size - 1)).data.toList = l := by
  have hl : D.data.toList ≠ [] := by
    intro h0
    rw [Lib.size_eq, h0] at h
    exact Nat.lt_irrefl _ h
  refine ⟨D.data.toList.dropLast, D.data.toList.getLast hl, (List.dropLast_concat_getLast hl).symm, ?_, ?_⟩
  · unfold bt
    rw [dif_pos (by omega), List.getLast_eq_getElem]
    congr 2
  · simp only [ByteArray.data_extract, Array.toList_extract, List.extract_eq_take_drop]
    rw [Lib.size_eq, List.dropLast_eq_take]
    simp
theorem trim_cut {D : ByteArray} (h : 0 < D.size) (hb : bt D (D.size - 1) = 48) : trimS (D.extract 0 (D.size - 1)) = trimS D := by
  obtain ⟨l, x, h1, h2, h3⟩ := last_split h
  have hx : (x == 48) = true := by
    rw [beq_iff_eq]
    refine UInt8.toNat_inj.1 ?_
    show x.toNat = 48
    omega
  refine ba_ext ?_
  rw [trimS_list, trimS_list, h3, h1]
  unfold Lib.trimRightB
  rw [List.reverse_append]
  simp only [List.reverse_cons, List.reverse_nil, List.nil_append, List.singleton_append]
  rw [List.dropWhile_cons, if_pos hx]
theorem trim_stay {D : ByteArray} (h : 0 < D.size) (hb : bt D (D.size - 1) ≠ 48) : D = trimS D := by
  obtain ⟨l, x, h1, h2, h3⟩ := last_split h
  have hx : (x == 48) = false := by
    rw [beq_eq_false_iff_ne]
    rintro rfl
    exact hb (by rw [h2]; rfl)
  refine ba_ext ?_
  rw [trimS_list, h1]
  unfold Lib.trimRightB
  rw [List.reverse_append]
  simp only [List.reverse_cons, List.reverse_nil, List.nil_append, List.singleton_append]
  rw [List.dropWhile_cons, if_neg (by rw [hx]; simp)]
  simp
theorem trim_le (D : ByteArray) : (trimS D).size ≤ D.size := by
  rw [Lib.size_eq, trimS_list, Lib.size_eq]
  unfold Lib.trimRightB
  have h2 : (D.data.toList.reverse.dropWhile (· == 48)).length ≤ D.data.toList.reverse.length := (List.dropWhile_sublist _).length_le
  rw [List.length_reverse] at h2 ⊢
  exact h2

/-- Where the cutting of zeros stands. -/
structure CutIs (T D : ByteArray) : Prop where
  trim : trimS D = T
  pos : 0 < T.size
theorem CutIs.gt {T D : ByteArray} (h : CutIs T D) : 0 < D.size := by
  have := trim_le D
  rw [h.trim] at this
  exact Nat.lt_of_lt_of_le h.pos this
theorem CutIs.next {T D : ByteArray} (h : CutIs T D) (hb : bt D (D.size - 1) = 48) : CutIs T (D.extract 0 (D.size - 1)) := ⟨by rw [trim_cut h.gt hb]; exact h.trim, h.pos⟩
theorem CutIs.last {T D : ByteArray} (h : CutIs T D) (hb : bt D (D.size - 1) ≠ 48) : D = T := by rw [← h.trim]; exact trim_stay h.gt hb
def strSz (v : Value) : Nat := match v with | .string S => S.size | _ => 0

set_option maxRecDepth 100000 in
set_option maxHeartbeats 1000000 in
theorem rtext_zero (n u q r : Nat) (c : Int) (hs : ScaleIs c u) (w : World) (hq : (n : Int).tdiv u = q) (hr : (n : Int).tmod u = r) (hR : ((r : Int) * 10000).tdiv u = 0) (hq1 : q < 9223372036854775808) (hr1 : r < 720) :
    Calls Tryd.prog 14 #[.int .i64 n, .int .u8 c] w (TextIs (decS q ++ fracS 0 ++ chr c) w) := by
  have hu := runit_any c 0 0 0 (by omega) (by omega)
  rw [hs.unit] at hu
  have HU := Lib.hid hu
  have u0 := hs.u0
  have u1 := hs.u1
  have hcc := hs.one
  have hcv := fun W => one_string c hs.c0 (by have := hs.c1; omega) W
  have hne : ((u : Int) == 0) = false := by rw [beq_eq_false_iff_ne]; omega
  have HQ := Lib.hid (rdigits_any q hq1)
  have hq20 := decS_size hq1
  have hz1 : (chr c).size = 1 := rfl
  have hfr : decS q ++ fracS 0 ++ chr c = decS q ++ chr c := by
    rw [show fracS 0 = ⟨#[]⟩ from rfl, append_nil]
  rw [hfr]
  obtain ⟨Q, hQ⟩ : ∃ Q, decS q = Q := ⟨_, rfl⟩
  obtain ⟨C, hC⟩ : ∃ C, chr c = C := ⟨_, rfl⟩
  rw [hQ] at HQ hq20
  rw [hC] at hcv hz1
  rw [hQ, hC]
  clear hu hfr hQ hC hs
  rcases hcc with rfl | rfl | rfl | rfl
  all_goals
    go_enter Tryd.func14, Tryd.ntmps14
    go_wp2_with fail
    refine (HU.out _).mono ?_
    rintro e w1 ⟨rfl, b1⟩
    go_wp2_with fail
    refine (HQ.out _).mono ?_
    rintro e w2 ⟨rfl, b2⟩
    go_wp2_with fail
    go_ret2
    exact ⟨rfl, (kept_step b1 b2).alloc (kept_step b1 b2).size _⟩

/-- The document's digits behind the point: F, with a 1 in front; T without the zeros at the end. -/
structure RFracIs (R : Nat) (F T : ByteArray) : Prop where
  size : F.size = 5
  digits : ∀ w, Calls Tryd.prog 19 #[.int .i64 (10000 + R)] w (StrIs F w)
  cut : CutIs T (F.extract 1 5)
  le : T.size ≤ 4
  frac : fracS R = ⟨#[46]⟩ ++ T
theorem rfrac_is {R : Nat} (h : R < 10000) (h0 : R ≠ 0) : ∃ F T, RFracIs R F T := by
  have h5 := decS_five h
  have h4 : (four R) = (decS (10000 + R)).extract 1 5 := by unfold four; rw [h5]
  refine ⟨decS (10000 + R), trimS (four R), h5, fun w => ?_, ⟨by rw [h4], ?_⟩, ?_, if_neg h0⟩
  · have := rdigits_any (10000 + R) (by omega) w
    rw [show ((10000 + R : Nat) : Int) = 10000 + (R : Int) from by omega] at this
    exact this
  · rw [Lib.size_eq, trimS_list]
    exact List.length_pos_iff.2 (fun hh => h0 ((trim_zero h).1 hh))
  · have := trim_le (four R)
    rw [four_size h] at this
    exact this

set_option maxRecDepth 100000 in
set_option maxHeartbeats 1000000 in
theorem rtext_frac (n u q r R : Nat) (c : Int) (hs : ScaleIs c u) (w : World) (hq : (n : Int).tdiv u = q) (hr : (n : Int).tmod u = r) (hR : ((r : Int) * 10000).tdiv u = R) (hq1 : q < 9223372036854775808) (hr1 : r < 720) (hR1 : R < 10000) (hR0 : 0 < R) :
    Calls Tryd.prog 14 #[.int .i64 n, .int .u8 c] w (TextIs (decS q ++ fracS R ++ chr c) w) := by
  have hu := runit_any c 0 0 0 (by omega) (by omega)
  rw [hs.unit] at hu
  have HU := Lib.hid hu
  have u0 := hs.u0
  have u1 := hs.u1
  have hcc := hs.one
  have hcv := fun W => one_string c hs.c0 (by have := hs.c1; omega) W
  have hne : ((u : Int) == 0) = false := by rw [beq_eq_false_iff_ne]; omega
  have HQ := Lib.hid (rdigits_any q hq1)
  have hq20 := decS_size hq1
  have hz1 : (chr c).size = 1 := rfl
  obtain ⟨F, T, HF⟩ := rfrac_is hR1 (by omega)
  have HF := Lib.hid HF
  have h5 := HF.out.size
  have h4 := HF.out.le
  have hfr := HF.out.frac
  have HC := Lib.hid HF.out.cut
  obtain ⟨Q, hQ⟩ : ∃ Q, decS q = Q := ⟨_, rfl⟩
  obtain ⟨C, hC⟩ : ∃ C, chr c = C := ⟨_, rfl⟩
  rw [hQ] at HQ hq20
  rw [hC] at hcv hz1
  rw [hQ, hC, hfr]
  clear hu hfr hQ hC hs
  rcases hcc with rfl | rfl | rfl | rfl
  all_goals
    go_enter Tryd.func14, Tryd.ntmps14
    go_wp2_with fail
    refine (HU.out _).mono ?_
    rintro e w1 ⟨rfl, b1⟩
    go_wp2_with fail
    refine (HQ.out _).mono ?_
    rintro e w2 ⟨rfl, b2⟩
    go_wp2_with fail
    refine (HF.out.digits _).mono ?_
    rintro e w3 ⟨rfl, b3⟩
    have b13 := kept_step (kept_step b1 b2) b3
    clear b1 b2 b3
    go_wp2_with fail
    go_loop [9] (fun x => ∃ D : ByteArray, x = .string D ∧ Hid (CutIs T D) ∧ D.size ≤ 4) (fun x => strSz x)
    case atStart => exact ⟨_, rfl, HC, by rw [ByteArray.size_extract]; omega⟩
    case round =>
      obtain ⟨D, rfl, hc, hD4⟩ := hrel
      have hg := hc.out.gt
      have hgb := get_bt D
      by_cases hb : bt D (D.size - 1) = 48
      · have hnx := Lib.hid (hc.out.next hb)
        have hsz : (D.extract 0 (D.size - 1)).size = D.size - 1 := by rw [ByteArray.size_extract]; omega
        clear hc
        go_wp2_with fail
        go_round
        case rel => exact ⟨_, rfl, hnx, by omega⟩
        case measure => simp only [strSz]; omega
      · have hT := hc.out.last hb
        subst hT
        clear hc
        go_wp2_with fail
        go_ret2
        exact ⟨rfl, b13.alloc b13.size _⟩
end Go.Proofs.YtkkcoajgpdpfkabDoor
