/- The document's book: Step, Format, Value, Text, FormatOf, Move, Rename. -/
import Derived.Test.YtopgbbkndkincaaGreatDoorRdStep
import Derived.Test.YtopgbbkndkincaaGreatDoorRwFill
namespace Go.Proofs.YtopgbbkndkincaaGreatDoor
open Go.RowKit Go.PlainAid Go.Shelf

section
variable {B b : Nat} {v : Value} {l : List Row} {w w' : World}
set_option maxRecDepth 100000 in
set_option maxHeartbeats 2000000 in
theorem rstep_any (nm : ByteArray) (x : Int) (hnm : nm.size ≤ maxLen) (h : RefAt B b v l w) : Calls Tryz.prog 14 #[.pointer (some ⟨b, 0, none⟩), .string nm, .int .i64 x] w (StepP B b v (chgR nm (if fitB x then 0 else 5) (updS x) l) w) := by
  have HN := Lib.hid (rIsName_any nm (by unfold maxLen at hnm; omega) w)
  have HF := Lib.hid (rfits_any x w)
  rcases nameErr_ways nm with ⟨hn, hb⟩ | ⟨hn, hb⟩
  · rw [hb] at HN
    cases hf : fitB x with
    | false =>
      rw [hf] at HF
      rw [if_neg (by simp), chg_err _ _ hn (by decide)]
      have HH := Lib.hid h
      clear hn hb hf h
      go_enter Tryz.func14, Tryz.ntmps14
      go_wp2_with fail
      refine HN.out.mono ?_
      rintro e w1 ⟨rfl, rfl⟩
      go_wp2_with fail
      refine HF.out.mono ?_
      rintro e w1 ⟨rfl, rfl⟩
      go_wp2_with fail
      go_ret
      exact step_same HH.out ⟨rfl, Below.refl _ _⟩
    | true =>
      rw [hf] at HF
      rw [if_pos rfl, chg_ok _ _ hn]
      have HH := Lib.hid h
      have HG := Lib.hid (rget_any nm h)
      obtain ⟨r, hr⟩ : ∃ r, getR nm l = r := ⟨_, rfl⟩
      rw [hr] at HG ⊢
      clear hn hb hf h hr
      go_enter Tryz.func14, Tryz.ntmps14
      go_wp2_with fail
      refine HN.out.mono ?_
      rintro e w1 ⟨rfl, rfl⟩
      go_wp2_with fail
      refine HF.out.mono ?_
      rintro e w1 ⟨rfl, rfl⟩
      go_wp2_with fail
      refine HG.out.mono ?_
      rintro e w2 ⟨rfl, hb2⟩
      have hb3 : Below w.heap.size w (w2.alloc (.cells #[.string r.name, .int .i64 r.value, .int .i64 x, .string r.form] 62)) := hb2.alloc hb2.size _
      have HP := Lib.hid (rput_any (updS x r) (HH.out.below hb3))
      have HB := Lib.hid hb3
      clear hb3
      go_wp2_with fail
      refine HP.out.mono ?_
      rintro e w4 hs4
      obtain ⟨rfl, h5, h6⟩ := kept_step HB.out hs4
      have H5 := Lib.hid h5
      have H6 := Lib.hid h6
      clear hs4 h5 h6
      go_wp2_with fail
      go_ret
      exact ⟨rfl, H5.out, H6.out⟩
  · rw [hb] at HN
    rw [chg_name _ _ _ (by rw [hn]; decide), hn]
    have HH := Lib.hid h
    clear hn hb h
    go_enter Tryz.func14, Tryz.ntmps14
    go_wp2_with fail
    refine HN.out.mono ?_
    rintro e w1 ⟨rfl, rfl⟩
    go_wp2_with fail
    go_ret
    exact step_same HH.out ⟨rfl, Below.refl _ _⟩
set_option maxRecDepth 100000 in
set_option maxHeartbeats 2000000 in
theorem rformat_any (nm : ByteArray) (x : ByteArray) (hx : x.size ≤ maxLen) (hnm : nm.size ≤ maxLen) (h : RefAt B b v l w) : Calls Tryz.prog 16 #[.pointer (some ⟨b, 0, none⟩), .string nm, .string x] w (StepP B b v (chgR nm (if formB x then 0 else 4) (updF x) l) w) := by
  have HN := Lib.hid (rIsName_any nm (by unfold maxLen at hnm; omega) w)
  have HF := Lib.hid (risForm_any x (by unfold maxLen at hx; omega) w)
  rcases nameErr_ways nm with ⟨hn, hb⟩ | ⟨hn, hb⟩
  · rw [hb] at HN
    cases hf : formB x with
    | false =>
      rw [hf] at HF
      rw [if_neg (by simp), chg_err _ _ hn (by decide)]
      have HH := Lib.hid h
      clear hn hb hf h
      go_enter Tryz.func16, Tryz.ntmps16
      go_wp2_with fail
      refine HN.out.mono ?_
      rintro e w1 ⟨rfl, rfl⟩
      go_wp2_with fail
      refine HF.out.mono ?_
      rintro e w1 ⟨rfl, rfl⟩
      go_wp2_with fail
      go_ret
      exact step_same HH.out ⟨rfl, Below.refl _ _⟩
    | true =>
      rw [hf] at HF
      rw [if_pos rfl, chg_ok _ _ hn]
      have HH := Lib.hid h
      have HG := Lib.hid (rget_any nm h)
      obtain ⟨r, hr⟩ : ∃ r, getR nm l = r := ⟨_, rfl⟩
      rw [hr] at HG ⊢
      clear hn hb hf h hr
      go_enter Tryz.func16, Tryz.ntmps16
      go_wp2_with fail
      refine HN.out.mono ?_
      rintro e w1 ⟨rfl, rfl⟩
      go_wp2_with fail
      refine HF.out.mono ?_
      rintro e w1 ⟨rfl, rfl⟩
      go_wp2_with fail
      refine HG.out.mono ?_
      rintro e w2 ⟨rfl, hb2⟩
      have hb3 : Below w.heap.size w (w2.alloc (.cells #[.string r.name, .int .i64 r.value, .int .i64 r.step, .string x] 62)) := hb2.alloc hb2.size _
      have HP := Lib.hid (rput_any (updF x r) (HH.out.below hb3))
      have HB := Lib.hid hb3
      clear hb3
      go_wp2_with fail
      refine HP.out.mono ?_
      rintro e w4 hs4
      obtain ⟨rfl, h5, h6⟩ := kept_step HB.out hs4
      have H5 := Lib.hid h5
      have H6 := Lib.hid h6
      clear hs4 h5 h6
      go_wp2_with fail
      go_ret
      exact ⟨rfl, H5.out, H6.out⟩
  · rw [hb] at HN
    rw [chg_name _ _ _ (by rw [hn]; decide), hn]
    have HH := Lib.hid h
    clear hn hb h
    go_enter Tryz.func16, Tryz.ntmps16
    go_wp2_with fail
    refine HN.out.mono ?_
    rintro e w1 ⟨rfl, rfl⟩
    go_wp2_with fail
    go_ret
    exact step_same HH.out ⟨rfl, Below.refl _ _⟩

theorem row_field0 (a c d f : Value) (w : World) : (Instr.field 62 (.agg #[a, c, d, f]) 1).run Tryz.prog w = .ok c w := by kernel_rfl
theorem row_field3 (a c d f : Value) (w : World) : (Instr.field 62 (.agg #[a, c, d, f]) 3).run Tryz.prog w = .ok f w := by kernel_rfl
/-- What a name that is no name is told, and another one. -/
def askR (nm : ByteArray) (bad good : Value) : Value := if nameErr nm ≠ 0 then .tuple #[bad, .int .i64 6] else .tuple #[good, .int .i64 0]
theorem rvalue_any (nm : ByteArray) (hnm : nm.size ≤ maxLen) (h : RefAt B b v l w) : Calls Tryz.prog 45 #[.pointer (some ⟨b, 0, none⟩), .string nm] w (Makes (askR nm (.int .i64 0) (.int .i64 (getR nm l).value)) w) := by
  have HN := Lib.hid (rIsName_any nm (by unfold maxLen at hnm; omega) w)
  have HG := Lib.hid (rget_any nm h)
  have hfd := row_field0
  unfold askR
  rcases nameErr_ways nm with ⟨hn, hb⟩ | ⟨hn, hb⟩
  · rw [hb] at HN
    rw [if_neg (by simpa using hn)]
    clear hn hb h
    go_enter Tryz.func45, Tryz.ntmps45
    go_wp2_with fail
    refine HN.out.mono ?_
    rintro e w1 ⟨rfl, rfl⟩
    go_wp2_with fail
    refine HG.out.mono ?_
    rintro e w2 ⟨rfl, hb2⟩
    go_wp2_with fail
    go_ret2
    exact ⟨rfl, hb2⟩
  · rw [hb] at HN
    rw [if_pos (by rw [hn]; decide)]
    clear hn hb h
    go_enter Tryz.func45, Tryz.ntmps45
    go_wp2_with fail
    refine HN.out.mono ?_
    rintro e w1 ⟨rfl, rfl⟩
    go_wp2_with fail
    go_ret2
    exact ⟨rfl, Below.refl _ _⟩
theorem rformatOf_any (nm : ByteArray) (hnm : nm.size ≤ maxLen) (h : RefAt B b v l w) : Calls Tryz.prog 49 #[.pointer (some ⟨b, 0, none⟩), .string nm] w (Makes (askR nm (.string ⟨#[]⟩) (.string (getR nm l).form)) w) := by
  have HN := Lib.hid (rIsName_any nm (by unfold maxLen at hnm; omega) w)
  have HG := Lib.hid (rget_any nm h)
  have hfd := row_field3
  unfold askR
  rcases nameErr_ways nm with ⟨hn, hb⟩ | ⟨hn, hb⟩
  · rw [hb] at HN
    rw [if_neg (by simpa using hn)]
    clear hn hb h
    go_enter Tryz.func49, Tryz.ntmps49
    go_wp2_with fail
    refine HN.out.mono ?_
    rintro e w1 ⟨rfl, rfl⟩
    go_wp2_with fail
    refine HG.out.mono ?_
    rintro e w2 ⟨rfl, hb2⟩
    go_wp2_with fail
    go_ret2
    exact ⟨rfl, hb2⟩
  · rw [hb] at HN
    rw [if_pos (by rw [hn]; decide)]
    clear hn hb h
    go_enter Tryz.func49, Tryz.ntmps49
    go_wp2_with fail
    refine HN.out.mono ?_
    rintro e w1 ⟨rfl, rfl⟩
    go_wp2_with fail
    go_ret2
    exact ⟨rfl, Below.refl _ _⟩
/-- A register's text, or why it has none. -/
def textR (nm : ByteArray) (x : Int) (f : ByteArray) : Value := if nameErr nm ≠ 0 then .tuple #[.string ⟨#[]⟩, .int .i64 6] else .tuple #[.string (wrS x f), .int .i64 (wrE x f)]
set_option maxRecDepth 100000 in
set_option maxHeartbeats 1000000 in
theorem rtext_any (nm : ByteArray) (hnm : nm.size ≤ maxLen) (hf : (getR nm l).form.size ≤ 100) (h : RefAt B b v l w) : Calls Tryz.prog 47 #[.pointer (some ⟨b, 0, none⟩), .string nm] w (Makes (textR nm (getR nm l).value (getR nm l).form) w) := by
  have HN := Lib.hid (rIsName_any nm (by unfold maxLen at hnm; omega) w)
  have HG := Lib.hid (rget_any nm h)
  obtain ⟨r, hr⟩ : ∃ r, getR nm l = r := ⟨_, rfl⟩
  rw [hr] at HG hf ⊢
  have HW := Lib.hid (rwrite_any r.value r.form hf)
  unfold textR
  clear hr
  rcases nameErr_ways nm with ⟨hn, hb⟩ | ⟨hn, hb⟩
  · rw [hb] at HN
    rw [if_neg (by simpa using hn)]
    clear hn hb h
    go_enter Tryz.func47, Tryz.ntmps47
    go_wp2_with fail
    refine HN.out.mono ?_
    rintro e w1 ⟨rfl, rfl⟩
    go_wp2_with fail
    refine HG.out.mono ?_
    rintro e w2 ⟨rfl, hb2⟩
    have hb3 : Below w.heap.size w (w2.alloc (.cells #[.string r.name, .int .i64 r.value, .int .i64 r.step, .string r.form] 62)) := hb2.alloc hb2.size _
    have HB := Lib.hid hb3
    clear hb3
    go_wp2_with fail
    refine (HW.out _).mono ?_
    rintro e w3 ⟨rfl, hb3⟩
    go_wp2_with fail
    go_ret2
    exact ⟨rfl, HB.out.trans (hb3.mono HB.out.size)⟩
  · rw [hb] at HN
    rw [if_pos (by rw [hn]; decide)]
    clear hn hb h
    go_enter Tryz.func47, Tryz.ntmps47
    go_wp2_with fail
    refine HN.out.mono ?_
    rintro e w1 ⟨rfl, rfl⟩
    go_wp2_with fail
    go_ret2
    exact ⟨rfl, Below.refl _ _⟩
end
end Go.Proofs.YtopgbbkndkincaaGreatDoor
