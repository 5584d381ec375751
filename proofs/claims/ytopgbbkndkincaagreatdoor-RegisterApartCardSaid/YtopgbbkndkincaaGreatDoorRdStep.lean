/- The document's book: what a deed makes of its rows. -/
import Derived.Test.YtopgbbkndkincaaGreatDoorRdRemove
import Derived.Test.YtopgbbkndkincaaGreatDoorRwDoc
namespace Go.Proofs.YtopgbbkndkincaaGreatDoor
open Go.RowKit Go.PlainAid Go.Shelf

theorem same_name {a b : ByteArray} (h : sameB a b = true) : a = b := by
  have h1 : a.toList = b.toList := by simpa [sameB] using h
  rw [Lib.toList_data, Lib.toList_data] at h1
  exact ba_ext h1
theorem same_self (a : ByteArray) : sameB a a = true := by simp [sameB]
theorem getR_name (nm : ByteArray) (l : List Row) : (getR nm l).name = nm := by
  cases hi : isAt nm l with
  | false => rw [getR_no hi]
  | true =>
    obtain ⟨r, hr, hs⟩ := isAt_yes hi
    rw [getR_yes hr hi]
    exact same_name hs
/-- Rows with one put in, and the answer. -/
def putR (r : Row) (l : List Row) : List Row × Int := if isAt r.name l then (l.set (pos r.name l) r, 0) else if l.length < 500 then (insR r l, 0) else (l, 9)
def StepP (B b : Nat) (v : Value) (res : List Row × Int) (w : World) (e : Ending) (w' : World) : Prop :=
  e = .returned (.int .i64 res.2) ∧ (∃ v', RefAt B b v' res.1 w' ∧ NewOr v v' w) ∧ RefKept b v w w'
section
variable {B b : Nat} {v : Value} {l : List Row} {w w' : World}
theorem rput_any (r : Row) (h : RefAt B b v l w) : Calls Tryz.prog 35 #[.pointer (some ⟨b, 0, none⟩), rowV r] w (StepP B b v (putR r l) w) := by
  unfold putR
  cases hi : isAt r.name l with
  | true =>
    rw [if_pos rfl]
    exact (rput_set r h hi).mono fun e w' ⟨h1, h2, h3⟩ => ⟨h1, ⟨v, h2, NewOr.same _ _⟩, h3⟩
  | false =>
    rw [if_neg (by simp)]
    by_cases h5 : l.length < 500
    · rw [if_pos h5]
      exact (rput_new r h hi h5).mono fun e w' ⟨h1, h2, h3⟩ => ⟨h1, h2, h3⟩
    · rw [if_neg h5]
      have := h.few
      exact (rput_full r h hi (by omega)).mono fun e w' ⟨h1, h2⟩ => ⟨h1, ⟨v, h.below h2, NewOr.same _ _⟩, RefKept.of_below h2⟩

/-- What a change makes: the name's error, the other argument's error, or the row put. -/
def chgR (nm : ByteArray) (err : Int) (u : Row → Row) (l : List Row) : List Row × Int := if nameErr nm ≠ 0 then (l, nameErr nm) else if err ≠ 0 then (l, err) else putR (u (getR nm l)) l
theorem chg_name {nm : ByteArray} (err : Int) (u : Row → Row) (l : List Row) (h : nameErr nm ≠ 0) : chgR nm err u l = (l, nameErr nm) := if_pos h
theorem chg_err {nm : ByteArray} {err : Int} (u : Row → Row) (l : List Row) (h : nameErr nm = 0) (he : err ≠ 0) : chgR nm err u l = (l, err) := by unfold chgR; rw [if_neg (by simpa using h), if_pos he]
theorem chg_ok {nm : ByteArray} (u : Row → Row) (l : List Row) (h : nameErr nm = 0) : chgR nm 0 u l = putR (u (getR nm l)) l := by unfold chgR; rw [if_neg (by simpa using h), if_neg (by simp)]
theorem step_same (h : RefAt B b v l w) {c : Int} {e : Ending} {w' : World} (hm : Makes (.int .i64 c) w e w') : StepP B b v (l, c) w e w' := ⟨hm.1, ⟨v, h.below hm.2, NewOr.same _ _⟩, RefKept.of_below hm.2⟩
theorem nameErr_ways (nm : ByteArray) : (nameErr nm = 0 ∧ nameB nm = true) ∨ (nameErr nm = 6 ∧ nameB nm = false) := by
  unfold nameErr
  cases nameB nm
  · exact .inr ⟨rfl, rfl⟩
  · exact .inl ⟨rfl, rfl⟩
abbrev updV (x : Int) (r : Row) : Row := ⟨r.name, x, r.step, r.form⟩
abbrev updS (x : Int) (r : Row) : Row := ⟨r.name, r.value, x, r.form⟩
abbrev updF (x : ByteArray) (r : Row) : Row := ⟨r.name, r.value, r.step, x⟩
theorem kept_step {x : Value} {res : List Row × Int} {w1 w2 : World} {e : Ending} (h : Below w.heap.size w w1) (hs : StepP B b x res w1 e w2) : StepP B b x res w e w2 := ⟨hs.1, hs.2.1.imp fun _ h2 => ⟨h2.1, fun k e => (h2.2 k e).imp id (Nat.le_trans h.size)⟩, (RefKept.of_below h).trans hs.2.2⟩

set_option maxRecDepth 100000 in
set_option maxHeartbeats 2000000 in
theorem rset_any (nm : ByteArray) (x : Int) (hnm : nm.size ≤ maxLen) (h : RefAt B b v l w) : Calls Tryz.prog 12 #[.pointer (some ⟨b, 0, none⟩), .string nm, .int .i64 x] w (StepP B b v (chgR nm (if fitB x then 0 else 5) (updV x) l) w) := by
  have HN := Lib.hid (rIsName_any nm (by unfold maxLen at hnm; omega) w)
  have HF := Lib.hid (rfits_any x w)
  rcases nameErr_ways nm with ⟨hn, hb⟩ | ⟨hn, hb⟩
  · rw [hb] at HN
    cases hf : fitB x with
    | false =>
      rw [hf] at HF
      rw [if_neg (by simp), chg_err _ _ hn (by decide)]
      have HH := Lib.hid h
      clear hn hb hf h
      go_enter Tryz.func12, Tryz.ntmps12
      go_wp2_with fail
      refine HN.out.mono ?_
      rintro e w1 ⟨rfl, rfl⟩
      go_wp2_with fail
      refine HF.out.mono ?_
      rintro e w1 ⟨rfl, rfl⟩
      go_wp2_with fail
      go_ret
      exact step_same HH.out ⟨rfl, Below.refl _ _⟩
    | true =>
      rw [hf] at HF
      rw [if_pos rfl, chg_ok _ _ hn]
      have HH := Lib.hid h
      have HG := Lib.hid (rget_any nm h)
      obtain ⟨r, hr⟩ : ∃ r, getR nm l = r := ⟨_, rfl⟩
      rw [hr] at HG ⊢
      clear hn hb hf h hr
      go_enter Tryz.func12, Tryz.ntmps12
      go_wp2_with fail
      refine HN.out.mono ?_
      rintro e w1 ⟨rfl, rfl⟩
      go_wp2_with fail
      refine HF.out.mono ?_
      rintro e w1 ⟨rfl, rfl⟩
      go_wp2_with fail
      refine HG.out.mono ?_
      rintro e w2 ⟨rfl, hb2⟩
      have hb3 : Below w.heap.size w (w2.alloc (.cells #[.string r.name, .int .i64 x, .int .i64 r.step, .string r.form] 62)) := hb2.alloc hb2.size _
      have HP := Lib.hid (rput_any (updV x r) (HH.out.below hb3))
      have HB := Lib.hid hb3
      clear hb3
      go_wp2_with fail
      refine HP.out.mono ?_
      rintro e w4 hs4
      obtain ⟨rfl, h5, h6⟩ := kept_step HB.out hs4
      have H5 := Lib.hid h5
      have H6 := Lib.hid h6
      clear hs4 h5 h6
      go_wp2_with fail
      go_ret
      exact ⟨rfl, H5.out, H6.out⟩
  · rw [hb] at HN
    rw [chg_name _ _ _ (by rw [hn]; decide), hn]
    have HH := Lib.hid h
    clear hn hb h
    go_enter Tryz.func12, Tryz.ntmps12
    go_wp2_with fail
    refine HN.out.mono ?_
    rintro e w1 ⟨rfl, rfl⟩
    go_wp2_with fail
    go_ret
    exact step_same HH.out ⟨rfl, Below.refl _ _⟩
end
end Go.Proofs.YtopgbbkndkincaaGreatDoor
