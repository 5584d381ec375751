/- Both books are asked for a name. -/
import Derived.Test.YtopgbbkndkincaaGreatDoorRdSame
namespace Go.Proofs.YtopgbbkndkincaaGreatDoor
open Go.RowKit Go.PlainAid Go.Maps

/-- Both books in memory, with the same registers. -/
structure Both (B b mb n : Nat) (D : DataW Unit) (x : Nat) (v : Value) (l : List Row) (w : World) : Prop where
  bk : BookAt b mb n D w
  rf : RefAt B x v l w
  sm : Same D l
  tb : Tabs w
section
variable {B b mb n x : Nat} {D : DataW Unit} {v : Value} {l : List Row} {w w' : World}
theorem Both.below (h : Both B b mb n D x v l w) (hb : Below w.heap.size w w') : Both B b mb n D x v l w' := ⟨h.bk.below hb, h.rf.below hb, h.sm, h.tb.below hb⟩
theorem form_size {f : ByteArray} (h : formB f = true) : f.size ≤ 100 := by
  unfold formB letB at h
  simp only [Bool.or_eq_true, Bool.and_eq_true, decide_eq_true_eq, beq_iff_eq] at h
  have one : ∀ c, f.toList = [c] → f.size ≤ 100 := fun c hc => by
    rw [Lib.toList_data] at hc
    rw [Lib.size_eq, hc]
    show 1 ≤ 100
    decide
  rcases h with ((hc | hc) | hc) | hc
  · rcases hc with hc | hc <;> exact one _ hc
  · exact one _ hc
  · exact one _ hc
  · omega
set_option maxRecDepth 100000 in
set_option maxHeartbeats 4000000 in
theorem asked_any (h : Both B b mb n D x v l w) (nm : ByteArray) (hnm : nm.size ≤ 9223372036854775807) :
    Calls Tryz.prog 23 #[.pointer (some ⟨b, 0, none⟩), .pointer (some ⟨x, 0, none⟩), .string nm] w (Makes (.bool true) w) := by
  have hm : nm.size ≤ maxLen := by unfold maxLen; omega
  have hr := h.sm.reg nm
  have hf := h.sm.fineR nm
  have hh := h.sm.isHas nm
  have V1 : Hid (∀ w', Below w.heap.size w w' → Calls Tryz.prog 44 #[.pointer (some ⟨b, 0, none⟩), .string nm] w' (Makes (askR nm (.int .i64 0) (.int .i64 (getR nm l).value)) w')) := fun w' hb => value_any (h.below hb).bk nm hnm hr
  have V2 : Hid (∀ w', Below w.heap.size w w' → Calls Tryz.prog 45 #[.pointer (some ⟨x, 0, none⟩), .string nm] w' (Makes (askR nm (.int .i64 0) (.int .i64 (getR nm l).value)) w')) := fun w' hb => rvalue_any nm hm (h.below hb).rf
  have T1 : Hid (∀ w', Below w.heap.size w w' → Calls Tryz.prog 46 #[.pointer (some ⟨b, 0, none⟩), .string nm] w' (Makes (textR nm (getR nm l).value (getR nm l).form) w')) := fun w' hb => text_any2 (h.below hb).bk (h.below hb).tb nm hnm hr (form_size hf.2)
  have T2 : Hid (∀ w', Below w.heap.size w w' → Calls Tryz.prog 47 #[.pointer (some ⟨x, 0, none⟩), .string nm] w' (Makes (textR nm (getR nm l).value (getR nm l).form) w')) := fun w' hb => rtext_any nm hm (form_size hf.2) (h.below hb).rf
  have F1 : Hid (∀ w', Below w.heap.size w w' → Calls Tryz.prog 48 #[.pointer (some ⟨b, 0, none⟩), .string nm] w' (Makes (askR nm (.string ⟨#[]⟩) (.string (getR nm l).form)) w')) := fun w' hb => formatOf_any (h.below hb).bk nm hnm hr
  have F2 : Hid (∀ w', Below w.heap.size w w' → Calls Tryz.prog 49 #[.pointer (some ⟨x, 0, none⟩), .string nm] w' (Makes (askR nm (.string ⟨#[]⟩) (.string (getR nm l).form)) w')) := fun w' hb => rformatOf_any nm hm (h.below hb).rf
  have H1 : Hid (∀ w', Below w.heap.size w w' → Calls Tryz.prog 40 #[.pointer (some ⟨b, 0, none⟩), .string nm] w' (Makes (.bool (isAt nm l)) w')) := fun w' hb => by
    have := has_any (h.below hb).bk nm hm
    rw [hh] at this
    exact this
  have H2 : Hid (∀ w', Below w.heap.size w w' → Calls Tryz.prog 42 #[.pointer (some ⟨x, 0, none⟩), .string nm] w' (Makes (.bool (isAt nm l)) w')) := fun w' hb => rhas_any nm (h.below hb).rf
  unfold askR at V1 V2 F1 F2
  unfold textR at T1 T2
  generalize wrS (getR nm l).value (getR nm l).form = S at T1 T2
  generalize wrE (getR nm l).value (getR nm l).form = E at T1 T2
  generalize (getR nm l).value = z at V1 V2
  generalize (getR nm l).form = f at F1 F2
  generalize isAt nm l = q at H1 H2
  clear hr hf hh h
  rcases nameErr_ways nm with ⟨hn, _⟩ | ⟨hn, _⟩
  case' inl => rw [if_neg (by rw [hn]; simp)] at V1 V2 F1 F2 T1 T2
  case' inr => rw [if_pos (by rw [hn]; decide)] at V1 V2 F1 F2 T1 T2
  all_goals
    clear hn
    go_enter Tryz.func23, Tryz.ntmps23
    go_wp2_with fail
    refine (V1.out _ (Below.refl _ _)).mono ?_
    rintro e w1 ⟨rfl, hb1⟩
    have B1 := Lib.hid hb1
    clear hb1
    go_wp2_with fail
    refine (V2.out _ B1.out).mono ?_
    rintro e w2 ⟨rfl, hb2⟩
    have B2 := Lib.hid (B1.out.trans (hb2.mono B1.out.size))
    clear hb2
    go_wp2_with fail
    refine (T1.out _ B2.out).mono ?_
    rintro e w3 ⟨rfl, hb3⟩
    have B3 := Lib.hid (B2.out.trans (hb3.mono B2.out.size))
    clear hb3
    go_wp2_with fail
    refine (T2.out _ B3.out).mono ?_
    rintro e w4 ⟨rfl, hb4⟩
    have B4 := Lib.hid (B3.out.trans (hb4.mono B3.out.size))
    clear hb4
    go_wp2_with fail
    refine (H1.out _ B4.out).mono ?_
    rintro e w5 ⟨rfl, hb5⟩
    have B5 := Lib.hid (B4.out.trans (hb5.mono B4.out.size))
    clear hb5
    go_wp2_with fail
    refine (H2.out _ B5.out).mono ?_
    rintro e w6 ⟨rfl, hb6⟩
    have B6 := Lib.hid (B5.out.trans (hb6.mono B5.out.size))
    clear hb6
    go_wp2_with fail
    refine (F1.out _ B6.out).mono ?_
    rintro e w7 ⟨rfl, hb7⟩
    have B7 := Lib.hid (B6.out.trans (hb7.mono B6.out.size))
    clear hb7
    go_wp2_with fail
    refine (F2.out _ B7.out).mono ?_
    rintro e w8 ⟨rfl, hb8⟩
    have B8 := Lib.hid (B7.out.trans (hb8.mono B7.out.size))
    clear hb8
    go_wp2_with fail
    go_ret
    exact ⟨by simp, B8.out⟩
end
end Go.Proofs.YtopgbbkndkincaaGreatDoor
