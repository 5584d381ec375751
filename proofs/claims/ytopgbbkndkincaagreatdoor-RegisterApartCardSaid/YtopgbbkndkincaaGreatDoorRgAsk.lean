/- A book is asked: Value, Text, FormatOf; a register goes: Remove. -/
import Derived.Test.YtopgbbkndkincaaGreatDoorRgSet
import Derived.Test.YtopgbbkndkincaaGreatDoorRwProg
import Derived.Test.YtopgbbkndkincaaGreatDoorRdOps
namespace Go.Proofs.YtopgbbkndkincaaGreatDoor
open Go.RowKit Go.PlainAid Go.Maps

section
variable {b mb n : Nat} {D : DataW Unit} {w : World}
theorem reg_field0 (a c d : Value) (w : World) : (Instr.field 51 (.agg #[a, c, d]) 0).run Tryz.prog w = .ok a w := by kernel_rfl
theorem reg_field2 (a c d : Value) (w : World) : (Instr.field 51 (.agg #[a, c, d]) 2).run Tryz.prog w = .ok d w := by kernel_rfl
theorem at_is (hB : BookAt b mb n D w) (s : ByteArray) (hs : s.size ≤ maxLen) {r : Reg} (hr : r.data = D.atKey (bkey s) Reg.fresh.data) :
    Calls Tryz.prog 41 #[.pointer (some ⟨b, 0, none⟩), .string s] w (Makes (.agg #[.int .i64 r.value, .int .i64 r.step, .string r.fm]) w) :=
  (at_any hB s hs).mono fun e w' ⟨q, he, hq, hb⟩ => by
    obtain rfl := Reg.data_inj (hq.trans hr.symm)
    exact ⟨he, hb⟩
theorem nm_err {nm : ByteArray} (_h : nameErr nm = 6) : ((6 : Int) != 0) = true := by decide

set_option maxRecDepth 100000 in
set_option maxHeartbeats 1000000 in
theorem value_any (hB : BookAt b mb n D w) (nm : ByteArray) (hnm : nm.size ≤ 9223372036854775807) {r : Reg} (hr : r.data = D.atKey (bkey nm) Reg.fresh.data) :
    Calls Tryz.prog 44 #[.pointer (some ⟨b, 0, none⟩), .string nm] w (Makes (askR nm (.int .i64 0) (.int .i64 r.value)) w) := by
  have HN := Lib.hid (nameError_any b mb nm w hnm hB.cell)
  have HG := Lib.hid (at_is hB nm (by unfold maxLen; omega) hr)
  have hfd := reg_field0
  unfold askR
  unfold NameP at HN
  rcases nameErr_ways nm with ⟨hn, hb⟩ | ⟨hn, hb⟩
  · rw [hn] at HN
    rw [if_neg (by simpa using hn)]
    clear hn hb hB hr
    go_enter Tryz.func44, Tryz.ntmps44
    go_wp2_with fail
    refine HN.out.mono ?_
    rintro e w1 ⟨rfl, rfl⟩
    go_wp2_with fail
    refine HG.out.mono ?_
    rintro e w2 ⟨rfl, hb2⟩
    go_wp2_with fail
    go_ret2
    exact ⟨rfl, hb2⟩
  · rw [hn] at HN
    rw [if_pos (by rw [hn]; decide)]
    clear hn hb hB hr
    go_enter Tryz.func44, Tryz.ntmps44
    go_wp2_with fail
    refine HN.out.mono ?_
    rintro e w1 ⟨rfl, rfl⟩
    go_wp2_with fail
    go_ret2
    exact ⟨rfl, Below.refl _ _⟩
set_option maxRecDepth 100000 in
set_option maxHeartbeats 1000000 in
theorem formatOf_any (hB : BookAt b mb n D w) (nm : ByteArray) (hnm : nm.size ≤ 9223372036854775807) {r : Reg} (hr : r.data = D.atKey (bkey nm) Reg.fresh.data) :
    Calls Tryz.prog 48 #[.pointer (some ⟨b, 0, none⟩), .string nm] w (Makes (askR nm (.string ⟨#[]⟩) (.string r.fm)) w) := by
  have HN := Lib.hid (nameError_any b mb nm w hnm hB.cell)
  have HG := Lib.hid (at_is hB nm (by unfold maxLen; omega) hr)
  have hfd := reg_field2
  unfold askR
  unfold NameP at HN
  rcases nameErr_ways nm with ⟨hn, hb⟩ | ⟨hn, hb⟩
  · rw [hn] at HN
    rw [if_neg (by simpa using hn)]
    clear hn hb hB hr
    go_enter Tryz.func48, Tryz.ntmps48
    go_wp2_with fail
    refine HN.out.mono ?_
    rintro e w1 ⟨rfl, rfl⟩
    go_wp2_with fail
    refine HG.out.mono ?_
    rintro e w2 ⟨rfl, hb2⟩
    go_wp2_with fail
    go_ret2
    exact ⟨rfl, hb2⟩
  · rw [hn] at HN
    rw [if_pos (by rw [hn]; decide)]
    clear hn hb hB hr
    go_enter Tryz.func48, Tryz.ntmps48
    go_wp2_with fail
    refine HN.out.mono ?_
    rintro e w1 ⟨rfl, rfl⟩
    go_wp2_with fail
    go_ret2
    exact ⟨rfl, Below.refl _ _⟩
set_option maxRecDepth 100000 in
set_option maxHeartbeats 1000000 in
theorem text_any2 (hB : BookAt b mb n D w) (hw : Tabs w) (nm : ByteArray) (hnm : nm.size ≤ 9223372036854775807) {r : Reg} (hr : r.data = D.atKey (bkey nm) Reg.fresh.data) (hf : r.fm.size ≤ 100) :
    Calls Tryz.prog 46 #[.pointer (some ⟨b, 0, none⟩), .string nm] w (Makes (textR nm r.value r.fm) w) := by
  have HN := Lib.hid (nameError_any b mb nm w hnm hB.cell)
  have HG := Lib.hid (at_is hB nm (by unfold maxLen; omega) hr)
  have HW : Hid (∀ w', Below w.heap.size w w' → Calls Tryz.prog 10 #[.int .i64 r.value, .string r.fm] w' (WriteP r.value r.fm w')) := fun w' hb => pwrite_any r.value r.fm hf w' (hw.below hb)
  unfold textR
  unfold NameP at HN
  rcases nameErr_ways nm with ⟨hn, hb⟩ | ⟨hn, hb⟩
  · rw [hn] at HN
    rw [if_neg (by simpa using hn)]
    clear hn hb hB hr hw
    go_enter Tryz.func46, Tryz.ntmps46
    go_wp2_with fail
    refine HN.out.mono ?_
    rintro e w1 ⟨rfl, rfl⟩
    go_wp2_with fail
    refine HG.out.mono ?_
    rintro e w2 ⟨rfl, hb2⟩
    have hb3 : Below w.heap.size w (w2.alloc (.cells #[.int .i64 r.value, .int .i64 r.step, .string r.fm] 51)) := hb2.alloc hb2.size _
    have HB := Lib.hid hb3
    clear hb3
    go_wp2_with fail
    refine (HW.out _ HB.out).mono ?_
    rintro e w3 ⟨rfl, hb3⟩
    go_wp2_with fail
    go_ret2
    exact ⟨rfl, HB.out.trans (hb3.mono HB.out.size)⟩
  · rw [hn] at HN
    rw [if_pos (by rw [hn]; decide)]
    clear hn hb hB hr hw
    go_enter Tryz.func46, Tryz.ntmps46
    go_wp2_with fail
    refine HN.out.mono ?_
    rintro e w1 ⟨rfl, rfl⟩
    go_wp2_with fail
    go_ret2
    exact ⟨rfl, Below.refl _ _⟩

/-- What a call that turns the map makes. -/
def TurnP (b mb n : Nat) (D' : DataW Unit) (ans : Value) (w : World) (e : Ending) (w' : World) : Prop :=
  e = .returned ans ∧ BookAt b mb n D' w' ∧ w.grownBy w' (some mb)
theorem turn_same (hB : BookAt b mb n D w) {u : Value} {e : Ending} {w' : World} (hm : Makes u w e w') : TurnP b mb n D u w e w' := ⟨hm.1, hB.below hm.2, grown_below hm.2 _⟩
set_option maxRecDepth 100000 in
set_option maxHeartbeats 1000000 in
theorem remove_bad (hB : BookAt b mb n D w) (nm : ByteArray) (hnm : nm.size ≤ 9223372036854775807) (hn : nameErr nm = 6) :
    Calls Tryz.prog 19 #[.pointer (some ⟨b, 0, none⟩), .string nm] w (Makes (.int .i64 6) w) := by
  have HN := Lib.hid (nameError_any b mb nm w hnm hB.cell)
  unfold NameP at HN
  rw [hn] at HN
  clear hn hB
  go_enter Tryz.func19, Tryz.ntmps19
  go_wp2_with fail
  refine HN.out.mono ?_
  rintro e w1 ⟨rfl, rfl⟩
  go_wp2_with fail
  go_ret
  exact ⟨rfl, Below.refl _ _⟩
set_option maxRecDepth 100000 in
set_option maxHeartbeats 1000000 in
theorem remove_ok (hB : BookAt b mb n D w) (nm : ByteArray) (hnm : nm.size ≤ 9223372036854775807) (hn : nameErr nm = 0) :
    Calls Tryz.prog 19 #[.pointer (some ⟨b, 0, none⟩), .string nm] w (TurnP b mb n (D.del (bkey nm)) (.int .i64 0) w) := by
  have HN := Lib.hid (nameError_any b mb nm w hnm hB.cell)
  unfold NameP at HN
  rw [hn] at HN
  obtain ⟨w2, hdel, hown2, hmt⟩ := World.ownsMap.drop (t := 39) hB.map str_keyed Tryz.underlying39 (key_of nm (by unfold maxLen; omega)) 0
  have hc := hB.cell
  have HF : Hid (BookAt b mb n (D.del (bkey nm)) w2) := ⟨by rw [hmt.grown.block b hB.lt (by have := hB.ne; simpa using this)]; exact hB.blk, hown2⟩
  have HG := Lib.hid hmt.grown
  clear hn hB hown2 hmt
  go_enter Tryz.func19, Tryz.ntmps19
  go_wp2_with fail
  refine HN.out.mono ?_
  rintro e w1 ⟨rfl, rfl⟩
  go_wp2_with fail
  go_ret
  exact ⟨rfl, HF.out, HG.out⟩
end
end Go.Proofs.YtopgbbkndkincaaGreatDoor
