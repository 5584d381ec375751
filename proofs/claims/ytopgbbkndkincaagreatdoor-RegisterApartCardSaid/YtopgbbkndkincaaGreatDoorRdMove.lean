/- The document's book: Move. -/
import Derived.Test.YtopgbbkndkincaaGreatDoorRdStep
namespace Go.Proofs.YtopgbbkndkincaaGreatDoor
open Go.RowKit Go.PlainAid Go.Shelf

/-- What a move makes: the rows, the value told, the error. -/
def movR (nm : ByteArray) (fwd : Bool) (l : List Row) : List Row × Int × Int :=
  if nameErr nm ≠ 0 then (l, 0, 6) else if isAt nm l = false then (l, 0, 0) else
  if fitB ((getR nm l).value + if fwd then (getR nm l).step else -(getR nm l).step) then ((putR (updV ((getR nm l).value + if fwd then (getR nm l).step else -(getR nm l).step) (getR nm l)) l).1, (getR nm l).value + if fwd then (getR nm l).step else -(getR nm l).step, 0) else (l, 0, 5)
/-- A book turned to other rows, and an answer. -/
def KeepP (B b : Nat) (v : Value) (l' : List Row) (ans : Value) (w : World) (e : Ending) (w' : World) : Prop :=
  e = .returned ans ∧ (∃ v', RefAt B b v' l' w' ∧ NewOr v v' w) ∧ RefKept b v w w'
section
variable {B b : Nat} {v : Value} {l : List Row} {w w' : World}
theorem keep_same (h : RefAt B b v l w) {u : Value} {e : Ending} {w' : World} (hm : Makes u w e w') : KeepP B b v l u w e w' := ⟨hm.1, ⟨v, h.below hm.2, NewOr.same _ _⟩, RefKept.of_below hm.2⟩

/-- A block of one's own, made since, is as it was. -/
theorem keep_cell {w2 w3 : World} (h : RefAt B b v l w) {g : Nat} (hg : w.heap.size ≤ g) {c : Array Value} {t : TypeId} (hk : RefKept b v w2 w3) (hx : w2.heap[g]? = some (.cells c t (0, 0))) : w3.cell? ⟨g, 1, none⟩ = c[1]? := by
  have hlt := (Array.getElem?_eq_some_iff.1 hx).1
  have := h.lt
  unfold World.cell?
  rw [hk.block g hlt (by omega) (fun e => by
    rcases h.ways with ⟨rfl, _⟩ | ⟨g2, cap, rfl, _, h3, _⟩
    · simp [Value.ownBlock] at e
    · simp [Value.ownBlock] at e
      omega), hx]
  simp

theorem rmove_bad (nm : ByteArray) (fwd : Bool) (hnm : nm.size ≤ maxLen) (hn : nameB nm = false) (x : Value) : Calls Tryz.prog 18 #[x, .string nm, .bool fwd] w (Makes (.tuple #[.int .i64 0, .int .i64 6]) w) := by
  have HN := Lib.hid (rIsName_any nm (by unfold maxLen at hnm; omega) w)
  rw [hn] at HN
  clear hn
  go_enter Tryz.func18, Tryz.ntmps18
  go_wp2_with fail
  refine HN.out.mono ?_
  rintro e w1 ⟨rfl, rfl⟩
  go_wp2_with fail
  go_ret2
  exact ⟨rfl, Below.refl _ _⟩
theorem rmove_none (nm : ByteArray) (fwd : Bool) (hnm : nm.size ≤ maxLen) (hn : nameB nm = true) (h : RefAt B b v l w) (hi : isAt nm l = false) : Calls Tryz.prog 18 #[.pointer (some ⟨b, 0, none⟩), .string nm, .bool fwd] w (Makes (.tuple #[.int .i64 0, .int .i64 0]) w) := by
  have HN := Lib.hid (rIsName_any nm (by unfold maxLen at hnm; omega) w)
  have HA := Lib.hid (rhas_any nm h)
  rw [hn] at HN
  rw [hi] at HA
  clear hn hi h
  go_enter Tryz.func18, Tryz.ntmps18
  go_wp2_with fail
  refine HN.out.mono ?_
  rintro e w1 ⟨rfl, rfl⟩
  go_wp2_with fail
  refine HA.out.mono ?_
  rintro e w1 ⟨rfl, hb⟩
  go_wp2_with fail
  go_ret2
  exact ⟨rfl, hb⟩
set_option maxRecDepth 100000 in
set_option maxHeartbeats 2000000 in
theorem rmove_no (nm : ByteArray) (fwd : Bool) (hnm : nm.size ≤ maxLen) (hn : nameB nm = true) (h : RefAt B b v l w) (hi : isAt nm l = true) {r : Row} (hr : getR nm l = r)
    (hv : -1000000000 ≤ r.value ∧ r.value ≤ 1000000000) (hs : -1000000000 ≤ r.step ∧ r.step ≤ 1000000000) (hf : fitB (r.value + if fwd then r.step else -r.step) = false) :
    Calls Tryz.prog 18 #[.pointer (some ⟨b, 0, none⟩), .string nm, .bool fwd] w (Makes (.tuple #[.int .i64 0, .int .i64 5]) w) := by
  have HN := Lib.hid (rIsName_any nm (by unfold maxLen at hnm; omega) w)
  have HA := Lib.hid (rhas_any nm h)
  rw [hn] at HN
  rw [hi] at HA
  have HG : Hid (∀ w', Below w.heap.size w w' → Calls Tryz.prog 34 #[.pointer (some ⟨b, 0, none⟩), .string nm] w' (Makes (rowV r) w')) := fun w' hb => by
    have := rget_any nm (h.below hb)
    rw [hr] at this
    exact this
  clear hn hi h hr
  obtain ⟨v1, v2⟩ := hv
  obtain ⟨s1, s2⟩ := hs
  cases fwd with
  | true =>
    have HF : Hid (∀ w, Calls Tryz.prog 33 #[.int .i64 (r.value + r.step)] w (Says (.bool false) w)) := fun w => by
      have := rfits_any (r.value + r.step) w
      rw [if_pos rfl] at hf
      rw [hf] at this
      exact this
    clear hf
    go_enter Tryz.func18, Tryz.ntmps18
    go_wp2_with fail
    refine HN.out.mono ?_
    rintro e w1 ⟨rfl, rfl⟩
    go_wp2_with fail
    refine HA.out.mono ?_
    rintro e w1 ⟨rfl, hb⟩
    go_wp2_with fail
    refine (HG.out _ hb).mono ?_
    rintro e w2 ⟨rfl, hb2⟩
    have HB := Lib.hid ((hb.trans (hb2.mono hb.size)).alloc (Nat.le_trans hb.size hb2.size) (.cells #[.string r.name, .int .i64 r.value, .int .i64 r.step, .string r.form] 62))
    clear hb hb2
    go_wp2_with fail
    refine (HF.out _).mono ?_
    rintro e w4 ⟨rfl, rfl⟩
    go_wp2_with fail
    go_ret2
    exact ⟨rfl, HB.out⟩
  | false =>
    have HF : Hid (∀ w, Calls Tryz.prog 33 #[.int .i64 (r.value + -r.step)] w (Says (.bool false) w)) := fun w => by
      have := rfits_any (r.value + -r.step) w
      rw [if_neg (by simp)] at hf
      rw [hf] at this
      exact this
    clear hf
    go_enter Tryz.func18, Tryz.ntmps18
    go_wp2_with fail
    refine HN.out.mono ?_
    rintro e w1 ⟨rfl, rfl⟩
    go_wp2_with fail
    refine HA.out.mono ?_
    rintro e w1 ⟨rfl, hb⟩
    go_wp2_with fail
    refine (HG.out _ hb).mono ?_
    rintro e w2 ⟨rfl, hb2⟩
    have HB := Lib.hid ((hb.trans (hb2.mono hb.size)).alloc (Nat.le_trans hb.size hb2.size) (.cells #[.string r.name, .int .i64 r.value, .int .i64 r.step, .string r.form] 62))
    clear hb hb2
    go_wp2_with fail
    refine (HF.out _).mono ?_
    rintro e w4 ⟨rfl, rfl⟩
    go_wp2_with fail
    go_ret2
    exact ⟨rfl, HB.out⟩
set_option maxRecDepth 100000 in
set_option maxHeartbeats 2000000 in
theorem rmove_yes (nm : ByteArray) (fwd : Bool) (hnm : nm.size ≤ maxLen) (hn : nameB nm = true) (h : RefAt B b v l w) (hi : isAt nm l = true) {r : Row} (hr : getR nm l = r)
    (hv : -1000000000 ≤ r.value ∧ r.value ≤ 1000000000) (hs : -1000000000 ≤ r.step ∧ r.step ≤ 1000000000) {z : Int} (hz : (r.value + if fwd then r.step else -r.step) = z) (hf : fitB z = true) :
    Calls Tryz.prog 18 #[.pointer (some ⟨b, 0, none⟩), .string nm, .bool fwd] w (KeepP B b v (putR (updV z r) l).1 (.tuple #[.int .i64 z, .int .i64 0]) w) := by
  have HN := Lib.hid (rIsName_any nm (by unfold maxLen at hnm; omega) w)
  have HA := Lib.hid (rhas_any nm h)
  rw [hn] at HN
  rw [hi] at HA
  have HH := Lib.hid h
  have HG : Hid (∀ w', Below w.heap.size w w' → Calls Tryz.prog 34 #[.pointer (some ⟨b, 0, none⟩), .string nm] w' (Makes (rowV r) w')) := fun w' hb => by
    have := rget_any nm (h.below hb)
    rw [hr] at this
    exact this
  have HF : Hid (∀ w, Calls Tryz.prog 33 #[.int .i64 z] w (Says (.bool true) w)) := fun w => by
    have := rfits_any z w
    rw [hf] at this
    exact this
  clear hn hi h hr hf
  obtain ⟨v1, v2⟩ := hv
  obtain ⟨s1, s2⟩ := hs
  cases fwd with
  | true =>
    obtain rfl : r.value + r.step = z := by simpa using hz
    clear hz
    go_enter Tryz.func18, Tryz.ntmps18
    go_wp2_with fail
    refine HN.out.mono ?_
    rintro e w1 ⟨rfl, rfl⟩
    go_wp2_with fail
    refine HA.out.mono ?_
    rintro e w1 ⟨rfl, hb⟩
    go_wp2_with fail
    refine (HG.out _ hb).mono ?_
    rintro e w2 ⟨rfl, hb2⟩
    have HN2 := Lib.hid hb.size
    have HN3 := Lib.hid hb2.size
    have HX : Hid ((w2.alloc (.cells #[.string r.name, .int .i64 (r.value + r.step), .int .i64 r.step, .string r.form] 62)).heap[w2.heap.size]? = some (.cells #[.string r.name, .int .i64 (r.value + r.step), .int .i64 r.step, .string r.form] 62 (0, 0))) := heap_alloc_new _ _
    have HB := Lib.hid ((hb.trans (hb2.mono hb.size)).alloc (Nat.le_trans hb.size hb2.size) (.cells #[.string r.name, .int .i64 (r.value + r.step), .int .i64 r.step, .string r.form] 62))
    clear hb hb2
    go_wp2_with fail
    refine (HF.out _).mono ?_
    rintro e w4 ⟨rfl, rfl⟩
    have HP := Lib.hid (rput_any (updV (r.value + r.step) r) (HH.out.below HB.out))
    go_wp2_with fail
    refine HP.out.mono ?_
    rintro e w4 hs4
    have hcell := keep_cell HH.out (Nat.le_trans HN2.out HN3.out) hs4.2.2 (HX.out)
    obtain ⟨rfl, h5, h6⟩ := kept_step HB.out hs4
    have H5 := Lib.hid h5
    have H6 := Lib.hid h6
    clear hs4 h5 h6
    go_wp2_with fail
    go_ret2
    exact ⟨rfl, H5.out, H6.out⟩
  | false =>
    obtain rfl : r.value + -r.step = z := by simpa using hz
    clear hz
    go_enter Tryz.func18, Tryz.ntmps18
    go_wp2_with fail
    refine HN.out.mono ?_
    rintro e w1 ⟨rfl, rfl⟩
    go_wp2_with fail
    refine HA.out.mono ?_
    rintro e w1 ⟨rfl, hb⟩
    go_wp2_with fail
    refine (HG.out _ hb).mono ?_
    rintro e w2 ⟨rfl, hb2⟩
    have HN2 := Lib.hid hb.size
    have HN3 := Lib.hid hb2.size
    have HX : Hid ((w2.alloc (.cells #[.string r.name, .int .i64 (r.value + -r.step), .int .i64 r.step, .string r.form] 62)).heap[w2.heap.size]? = some (.cells #[.string r.name, .int .i64 (r.value + -r.step), .int .i64 r.step, .string r.form] 62 (0, 0))) := heap_alloc_new _ _
    have HB := Lib.hid ((hb.trans (hb2.mono hb.size)).alloc (Nat.le_trans hb.size hb2.size) (.cells #[.string r.name, .int .i64 (r.value + -r.step), .int .i64 r.step, .string r.form] 62))
    clear hb hb2
    go_wp2_with fail
    refine (HF.out _).mono ?_
    rintro e w4 ⟨rfl, rfl⟩
    have HP := Lib.hid (rput_any (updV (r.value + -r.step) r) (HH.out.below HB.out))
    go_wp2_with fail
    refine HP.out.mono ?_
    rintro e w4 hs4
    have hcell := keep_cell HH.out (Nat.le_trans HN2.out HN3.out) hs4.2.2 (HX.out)
    obtain ⟨rfl, h5, h6⟩ := kept_step HB.out hs4
    have H5 := Lib.hid h5
    have H6 := Lib.hid h6
    clear hs4 h5 h6
    go_wp2_with fail
    go_ret2
    exact ⟨rfl, H5.out, H6.out⟩
/-- Values and steps are in range, forms are forms. -/
structure RowOk (r : Row) : Prop where
  v0 : -1000000000 ≤ r.value
  v1 : r.value ≤ 1000000000
  s0 : -1000000000 ≤ r.step
  s1 : r.step ≤ 1000000000
theorem rmove_any (nm : ByteArray) (fwd : Bool) (hnm : nm.size ≤ maxLen) (h : RefAt B b v l w) (hok : RowOk (getR nm l)) :
    Calls Tryz.prog 18 #[.pointer (some ⟨b, 0, none⟩), .string nm, .bool fwd] w (KeepP B b v (movR nm fwd l).1 (.tuple #[.int .i64 (movR nm fwd l).2.1, .int .i64 (movR nm fwd l).2.2]) w) := by
  unfold movR
  rcases nameErr_ways nm with ⟨hn, hb⟩ | ⟨hn, hb⟩
  · rw [if_neg (by simpa using hn)]
    cases hi : isAt nm l with
    | false =>
      rw [if_pos rfl]
      exact (rmove_none nm fwd hnm hb h hi).mono fun e w' hm => keep_same h hm
    | true =>
      rw [if_neg (by simp)]
      obtain ⟨r, hr⟩ : ∃ r, getR nm l = r := ⟨_, rfl⟩
      rw [hr] at hok ⊢
      obtain ⟨z, hz⟩ : ∃ z, (r.value + if fwd then r.step else -r.step) = z := ⟨_, rfl⟩
      rw [hz]
      cases hf : fitB z with
      | false =>
        rw [if_neg (by simp)]
        exact (rmove_no nm fwd hnm hb h hi hr ⟨hok.v0, hok.v1⟩ ⟨hok.s0, hok.s1⟩ (by rw [hz]; exact hf)).mono fun e w' hm => keep_same h hm
      | true =>
        rw [if_pos rfl]
        exact rmove_yes nm fwd hnm hb h hi hr ⟨hok.v0, hok.v1⟩ ⟨hok.s0, hok.s1⟩ hz hf
  · rw [if_pos (by rw [hn]; decide)]
    exact (rmove_bad nm fwd hnm hb _).mono fun e w' hm => keep_same h hm
end
end Go.Proofs.YtopgbbkndkincaaGreatDoor
