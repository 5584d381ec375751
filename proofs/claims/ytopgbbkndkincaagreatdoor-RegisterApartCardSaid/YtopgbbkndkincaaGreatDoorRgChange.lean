/- A book is changed. -/
import Derived.Test.YtopgbbkndkincaaGreatDoorRgBook
namespace Go.Proofs.YtopgbbkndkincaaGreatDoor
open Go.RowKit Go.PlainAid Go.Maps

theorem grown_refl (w : World) (row : Option Nat) : w.grownBy w row := ⟨rfl, rfl, rfl, Nat.le_refl _, fun _ _ _ => rfl⟩
theorem grown_trans {a b c : World} {row : Option Nat} (h : a.grownBy b row) (k : b.grownBy c row) : a.grownBy c row :=
  ⟨k.os.trans h.os, k.tape.trans h.tape, k.output.trans h.output, Nat.le_trans h.size k.size, fun i hi hb => (k.block i (Nat.lt_of_lt_of_le hi h.size) hb).trans (h.block i hi hb)⟩
theorem grown_below {w w' : World} (h : Below w.heap.size w w') (row : Option Nat) : w.grownBy w' row := ⟨h.os, h.tape, h.output, h.size, fun k hk _ => h.block k hk⟩
theorem grown_new {w w1 w2 : World} {rb : Nat} {row : Option Nat} (h : w1.grownBy w2 (some rb)) (k : w.grownBy w1 row) (hle : w.heap.size ≤ rb) : w.grownBy w2 row :=
  ⟨h.os.trans k.os, h.tape.trans k.tape, h.output.trans k.output, Nat.le_trans k.size h.size, fun i hi hb => (h.block i (Nat.lt_of_lt_of_le hi k.size) (by simp; omega)).trans (k.block i hi hb)⟩
theorem grown_to_below {w w' : World} {m B : Nat} (h : w.grownBy w' (some m)) (hm : B ≤ m) (hB : B ≤ w.heap.size) : Below B w w' :=
  ⟨h.os, h.tape, h.output, h.size, fun k hk => h.block k (by omega) (by simp; omega)⟩
theorem BookAt.grown {b mb n : Nat} {D : DataW Unit} {w w' : World} {rb : Nat} (h : BookAt b mb n D w) (hg : w.grownBy w' (some rb)) (h1 : b ≠ rb) (h2 : mb ≠ rb) : BookAt b mb n D w' :=
  ⟨by rw [hg.block b h.lt (by simpa using h1)]; exact h.blk, h.map.kept hg (by simpa using h2)⟩
theorem BookAt.mlt {b mb n : Nat} {D : DataW Unit} {w : World} (h : BookAt b mb n D w) : mb < w.heap.size := h.map.lt

/-- What a function literal does to a register. -/
def HowDoes (fn : FuncId) (cb : Nat) (g : Reg → Reg) (w : World) : Prop :=
  ∀ (rb : Nat) (r : Reg) (W : World), Below w.heap.size w W → w.heap.size ≤ rb → W.heap[rb]? = some (.cells #[.int .i64 r.value, .int .i64 r.step, .string r.fm] 51 (0, 0)) →
    Calls Tryz.prog fn #[.pointer (some ⟨rb, 0, none⟩), .pointer (some ⟨cb, 0, none⟩)] W fun e W' => e = .returned (.tuple #[]) ∧
      W'.heap[rb]? = some (.cells #[.int .i64 (g r).value, .int .i64 (g r).step, .string (g r).fm] 51 (0, 0)) ∧ W.grownBy W' (some rb)

/-- What a change that is let gives. -/
def ChangedP (b mb n : Nat) (D : DataW Unit) (s : ByteArray) (g : Reg → Reg) (w : World) (e : Ending) (w' : World) : Prop :=
  e = .returned (.int .i64 0) ∧ ∃ r : Reg, r.data = D.atKey (bkey s) Reg.fresh.data ∧ BookAt b mb (n + 1) (D.put (bkey s) (g r).data) w' ∧ w.grownBy w' (some mb)

theorem nameErr_size {s : ByteArray} (h : nameErr s = 0) : s.size ≤ 20 := by
  unfold nameErr at h
  split at h
  · rename_i hn; exact (nameB_yes hn).2.1
  · omega

theorem cells3 {w : World} {b : Nat} {x y z : Value} {t : TypeId} (h : w.heap[b]? = some (.cells #[x, y, z] t (0, 0))) :
    w.cell? ⟨b, 0, none⟩ = some x ∧ w.cell? ⟨b, 1, none⟩ = some y ∧ w.cell? ⟨b, 2, none⟩ = some z := by
  refine ⟨?_, ?_, ?_⟩ <;> simp [World.cell?, h]

theorem changed_fin {b mb n : Nat} {D : DataW Unit} {s : ByteArray} {g : Reg → Reg} {r : Reg} {w w2 w3 w4 : World} (hb : Below w.heap.size w w2) (hr : r.data = D.atKey (bkey s) Reg.fresh.data)
    (hg3 : (w2.alloc (.cells #[.int .i64 r.value, .int .i64 r.step, .string r.fm] 51)).grownBy w3 (some w2.heap.size)) (hB3 : BookAt b mb n D w3)
    (hown : w4.ownsMap Tryz.prog 9 regElem mb (n + 1) (D.put (bkey s) (g r).data)) (hg4 : w3.drew.grownBy w4 (some mb)) : ChangedP b mb n D s g w (.returned (.int .i64 0)) w4 := by
  refine ⟨rfl, r, hr, ⟨?_, hown⟩, ?_⟩
  · rw [hg4.block b hB3.lt (by have := hB3.ne; simpa using this)]
    exact hB3.blk
  · have h1 : w.grownBy w3 (some mb) := grown_new hg3 (grown_below (hb.alloc hb.size _) _) hb.size
    exact grown_trans h1 ⟨hg4.os, hg4.tape, hg4.output, hg4.size, hg4.block⟩

set_option maxRecDepth 100000 in
set_option maxHeartbeats 1000000 in
theorem change_ok {b mb n : Nat} {D : DataW Unit} {w : World} (hB : BookAt b mb n D w) (s : ByteArray) (fn : FuncId) (cb : Nat) (g : Reg → Reg)
    (hcf : ∀ rb w, (callFunc fn #[.pointer (some ⟨rb, 0, none⟩), .pointer (some ⟨cb, 0, none⟩)]).run Tryz.prog w = .ok (.enter fn #[.pointer (some ⟨rb, 0, none⟩), .pointer (some ⟨cb, 0, none⟩)]) w)
    (hH : HowDoes fn cb g w) (hn : nameErr s = 0) (hroom : has D (bkey s) = true ∨ Maps.size D ≠ 500) (hnm : n < maxLen) :
    Calls Tryz.prog 30 #[.pointer (some ⟨b, 0, none⟩), .string s, .int .i64 0, .func (.func fn) #[] #[.pointer (some ⟨cb, 0, none⟩)]] w (ChangedP b mb n D s g w) := by
  have hsz := nameErr_size hn
  have hml : s.size ≤ maxLen := by unfold maxLen; omega
  have HN := Lib.hid (nameError_any b mb s w (by omega) hB.cell)
  have HS := Lib.hid (has_any hB s hml)
  have HH := Lib.hid hH
  have HNE := Lib.hid hn
  clear hn hH
  cases hhv : has D (bkey s)
  case' false =>
    rw [hhv] at hroom
    have h500 : ((Maps.size D : Int) == 500) = false := by rw [beq_eq_false_iff_ne]; have := hroom.resolve_left (by simp); omega
  all_goals
    rw [hhv] at HS
    clear hroom hhv
    go_enter Tryz.func30, Tryz.ntmps30
    go_wp2_with fail
    refine (HN.out).mono ?_
    rintro e w0 ⟨rfl, rfl⟩
    rw [HNE.out]
    go_wp2_with fail
    refine (HS.out).mono ?_
    rintro e w1 ⟨rfl, hb1⟩
    have hlen := fun ty => (hB.below hb1).map.len Tryz.underlying39 ty
    have hbc1 := (hB.below hb1).cell
    go_wp2_with fail
    refine (at_any (hB.below hb1) s hml).mono ?_
    rintro e w2 ⟨r, rfl, hr, hb2⟩
    have hB2 := (hB.below hb1).below hb2
    have hb02 := hb1.trans (hb2.mono hb1.size)
    go_wp2_with fail
    refine (HH.out w2.heap.size r _ (hb02.alloc hb02.size _) hb02.size (heap_alloc_new _ _)).mono ?_
    rintro e w3 ⟨rfl, hc3, hg3⟩
    have hB3 : BookAt b mb n D w3 := (hB2.alloc _).grown hg3 (by have := hB2.lt; omega) (by have := hB2.mlt; omega)
    obtain ⟨c0, c1, c2⟩ := cells3 hc3
    have hbc := hB3.cell
    obtain ⟨w4, hst, hown, hg4⟩ := World.ownsMap.update (w := w3.drew) (t := 39) hB3.map str_keyed Tryz.underlying39 hnm (key_of s hml) (regElem_mk (g r))
    simp only [Reg.val] at hst
    clear hlen hbc1
    go_wp2_with fail
    go_region
    go_wp2_with fail
    go_ret
    exact changed_fin hb02 hr hg3 hB3 hown hg4

/-- What a change that is not let gives. -/
abbrev SaysErr (c : Int) (w : World) (e : Ending) (w' : World) : Prop := e = .returned (.int .i64 c) ∧ Below w.heap.size w w'

set_option maxRecDepth 100000 in
set_option maxHeartbeats 1000000 in
theorem change_name {b mb n : Nat} {D : DataW Unit} {w : World} (hB : BookAt b mb n D w) (s : ByteArray) (hs : s.size ≤ 9223372036854775807) (c : Int) (f : Value) (hn : nameErr s ≠ 0) :
    Calls Tryz.prog 30 #[.pointer (some ⟨b, 0, none⟩), .string s, .int .i64 c, f] w (SaysErr (nameErr s) w) := by
  have HN := Lib.hid (nameError_any b mb s w hs hB.cell)
  obtain ⟨x, hx⟩ : ∃ x, nameErr s = x := ⟨_, rfl⟩
  unfold NameP at HN
  rw [hx] at HN hn ⊢
  have hne : (x != 0) = true := by rw [bne_iff_ne]; exact hn
  clear hx hn
  go_enter Tryz.func30, Tryz.ntmps30
  go_wp2_with fail
  refine (HN.out).mono ?_
  rintro e w0 ⟨rfl, rfl⟩
  go_wp2_with fail
  go_ret
  exact ⟨rfl, Below.refl _ _⟩

set_option maxRecDepth 100000 in
set_option maxHeartbeats 1000000 in
theorem change_wrong {b mb n : Nat} {D : DataW Unit} {w : World} (hB : BookAt b mb n D w) (s : ByteArray) (c : Int) (f : Value) (hn : nameErr s = 0) (hc : c ≠ 0) :
    Calls Tryz.prog 30 #[.pointer (some ⟨b, 0, none⟩), .string s, .int .i64 c, f] w (SaysErr c w) := by
  have hsz := nameErr_size hn
  have HN := Lib.hid (nameError_any b mb s w (by omega) hB.cell)
  unfold NameP at HN
  rw [hn] at HN
  have hne : (c != 0) = true := by rw [bne_iff_ne]; exact hc
  clear hn hc
  go_enter Tryz.func30, Tryz.ntmps30
  go_wp2_with fail
  refine (HN.out).mono ?_
  rintro e w0 ⟨rfl, rfl⟩
  go_wp2_with fail
  go_ret
  exact ⟨rfl, Below.refl _ _⟩

set_option maxRecDepth 100000 in
set_option maxHeartbeats 1000000 in
theorem change_full {b mb n : Nat} {D : DataW Unit} {w : World} (hB : BookAt b mb n D w) (s : ByteArray) (f : Value) (hn : nameErr s = 0) (hh : has D (bkey s) = false) (h5 : Maps.size D = 500) :
    Calls Tryz.prog 30 #[.pointer (some ⟨b, 0, none⟩), .string s, .int .i64 0, f] w (SaysErr 9 w) := by
  have hsz := nameErr_size hn
  have hml : s.size ≤ maxLen := by unfold maxLen; omega
  have HN := Lib.hid (nameError_any b mb s w (by omega) hB.cell)
  have HS := Lib.hid (has_any hB s hml)
  unfold NameP at HN
  rw [hn] at HN
  rw [hh] at HS
  clear hn hh
  go_enter Tryz.func30, Tryz.ntmps30
  go_wp2_with fail
  refine (HN.out).mono ?_
  rintro e w0 ⟨rfl, rfl⟩
  go_wp2_with fail
  refine (HS.out).mono ?_
  rintro e w1 ⟨rfl, hb1⟩
  have hlen := fun ty => (hB.below hb1).map.len Tryz.underlying39 ty
  rw [h5] at hlen
  have hbc1 := (hB.below hb1).cell
  go_wp2_with fail
  go_ret
  exact ⟨rfl, hb1⟩
end Go.Proofs.YtopgbbkndkincaaGreatDoor
