/- The document's book in memory: where a name stands; what it has. -/
import Derived.Test.YtopgbbkndkincaaGreatDoorRdPure
import Derived.Test.YtopgbbkndkincaaGreatDoorProg
import Derived.WalkKit
import Derived.WalkSpells
import Derived.WalkLawsBesides
import Derived.Handy
import Derived.Lib.Hide
import Derived.Lib.Strings
import Derived.OneCell
import Derived.Below
import Derived.Deep.QuietTactic
import Derived.BigQuiet
namespace Go.Proofs.YtopgbbkndkincaaGreatDoor
open Go.RowKit Go.PlainAid

/-- Block b is a book of the rows l, which lie in a row of their own; all from block B on. -/
structure RefAt (B b : Nat) (v : Value) (l : List Row) (w : World) : Prop where
  blk : w.heap[b]? = some (.cells #[v] 29 (0, 0))
  row : w.ownsRow B 62 4 v l.length (flat l)
  lo : B ≤ b
  few : l.length ≤ 500
section
variable {B b : Nat} {v : Value} {l : List Row} {w w' : World}
theorem RefAt.cell (h : RefAt B b v l w) : w.cell? ⟨b, 0, none⟩ = some v := by unfold World.cell?; rw [h.blk]; rfl
theorem RefAt.lt (h : RefAt B b v l w) : b < w.heap.size := (Array.getElem?_eq_some_iff.1 h.blk).1
theorem RefAt.below (h : RefAt B b v l w) (hb : Below w.heap.size w w') : RefAt B b v l w' :=
  ⟨by rw [hb.block _ h.lt]; exact h.blk, h.row.kept (row := none) ⟨hb.os, hb.tape, hb.output, hb.size, fun k hk _ => hb.block k hk⟩ (by cases v.ownBlock <;> simp), h.lo, h.few⟩
/-- The slice: nil and empty, or a row. -/
theorem RefAt.ways (h : RefAt B b v l w) : (v = .slice none 0 0 ∧ l = []) ∨ ∃ g cap, v = .slice (some ⟨g, 0, none⟩) l.length cap ∧ B ≤ g ∧ g < w.heap.size ∧ g ≠ b ∧ l.length ≤ cap ∧ cap ≤ maxLen := by
  rcases h.row.2 with ⟨h1, h2⟩ | ⟨g, cap, cur, h1, h2, h3, h4, h5, _⟩
  · exact .inl ⟨h1, List.eq_nil_of_length_eq_zero h2⟩
  · refine .inr ⟨g, cap, h1, h2, (Array.getElem?_eq_some_iff.1 h3).1, ?_, h4, h5⟩
    intro e
    rw [e, h.blk] at h3
    simp at h3
/-- The cells of a row that is there. -/
theorem RefAt.cells {g cap : Nat} (h : RefAt B b (.slice (some ⟨g, 0, none⟩) l.length cap) l w) {i : Nat} {r : Row} (hr : l[i]? = some r) :
    w.cell? ⟨g, i * 4, none⟩ = some (.string r.name) ∧ w.cell? ⟨g, i * 4 + 1, none⟩ = some (.int .i64 r.value) ∧ w.cell? ⟨g, i * 4 + 2, none⟩ = some (.int .i64 r.step) ∧ w.cell? ⟨g, i * 4 + 3, none⟩ = some (.string r.form) := by
  have hi : i < l.length := (List.getElem?_eq_some_iff.1 hr).1
  have one : ∀ j, j < 4 → w.cell? ⟨g, i * 4 + j, none⟩ = r.cells[j]? := fun j hj => by rw [h.row.cellAt (i * 4 + j) (by omega), flat_get hr j hj]
  exact ⟨one 0 (by omega), one 1 (by omega), one 2 (by omega), one 3 (by omega)⟩

abbrev Says (v : Value) (w : World) (e : Ending) (w' : World) : Prop := e = .returned v ∧ w = w'
abbrev Makes (v : Value) (w : World) (e : Ending) (w' : World) : Prop := e = .returned v ∧ Below w.heap.size w w'
theorem below_drewN {B : Nat} {w w' : World} (h : Below B w w') (q : Nat) : Below B w (w'.drewN q) := ⟨h.os, h.tape, h.output, h.size, h.block⟩

set_option maxRecDepth 100000 in
set_option maxHeartbeats 2000000 in
theorem rat_nil (nm : ByteArray) (h : RefAt B b (.slice none 0 0) [] w) : Calls Tryz.prog 43 #[.pointer (some ⟨b, 0, none⟩), .string nm] w (Makes (.tuple #[.int .i64 0, .bool false]) w) := by
  have hc := h.cell
  go_enter Tryz.func43, Tryz.ntmps43
  go_wp2_with fail
  go_loop [6] (fun i => i = .int .i64 0) (fun _ => 0)
  case atStart => rfl
  case round =>
    subst hrel
    go_wp2_with fail
    go_quiet (fail)
    go_wp2_with fail
    go_ret2
    exact ⟨rfl, below_drewN (Below.refl _ _) _⟩

set_option maxRecDepth 100000 in
set_option maxHeartbeats 2000000 in
theorem rat_row (nm : ByteArray) {g cap : Nat} (h : RefAt B b (.slice (some ⟨g, 0, none⟩) l.length cap) l w) : Calls Tryz.prog 43 #[.pointer (some ⟨b, 0, none⟩), .string nm] w (Makes (.tuple #[.int .i64 (pos nm l), .bool (isAt nm l)]) w) := by
  have hc := h.cell
  have hfew := h.few
  have HH := Lib.hid h
  clear h
  go_enter Tryz.func43, Tryz.ntmps43
  go_wp2_with fail
  go_loop [6] (fun i => ∃ k : Nat, k ≤ l.length ∧ i = .int .i64 k ∧ Hid (∀ j r, j < k → l[j]? = some r → lessB r.name nm = true)) (fun i => l.length - (intOf i).toNat)
  case atStart => exact ⟨0, by omega, rfl, fun j r hj => absurd hj (Nat.not_lt_zero _)⟩
  case round =>
    obtain ⟨k, hk, rfl, hn⟩ := hrel
    by_cases hlt : k < l.length
    · obtain ⟨r, hr⟩ : ∃ r, l[k]? = some r := ⟨_, List.getElem?_eq_getElem hlt⟩
      obtain ⟨c0, _⟩ := HH.out.cells hr
      have hkz : (k : Int) < l.length := by omega
      have hk0 : (0 : Int) ≤ k := by omega
      have HR := Lib.hid hr
      clear hr
      cases hl : Op.bytesLess r.name.toList nm.toList with
      | true =>
        have HN : Hid (∀ j q, j < k + 1 → l[j]? = some q → lessB q.name nm = true) := fun j q hj hq => by
          by_cases e : j = k
          · subst e
            rw [HR.out] at hq
            injection hq with hq
            rw [← hq]; exact hl
          · exact hn.out j q (by omega) hq
        clear hn
        go_wp2_with fail
        go_round
        case rel => exact ⟨k + 1, by omega, by go_num, HN⟩
        case measure => simp [intOf]; omega
      | false =>
        have hp : pos nm l = k := pos_at hn.out (.inr ⟨r, HR.out, hl⟩)
        have hi : isAt nm l = (r.name.toList == nm.toList) := isAt_row (by rw [hp]; exact HR.out)
        obtain ⟨q, hq⟩ : ∃ q, (r.name.toList == nm.toList) = q := ⟨_, rfl⟩
        rw [hq] at hi
        have HP := Lib.hid hp
        have HI := Lib.hid hi
        clear hn hp hi HR
        go_wp2_with fail
        go_quiet (fail)
        go_wp2_with fail
        go_ret2
        exact ⟨by rw [HP.out, HI.out]; rfl, below_drewN (Below.refl _ _) _⟩
    · obtain rfl : k = l.length := by omega
      have hp : pos nm l = l.length := pos_at hn.out (.inl rfl)
      have HI := Lib.hid (isAt_end hp)
      have HP := Lib.hid hp
      clear hn hp
      go_wp2_with fail
      go_quiet (fail)
      go_wp2_with fail
      go_ret2
      exact ⟨by rw [HP.out, HI.out]; rfl, below_drewN (Below.refl _ _) _⟩
theorem rat_any (nm : ByteArray) (h : RefAt B b v l w) : Calls Tryz.prog 43 #[.pointer (some ⟨b, 0, none⟩), .string nm] w (Makes (.tuple #[.int .i64 (pos nm l), .bool (isAt nm l)]) w) := by
  rcases h.ways with ⟨rfl, rfl⟩ | ⟨g, cap, rfl, _⟩
  · exact rat_nil nm h
  · exact rat_row nm h

theorem rhas_any (nm : ByteArray) (h : RefAt B b v l w) : Calls Tryz.prog 42 #[.pointer (some ⟨b, 0, none⟩), .string nm] w (Makes (.bool (isAt nm l)) w) := by
  have HA := Lib.hid (rat_any nm h)
  clear h
  go_enter Tryz.func42, Tryz.ntmps42
  go_wp2_with fail
  refine HA.out.mono ?_
  rintro e w1 ⟨rfl, hb⟩
  go_wp2_with fail
  go_ret
  exact ⟨rfl, hb⟩

/-- What get gives. -/
def getR (nm : ByteArray) (l : List Row) : Row := match l[pos nm l]? with | some r => if isAt nm l then r else ⟨nm, 0, 0, ⟨#[48]⟩⟩ | none => ⟨nm, 0, 0, ⟨#[48]⟩⟩
theorem getR_yes {nm : ByteArray} {l : List Row} {r : Row} (h : l[pos nm l]? = some r) (hi : isAt nm l = true) : getR nm l = r := by unfold getR; rw [h, hi]; rfl
theorem getR_no {nm : ByteArray} {l : List Row} (hi : isAt nm l = false) : getR nm l = ⟨nm, 0, 0, ⟨#[48]⟩⟩ := by
  unfold getR
  split
  · rw [hi]; rfl
  · rfl
abbrev rowV (r : Row) : Value := .agg #[.string r.name, .int .i64 r.value, .int .i64 r.step, .string r.form]
set_option maxRecDepth 100000 in
set_option maxHeartbeats 1000000 in
theorem rget_any (nm : ByteArray) (h : RefAt B b v l w) : Calls Tryz.prog 34 #[.pointer (some ⟨b, 0, none⟩), .string nm] w (Makes (rowV (getR nm l)) w) := by
  have hbw : Below w.heap.size w (w.alloc (.cells #[.string ⟨#[]⟩, .int .i64 0, .int .i64 0, .string ⟨#[]⟩] 62)) := (Below.refl _ _).alloc (Nat.le_refl _) _
  have h1 := h.below hbw
  have HA := Lib.hid (rat_any nm h1)
  have HB := Lib.hid hbw
  have HH := Lib.hid h1
  clear h hbw h1
  cases hi : isAt nm l with
  | false =>
    rw [hi] at HA
    rw [getR_no hi]
    clear hi
    go_enter Tryz.func34, Tryz.ntmps34
    go_wp2_with fail
    refine HA.out.mono ?_
    rintro e w1 ⟨rfl, hb⟩
    have hx : w1.heap[w.heap.size]? = some (.cells #[.string ⟨#[]⟩, .int .i64 0, .int .i64 0, .string ⟨#[]⟩] 62 (0, 0)) := by rw [hb.block _ (by simp)]; exact heap_alloc_new _ _
    have k0 : w1.cell? ⟨w.heap.size, 0, none⟩ = some (.string ⟨#[]⟩) := by unfold World.cell?; rw [hx]; rfl
    have k1 : w1.cell? ⟨w.heap.size, 1, none⟩ = some (.int .i64 0) := by unfold World.cell?; rw [hx]; rfl
    have k2 : w1.cell? ⟨w.heap.size, 2, none⟩ = some (.int .i64 0) := by unfold World.cell?; rw [hx]; rfl
    have k3 : w1.cell? ⟨w.heap.size, 3, none⟩ = some (.string ⟨#[]⟩) := by unfold World.cell?; rw [hx]; rfl
    have f0 : ∀ j, w1.frozen? ⟨w.heap.size, j, none⟩ = false := fun j => by simp [World.frozen?, hx]
    have hbb := HB.out.trans (hb.mono HB.out.size)
    go_wp2_with fail
    simp [bodyPost, results, Tryz.results34, go_sem, k0, k1, k2, k3]
    exact ⟨rfl, (((hbb.setCell (p := ⟨w.heap.size, 0, none⟩) (Nat.le_refl _) _).setCell (p := ⟨w.heap.size, 1, none⟩) (Nat.le_refl _) _).setCell (p := ⟨w.heap.size, 2, none⟩) (Nat.le_refl _) _).setCell (p := ⟨w.heap.size, 3, none⟩) (Nat.le_refl _) _⟩
  | true =>
    rw [hi] at HA
    obtain ⟨r, hr, _⟩ := isAt_yes hi
    rw [getR_yes hr hi]
    have HR := Lib.hid hr
    have hlt : pos nm l < l.length := (List.getElem?_eq_some_iff.1 hr).1
    obtain ⟨p, hp⟩ : ∃ p, pos nm l = p := ⟨_, rfl⟩
    rw [hp] at HA HR hlt
    rcases HH.out.ways with ⟨_, h2⟩ | ⟨g, cap, hv, _⟩
    · rw [h2] at hlt; exact absurd hlt (Nat.not_lt_zero _)
    subst hv
    clear hi hr hp
    have hfew := HH.out.few
    go_enter Tryz.func34, Tryz.ntmps34
    go_wp2_with fail
    refine HA.out.mono ?_
    rintro e w1 ⟨rfl, hb⟩
    have hx : w1.heap[w.heap.size]? = some (.cells #[.string ⟨#[]⟩, .int .i64 0, .int .i64 0, .string ⟨#[]⟩] 62 (0, 0)) := by rw [hb.block _ (by simp)]; exact heap_alloc_new _ _
    have k0 : w1.cell? ⟨w.heap.size, 0, none⟩ = some (.string ⟨#[]⟩) := by unfold World.cell?; rw [hx]; rfl
    have k1 : w1.cell? ⟨w.heap.size, 1, none⟩ = some (.int .i64 0) := by unfold World.cell?; rw [hx]; rfl
    have k2 : w1.cell? ⟨w.heap.size, 2, none⟩ = some (.int .i64 0) := by unfold World.cell?; rw [hx]; rfl
    have k3 : w1.cell? ⟨w.heap.size, 3, none⟩ = some (.string ⟨#[]⟩) := by unfold World.cell?; rw [hx]; rfl
    have f0 : ∀ j, w1.frozen? ⟨w.heap.size, j, none⟩ = false := fun j => by simp [World.frozen?, hx]
    have hbb := HB.out.trans (hb.mono HB.out.size)
    have h2 := HH.out.below hb
    have hc := h2.cell
    obtain ⟨c0, c1, c2, c3⟩ := h2.cells HR.out
    clear h2
    go_wp2_with fail
    simp [bodyPost, results, Tryz.results34, go_sem, k0, k1, k2, k3]
    exact ⟨rfl, (((hbb.setCell (p := ⟨w.heap.size, 0, none⟩) (Nat.le_refl _) _).setCell (p := ⟨w.heap.size, 1, none⟩) (Nat.le_refl _) _).setCell (p := ⟨w.heap.size, 2, none⟩) (Nat.le_refl _) _).setCell (p := ⟨w.heap.size, 3, none⟩) (Nat.le_refl _) _⟩
end
end Go.Proofs.YtopgbbkndkincaaGreatDoor
