/- Set, Step, Format of a book; a new one; how many names there are. -/
import Derived.Test.YtopgbbkndkincaaGreatDoorRgChange
import Derived.Test.YtopgbbkndkincaaGreatDoorRgWrite
namespace Go.Proofs.YtopgbbkndkincaaGreatDoor
open Go.RowKit Go.PlainAid Go.Maps

def setV (v : Int) (r : Reg) : Reg := { r with value := v }
def setS (v : Int) (r : Reg) : Reg := { r with step := v }
def setF (f : ByteArray) (r : Reg) : Reg := { r with fm := f }

theorem enters_set (rb cb : Nat) (w : World) : (callFunc 31 #[.pointer (some ⟨rb, 0, none⟩), .pointer (some ⟨cb, 0, none⟩)]).run Tryz.prog w = .ok (.enter 31 #[.pointer (some ⟨rb, 0, none⟩), .pointer (some ⟨cb, 0, none⟩)]) w := by kernel_rfl
theorem enters_step (rb cb : Nat) (w : World) : (callFunc 36 #[.pointer (some ⟨rb, 0, none⟩), .pointer (some ⟨cb, 0, none⟩)]).run Tryz.prog w = .ok (.enter 36 #[.pointer (some ⟨rb, 0, none⟩), .pointer (some ⟨cb, 0, none⟩)]) w := by kernel_rfl
theorem enters_format (rb cb : Nat) (w : World) : (callFunc 37 #[.pointer (some ⟨rb, 0, none⟩), .pointer (some ⟨cb, 0, none⟩)]).run Tryz.prog w = .ok (.enter 37 #[.pointer (some ⟨rb, 0, none⟩), .pointer (some ⟨cb, 0, none⟩)]) w := by kernel_rfl

theorem heap_set_at {w : World} {b : Nat} {c : Array Value} {t : TypeId} {f : Nat × Nat} (h : w.heap[b]? = some (.cells c t f)) (k : Nat) (u : Value) :
    (w.setCell ⟨b, k, none⟩ u).heap[b]? = some (.cells (c.setIfInBounds k u) t f) := by
  have hlt := (Array.getElem?_eq_some_iff.1 h).1
  have h' : w.heap[b] = .cells c t f := by simpa [Array.getElem?_eq_getElem hlt] using h
  show (w.heap.modify b _)[b]? = _
  rw [Array.getElem?_eq_getElem (by simpa using hlt), Array.getElem_modify_self, h']
  rfl
theorem grown_set (w : World) (b k : Nat) (u : Value) : w.grownBy (w.setCell ⟨b, k, none⟩ u) (some b) :=
  ⟨rfl, rfl, rfl, by simp [World.setCell], fun i _ hb => Below.heap_setCell _ ⟨b, k, none⟩ _ _ (by simpa using hb)⟩

theorem set1_does (v : Int) (w : World) : HowDoes 31 w.heap.size (setV v) (w.alloc (.cells #[.int .i64 v] 3)) := by
  intro rb r W hb hle hc
  have hcb : W.cell? ⟨w.heap.size, 0, none⟩ = some (.int .i64 v) := by
    simp only [World.cell?]
    rw [hb.block _ (by simp)]
    rw [heap_alloc_new]
    simp
  obtain ⟨c0, c1, c2⟩ := cells3 hc
  have hf : W.frozen? ⟨rb, 0, none⟩ = false := by simp [World.frozen?, hc]
  go_enter Tryz.func31, Tryz.ntmps31
  go_wp2
  go_end0
  exact ⟨rfl, heap_set_at hc 0 _, grown_set _ _ _ _⟩
theorem step1_does (v : Int) (w : World) : HowDoes 36 w.heap.size (setS v) (w.alloc (.cells #[.int .i64 v] 3)) := by
  intro rb r W hb hle hc
  have hcb : W.cell? ⟨w.heap.size, 0, none⟩ = some (.int .i64 v) := by
    simp only [World.cell?]
    rw [hb.block _ (by simp)]
    rw [heap_alloc_new]
    simp
  obtain ⟨c0, c1, c2⟩ := cells3 hc
  have hf : W.frozen? ⟨rb, 1, none⟩ = false := by simp [World.frozen?, hc]
  go_enter Tryz.func36, Tryz.ntmps36
  go_wp2
  go_end0
  exact ⟨rfl, heap_set_at hc 1 _, grown_set _ _ _ _⟩
theorem format1_does (v : ByteArray) (w : World) : HowDoes 37 w.heap.size (setF v) (w.alloc (.cells #[.string v] 9)) := by
  intro rb r W hb hle hc
  have hcb : W.cell? ⟨w.heap.size, 0, none⟩ = some (.string v) := by
    simp only [World.cell?]
    rw [hb.block _ (by simp)]
    rw [heap_alloc_new]
    simp
  obtain ⟨c0, c1, c2⟩ := cells3 hc
  have hf : W.frozen? ⟨rb, 2, none⟩ = false := by simp [World.frozen?, hc]
  go_enter Tryz.func37, Tryz.ntmps37
  go_wp2
  go_end0
  exact ⟨rfl, heap_set_at hc 2 _, grown_set _ _ _ _⟩

theorem grown_alloc1 {w w' : World} {o : Obj} {row : Option Nat} (h : (w.alloc o).grownBy w' row) : w.grownBy w' row := grown_trans (World.grownBy_alloc _ _ _) h

set_option maxRecDepth 100000 in
set_option maxHeartbeats 1000000 in
theorem set_ok {b mb n : Nat} {D : DataW Unit} {w : World} (hB : BookAt b mb n D w) (s : ByteArray) (v : Int) (hv : rangeErr v = 0) (hn : nameErr s = 0) (hroom : has D (bkey s) = true ∨ Maps.size D ≠ 500) (hnm : n < maxLen) :
    Calls Tryz.prog 11 #[.pointer (some ⟨b, 0, none⟩), .string s, .int .i64 v] w (ChangedP b mb n D s (setV v) w) := by
  have hmf : ∀ (fn : Fn) (first cap : Array Value) (w : World), (Instr.makeFunc fn first cap).run Tryz.prog w = .ok (.func fn first cap) w := fun _ _ _ _ => rfl
  have HC := Lib.hid (change_ok (hB.alloc (.cells #[.int .i64 v] 3)) s 31 w.heap.size (setV v) (fun rb w => enters_set rb _ w) (set1_does v w) hn hroom hnm)
  have HR := Lib.hid (rangeError_any v)
  rw [hv] at HR
  clear hn hroom
  go_enter Tryz.func11, Tryz.ntmps11
  go_wp2_with fail
  refine (HR.out _).mono ?_
  rintro e w1 ⟨rfl, rfl⟩
  go_wp2_with fail
  refine (HC.out).mono ?_
  rintro e w2 ⟨rfl, r, hr, hB2, hg⟩
  go_wp2_with fail
  go_ret
  exact ⟨rfl, r, hr, hB2, grown_alloc1 hg⟩

set_option maxRecDepth 100000 in
set_option maxHeartbeats 1000000 in
theorem set_full {b mb n : Nat} {D : DataW Unit} {w : World} (hB : BookAt b mb n D w) (s : ByteArray) (v : Int) (hv : rangeErr v = 0) (hn : nameErr s = 0) (hh : has D (bkey s) = false) (h5 : Maps.size D = 500) :
    Calls Tryz.prog 11 #[.pointer (some ⟨b, 0, none⟩), .string s, .int .i64 v] w (SaysErr 9 w) := by
  have hmf : ∀ (fn : Fn) (first cap : Array Value) (w : World), (Instr.makeFunc fn first cap).run Tryz.prog w = .ok (.func fn first cap) w := fun _ _ _ _ => rfl
  have HC := Lib.hid (fun f => change_full (hB.alloc (.cells #[.int .i64 v] 3)) s f hn hh h5)
  have HR := Lib.hid (rangeError_any v)
  rw [hv] at HR
  clear hn hh h5
  go_enter Tryz.func11, Tryz.ntmps11
  go_wp2_with fail
  refine (HR.out _).mono ?_
  rintro e w1 ⟨rfl, rfl⟩
  go_wp2_with fail
  refine (HC.out _).mono ?_
  rintro e w2 ⟨rfl, hb⟩
  go_wp2_with fail
  go_ret
  exact ⟨rfl, ((Below.refl _ _).alloc (Nat.le_refl _) _).trans (hb.mono (by simp))⟩

set_option maxRecDepth 100000 in
set_option maxHeartbeats 1000000 in
theorem step_ok {b mb n : Nat} {D : DataW Unit} {w : World} (hB : BookAt b mb n D w) (s : ByteArray) (v : Int) (hv : rangeErr v = 0) (hn : nameErr s = 0) (hroom : has D (bkey s) = true ∨ Maps.size D ≠ 500) (hnm : n < maxLen) :
    Calls Tryz.prog 13 #[.pointer (some ⟨b, 0, none⟩), .string s, .int .i64 v] w (ChangedP b mb n D s (setS v) w) := by
  have hmf : ∀ (fn : Fn) (first cap : Array Value) (w : World), (Instr.makeFunc fn first cap).run Tryz.prog w = .ok (.func fn first cap) w := fun _ _ _ _ => rfl
  have HC := Lib.hid (change_ok (hB.alloc (.cells #[.int .i64 v] 3)) s 36 w.heap.size (setS v) (fun rb w => enters_step rb _ w) (step1_does v w) hn hroom hnm)
  have HR := Lib.hid (rangeError_any v)
  rw [hv] at HR
  clear hn hroom
  go_enter Tryz.func13, Tryz.ntmps13
  go_wp2_with fail
  refine (HR.out _).mono ?_
  rintro e w1 ⟨rfl, rfl⟩
  go_wp2_with fail
  refine (HC.out).mono ?_
  rintro e w2 ⟨rfl, r, hr, hB2, hg⟩
  go_wp2_with fail
  go_ret
  exact ⟨rfl, r, hr, hB2, grown_alloc1 hg⟩

set_option maxRecDepth 100000 in
set_option maxHeartbeats 1000000 in
theorem step_full {b mb n : Nat} {D : DataW Unit} {w : World} (hB : BookAt b mb n D w) (s : ByteArray) (v : Int) (hv : rangeErr v = 0) (hn : nameErr s = 0) (hh : has D (bkey s) = false) (h5 : Maps.size D = 500) :
    Calls Tryz.prog 13 #[.pointer (some ⟨b, 0, none⟩), .string s, .int .i64 v] w (SaysErr 9 w) := by
  have hmf : ∀ (fn : Fn) (first cap : Array Value) (w : World), (Instr.makeFunc fn first cap).run Tryz.prog w = .ok (.func fn first cap) w := fun _ _ _ _ => rfl
  have HC := Lib.hid (fun f => change_full (hB.alloc (.cells #[.int .i64 v] 3)) s f hn hh h5)
  have HR := Lib.hid (rangeError_any v)
  rw [hv] at HR
  clear hn hh h5
  go_enter Tryz.func13, Tryz.ntmps13
  go_wp2_with fail
  refine (HR.out _).mono ?_
  rintro e w1 ⟨rfl, rfl⟩
  go_wp2_with fail
  refine (HC.out _).mono ?_
  rintro e w2 ⟨rfl, hb⟩
  go_wp2_with fail
  go_ret
  exact ⟨rfl, ((Below.refl _ _).alloc (Nat.le_refl _) _).trans (hb.mono (by simp))⟩

set_option maxRecDepth 100000 in
set_option maxHeartbeats 1000000 in
theorem format_ok {b mb n : Nat} {D : DataW Unit} {w : World} (hB : BookAt b mb n D w) (s : ByteArray) (v : ByteArray) (hf : ∀ w, Calls Tryz.prog 27 #[.string v] w fun e w' => e = .returned (.int .i64 0) ∧ w = w') (hn : nameErr s = 0) (hroom : has D (bkey s) = true ∨ Maps.size D ≠ 500) (hnm : n < maxLen) :
    Calls Tryz.prog 15 #[.pointer (some ⟨b, 0, none⟩), .string s, .string v] w (ChangedP b mb n D s (setF v) w) := by
  have hmf : ∀ (fn : Fn) (first cap : Array Value) (w : World), (Instr.makeFunc fn first cap).run Tryz.prog w = .ok (.func fn first cap) w := fun _ _ _ _ => rfl
  have HC := Lib.hid (change_ok (hB.alloc (.cells #[.string v] 9)) s 37 w.heap.size (setF v) (fun rb w => enters_format rb _ w) (format1_does v w) hn hroom hnm)
  have HR := Lib.hid hf
  clear hn hroom
  go_enter Tryz.func15, Tryz.ntmps15
  go_wp2_with fail
  refine (HR.out _).mono ?_
  rintro e w1 ⟨rfl, rfl⟩
  go_wp2_with fail
  refine (HC.out).mono ?_
  rintro e w2 ⟨rfl, r, hr, hB2, hg⟩
  go_wp2_with fail
  go_ret
  exact ⟨rfl, r, hr, hB2, grown_alloc1 hg⟩

set_option maxRecDepth 100000 in
set_option maxHeartbeats 1000000 in
theorem format_full {b mb n : Nat} {D : DataW Unit} {w : World} (hB : BookAt b mb n D w) (s : ByteArray) (v : ByteArray) (hf : ∀ w, Calls Tryz.prog 27 #[.string v] w fun e w' => e = .returned (.int .i64 0) ∧ w = w') (hn : nameErr s = 0) (hh : has D (bkey s) = false) (h5 : Maps.size D = 500) :
    Calls Tryz.prog 15 #[.pointer (some ⟨b, 0, none⟩), .string s, .string v] w (SaysErr 9 w) := by
  have hmf : ∀ (fn : Fn) (first cap : Array Value) (w : World), (Instr.makeFunc fn first cap).run Tryz.prog w = .ok (.func fn first cap) w := fun _ _ _ _ => rfl
  have HC := Lib.hid (fun f => change_full (hB.alloc (.cells #[.string v] 9)) s f hn hh h5)
  have HR := Lib.hid hf
  clear hn hh h5
  go_enter Tryz.func15, Tryz.ntmps15
  go_wp2_with fail
  refine (HR.out _).mono ?_
  rintro e w1 ⟨rfl, rfl⟩
  go_wp2_with fail
  refine (HC.out _).mono ?_
  rintro e w2 ⟨rfl, hb⟩
  go_wp2_with fail
  go_ret
  exact ⟨rfl, ((Below.refl _ _).alloc (Nat.le_refl _) _).trans (hb.mono (by simp))⟩

/-- A new book. -/
theorem new_any (w : World) : Calls Tryz.prog 5 #[] w fun e w' => ∃ b mb : Nat, e = .returned (.pointer (some ⟨b, 0, none⟩)) ∧ w.heap.size ≤ b ∧ w.heap.size ≤ mb ∧ BookAt b mb 0 (.map []) w' ∧ Below w.heap.size w w' := by
  have hmm := @run_makeMap Tryz.prog
  go_enter Tryz.func5, Tryz.ntmps5
  go_wp2
  go_ret
  refine ⟨_, w.heap.size, rfl, by simp, Nat.le_refl _, ⟨?_, ?_⟩, two_allocs _ _ _⟩
  · exact heap_alloc2_new _ _ _
  · exact (World.ownsMap_made w Tryz.prog 9 regElem).alloc _
end Go.Proofs.YtopgbbkndkincaaGreatDoor
