/- The reader in memory. -/
import Derived.Test.YtkkcoajgpdpfkabDoorMsLeaf2
import Derived.OneCell
namespace Go.Proofs.YtkkcoajgpdpfkabDoor
open Go.RowKit Go.PlainAid

/-- Block b is a reader of E's text and context: where it stands, its depth, where its last operand ended. -/
def Rd (E : Ms.Env) (b : Nat) (p d l : Int) (w : World) : Prop :=
  w.heap[b]? = some (.cells #[.string E.s, .int .i64 p, .int .i64 d, .int .i64 l, .int .i64 E.z, .int .i64 E.v, .int .i64 E.h, .int .i64 E.one, .bool E.bl] 81 (0, 0))

theorem Rd.lt {E : Ms.Env} {b : Nat} {p d l : Int} {w : World} (h : Rd E b p d l w) : b < w.heap.size := lt_of_block h
theorem Rd.c0 {E : Ms.Env} {b : Nat} {p d l : Int} {w : World} (h : Rd E b p d l w) : w.cell? ⟨b, 0, none⟩ = some (.string E.s) := by simp [World.cell?, show w.heap[b]? = _ from h]
theorem Rd.c1 {E : Ms.Env} {b : Nat} {p d l : Int} {w : World} (h : Rd E b p d l w) : w.cell? ⟨b, 1, none⟩ = some (.int .i64 p) := by simp [World.cell?, show w.heap[b]? = _ from h]
theorem Rd.c2 {E : Ms.Env} {b : Nat} {p d l : Int} {w : World} (h : Rd E b p d l w) : w.cell? ⟨b, 2, none⟩ = some (.int .i64 d) := by simp [World.cell?, show w.heap[b]? = _ from h]
theorem Rd.c3 {E : Ms.Env} {b : Nat} {p d l : Int} {w : World} (h : Rd E b p d l w) : w.cell? ⟨b, 3, none⟩ = some (.int .i64 l) := by simp [World.cell?, show w.heap[b]? = _ from h]
theorem Rd.c4 {E : Ms.Env} {b : Nat} {p d l : Int} {w : World} (h : Rd E b p d l w) : w.cell? ⟨b, 4, none⟩ = some (.int .i64 E.z) := by simp [World.cell?, show w.heap[b]? = _ from h]
theorem Rd.c5 {E : Ms.Env} {b : Nat} {p d l : Int} {w : World} (h : Rd E b p d l w) : w.cell? ⟨b, 5, none⟩ = some (.int .i64 E.v) := by simp [World.cell?, show w.heap[b]? = _ from h]
theorem Rd.c6 {E : Ms.Env} {b : Nat} {p d l : Int} {w : World} (h : Rd E b p d l w) : w.cell? ⟨b, 6, none⟩ = some (.int .i64 E.h) := by simp [World.cell?, show w.heap[b]? = _ from h]
theorem Rd.c7 {E : Ms.Env} {b : Nat} {p d l : Int} {w : World} (h : Rd E b p d l w) : w.cell? ⟨b, 7, none⟩ = some (.int .i64 E.one) := by simp [World.cell?, show w.heap[b]? = _ from h]
theorem Rd.c8 {E : Ms.Env} {b : Nat} {p d l : Int} {w : World} (h : Rd E b p d l w) : w.cell? ⟨b, 8, none⟩ = some (.bool E.bl) := by simp [World.cell?, show w.heap[b]? = _ from h]
theorem Rd.fz {E : Ms.Env} {b : Nat} {p d l : Int} {w : World} (h : Rd E b p d l w) (k : Nat) : w.frozen? ⟨b, k, none⟩ = false := by simp [World.frozen?, show w.heap[b]? = _ from h]
theorem heap_setCell_at {w : World} {b : Nat} {c : Array Value} {t : TypeId} {f : Nat × Nat} (h : w.heap[b]? = some (.cells c t f)) (k : Nat) (u : Value) :
    (w.setCell ⟨b, k, none⟩ u).heap[b]? = some (.cells (c.setIfInBounds k u) t f) := by
  have hlt := lt_of_block h
  have h' : w.heap[b] = .cells c t f := by simpa [Array.getElem?_eq_getElem hlt] using h
  show (w.heap.modify b _)[b]? = _
  rw [Array.getElem?_eq_getElem (by simpa using hlt), Array.getElem_modify_self, h']
  rfl
theorem Rd.set1 {E : Ms.Env} {b : Nat} {p d l : Int} {w : World} (h : Rd E b p d l w) (q : Int) : Rd E b q d l (w.setCell ⟨b, 1, none⟩ (.int .i64 q)) := heap_setCell_at h 1 _
theorem Rd.set2 {E : Ms.Env} {b : Nat} {p d l : Int} {w : World} (h : Rd E b p d l w) (q : Int) : Rd E b p q l (w.setCell ⟨b, 2, none⟩ (.int .i64 q)) := heap_setCell_at h 2 _
theorem Rd.set3 {E : Ms.Env} {b : Nat} {p d l : Int} {w : World} (h : Rd E b p d l w) (q : Int) : Rd E b p d q (w.setCell ⟨b, 3, none⟩ (.int .i64 q)) := heap_setCell_at h 3 _
theorem Rd.drew {E : Ms.Env} {b : Nat} {p d l : Int} {w : World} (h : Rd E b p d l w) : Rd E b p d l w.drew := h
theorem Rd.below {E : Ms.Env} {b : Nat} {p d l : Int} {w w' : World} (h : Rd E b p d l w) (hb : Below w.heap.size w w') : Rd E b p d l w' := by
  unfold Rd; rw [hb.block b h.lt]; exact h
theorem Rd.drewN {E : Ms.Env} {b : Nat} {p d l : Int} {w : World} (h : Rd E b p d l w) (n : Nat) : Rd E b p d l (w.drewN n) := h

/-- Draws alone. -/
def Drew (w w' : World) : Prop := ∃ n, w' = w.drewN n
theorem Drew.refl (w : World) : Drew w w := ⟨0, rfl⟩
theorem Drew.drewN {a w : World} (h : Drew a w) (n : Nat) : Drew a (w.drewN n) := by obtain ⟨m, rfl⟩ := h; exact ⟨m + n, by simp⟩
theorem Drew.trans {a w w' : World} (h : Drew a w) (k : Drew w w') : Drew a w' := by obtain ⟨m, rfl⟩ := h; obtain ⟨n, rfl⟩ := k; exact ⟨m + n, by simp⟩
/-- Only block b, and new ones, have turned. -/
structure Only (b : Nat) (w w' : World) : Prop where
  os : w'.os = w.os
  tape : w'.tape = w.tape
  output : w'.output = w.output
  size : w.heap.size ≤ w'.heap.size
  block : ∀ k, k < w.heap.size → k ≠ b → w'.heap[k]? = w.heap[k]?
theorem Only.refl (b : Nat) (w : World) : Only b w w := ⟨rfl, rfl, rfl, Nat.le_refl _, fun _ _ _ => rfl⟩
theorem Only.trans {b : Nat} {a w c : World} (h : Only b a w) (k : Only b w c) : Only b a c :=
  ⟨k.os.trans h.os, k.tape.trans h.tape, k.output.trans h.output, Nat.le_trans h.size k.size, fun i hi hb => (k.block i (Nat.lt_of_lt_of_le hi h.size) hb).trans (h.block i hi hb)⟩
theorem only_drewN {b : Nat} {a w : World} (h : Only b a w) (n : Nat) : Only b a (w.drewN n) := h.trans ⟨rfl, rfl, rfl, Nat.le_refl _, fun _ _ _ => rfl⟩
theorem only_set {b k : Nat} {a w : World} (h : Only b a w) (u : Value) : Only b a (w.setCell ⟨b, k, none⟩ u) :=
  h.trans ⟨rfl, rfl, rfl, by simp [World.setCell], fun i _ hb => Below.heap_setCell _ ⟨b, k, none⟩ _ _ hb⟩
theorem only_after {b : Nat} {w W w1 : World} (hb : Below W.heap.size W w1) (h : Only b w W) : Only b w w1 :=
  h.trans ⟨hb.os, hb.tape, hb.output, hb.size, fun k hk _ => hb.block k hk⟩
theorem Only.below {b B : Nat} {w w' : World} (h : Only b w w') (h1 : B ≤ b) (h2 : B ≤ w.heap.size) : Below B w w' :=
  ⟨h.os, h.tape, h.output, h.size, fun k hk => h.block k (by omega) (by omega)⟩
theorem Drew.only {w w' : World} (h : Drew w w') (b : Nat) : Only b w w' := by obtain ⟨n, rfl⟩ := h; exact only_drewN (Only.refl _ _) n
theorem Drew.below {w w' : World} (h : Drew w w') (B : Nat) : Below B w w' := by obtain ⟨n, rfl⟩ := h; exact below_drewN (Below.refl _ _) n
theorem Drew.rd {E : Ms.Env} {b : Nat} {p d l : Int} {w w' : World} (h : Drew w w') (hr : Rd E b p d l w) : Rd E b p d l w' := by obtain ⟨n, rfl⟩ := h; exact hr.drewN n

/-- What a method that moves the reader leaves. -/
def Moved (E : Ms.Env) (b : Nat) (p : Nat) (d l : Int) (w w' : World) : Prop := Rd E b p d l w' ∧ Only b w w'
theorem Moved.trans {E : Ms.Env} {b p q : Nat} {d l d' l' : Int} {w w1 w2 : World} (h : Moved E b p d l w w1) (k : Moved E b q d' l' w1 w2) : Moved E b q d' l' w w2 := ⟨k.1, h.2.trans k.2⟩

set_option maxHeartbeats 400000 in
theorem takes_yes (E : Ms.Env) (b p : Nat) (d l c : Int) (w : World) (hs : E.s.size ≤ 4611686018427387904) (hr : Rd E b p d l w) (hp : p < E.s.size) (hc : bt E.s p = c) :
    Calls Tryd.prog 41 #[.pointer (some ⟨b, 0, none⟩), .int .u8 c] w fun e w' => e = .returned (.bool true) ∧ Moved E b (p + 1) d l w w' := by
  have hb := get_bt E.s
  have k0 := hr.c0
  have k1 := hr.c1
  have kf := hr.fz 1
  subst hc
  have e1 : (((p : Int)) == (E.s.size : Int)) = false := by rw [beq_eq_false_iff_ne]; omega
  go_enter Tryd.func41, Tryd.ntmps41
  go_wp2
  go_quiet (fail)
  go_wp2
  go_ret
  exact ⟨rfl, (hr.drewN _).set1 _, only_set (only_drewN (Only.refl _ _) _) _⟩

set_option maxHeartbeats 400000 in
theorem takes_no (E : Ms.Env) (b p : Nat) (d l c : Int) (w : World) (_hs : E.s.size ≤ 4611686018427387904) (hr : Rd E b p d l w) (hp : p ≤ E.s.size) (hc : bt E.s p ≠ c) :
    Calls Tryd.prog 41 #[.pointer (some ⟨b, 0, none⟩), .int .u8 c] w fun e w' => e = .returned (.bool false) ∧ Drew w w' := by
  have hb := get_bt E.s
  have k0 := hr.c0
  have k1 := hr.c1
  by_cases h : p = E.s.size
  · have e1 : (((p : Int)) == (E.s.size : Int)) = true := by rw [beq_iff_eq]; omega
    clear h
    go_enter Tryd.func41, Tryd.ntmps41
    go_wp2
    go_quiet (fail)
    go_wp2
    go_ret
    exact ⟨rfl, _, rfl⟩
  · have h' : p < E.s.size := by omega
    have e1 : (((p : Int)) == (E.s.size : Int)) = false := by rw [beq_eq_false_iff_ne]; omega
    have e2 : (bt E.s p != c) = true := by simpa using hc
    clear h
    go_enter Tryd.func41, Tryd.ntmps41
    go_wp2
    go_quiet (fail)
    go_wp2
    go_ret
    exact ⟨rfl, _, rfl⟩

set_option maxHeartbeats 400000 in
theorem peek_any (E : Ms.Env) (b p : Nat) (d l : Int) (w : World) (_hs : E.s.size ≤ 4611686018427387904) (hr : Rd E b p d l w) :
    Calls Tryd.prog 77 #[.pointer (some ⟨b, 0, none⟩)] w fun e w' => e = .returned (.int .u8 (bt E.s p)) ∧ Drew w w' := by
  have hb := get_bt E.s
  have k0 := hr.c0
  have k1 := hr.c1
  by_cases h : p < E.s.size
  · go_enter Tryd.func77, Tryd.ntmps77
    go_wp2
    go_quiet (fail)
    go_wp2
    go_quiet (fail)
    go_wp2
    go_ret
    exact ⟨rfl, ((Drew.refl _).drewN _).drewN _⟩
  · rw [bt_end E.s (by omega)]
    go_enter Tryd.func77, Tryd.ntmps77
    go_wp2
    go_quiet (fail)
    go_wp2
    go_ret
    exact ⟨rfl, _, rfl⟩

set_option maxHeartbeats 400000 in
theorem mustEnd_yes (E : Ms.Env) (b p : Nat) (d l : Int) (w : World) (_hs : E.s.size ≤ 4611686018427387904) (hr : Rd E b p d l w) (h : ¬ p < E.s.size) :
    Calls Tryd.prog 38 #[.pointer (some ⟨b, 0, none⟩)] w fun e w' => e = .returned (.tuple #[]) ∧ Drew w w' := by
  have k0 := hr.c0
  have k1 := hr.c1
  go_enter Tryd.func38, Tryd.ntmps38
  go_wp2
  go_quiet (fail)
  go_wp2
  go_end0
  exact ⟨rfl, _, rfl⟩

set_option maxHeartbeats 400000 in
theorem mustEnd_no (E : Ms.Env) (b p : Nat) (d l : Int) (w : World) (_hs : E.s.size ≤ 4611686018427387904) (hr : Rd E b p d l w) (h : p < E.s.size) :
    Calls Tryd.prog 38 #[.pointer (some ⟨b, 0, none⟩)] w fun e w' => e = thrown 4 ∧ Drew w w' := by
  have k0 := hr.c0
  have k1 := hr.c1
  go_enter Tryd.func38, Tryd.ntmps38
  go_wp2
  go_quiet (fail)
  go_wp2
  exact ⟨rfl, rfl, _, rfl⟩

set_option maxHeartbeats 400000 in
theorem mustTake_yes (E : Ms.Env) (b p : Nat) (d l c : Int) (w : World) (hs : E.s.size ≤ 4611686018427387904) (hr : Rd E b p d l w) (hp : p < E.s.size) (hc : bt E.s p = c) :
    Calls Tryd.prog 104 #[.pointer (some ⟨b, 0, none⟩), .int .u8 c] w fun e w' => e = .returned (.tuple #[]) ∧ Moved E b (p + 1) d l w w' := by
  go_enter Tryd.func104, Tryd.ntmps104
  go_wp2_with fail
  refine (takes_yes E b p d l c _ hs hr hp hc).mono ?_
  rintro e w1 ⟨rfl, hm⟩
  go_wp2
  go_end0
  exact ⟨rfl, hm⟩
set_option maxHeartbeats 400000 in
theorem mustTake_no (E : Ms.Env) (b p : Nat) (d l c : Int) (w : World) (hs : E.s.size ≤ 4611686018427387904) (hr : Rd E b p d l w) (hp : p ≤ E.s.size) (hc : bt E.s p ≠ c) :
    Calls Tryd.prog 104 #[.pointer (some ⟨b, 0, none⟩), .int .u8 c] w fun e w' => e = thrown 4 ∧ Drew w w' := by
  go_enter Tryd.func104, Tryd.ntmps104
  go_wp2_with fail
  refine (takes_no E b p d l c _ hs hr hp hc).mono ?_
  rintro e w1 ⟨rfl, hm⟩
  go_wp2
  exact ⟨rfl, rfl, hm⟩
end Go.Proofs.YtkkcoajgpdpfkabDoor
