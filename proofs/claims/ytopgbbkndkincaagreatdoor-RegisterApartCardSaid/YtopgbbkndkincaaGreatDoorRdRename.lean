/- The document's book: Rename. -/
import Derived.Test.YtopgbbkndkincaaGreatDoorRdMove
namespace Go.Proofs.YtopgbbkndkincaaGreatDoor
open Go.RowKit Go.PlainAid Go.Shelf

/-- What a renaming makes. -/
def renR (a c : ByteArray) (l : List Row) : List Row × Int :=
  if nameErr a ≠ 0 ∨ nameErr c ≠ 0 ∨ isAt a l = false then (l, 6) else if a = c then (l, 0) else putR ⟨c, (getR a l).value, (getR a l).step, (getR a l).form⟩ (delR a l)
theorem RefKept.chain {b : Nat} {v v' : Value} {w w1 w2 : World} (h : RefKept b v w w1) (hk : RefKept b v' w1 w2) (hv : ∀ k, v'.ownBlock = some k → w.heap.size ≤ k) : RefKept b v w w2 :=
  ⟨hk.os.trans h.os, hk.tape.trans h.tape, hk.output.trans h.output, Nat.le_trans h.size hk.size, fun i hi h1 h2 => (hk.block i (Nat.lt_of_lt_of_le hi h.size) h1 (fun e => by have := hv i e; omega)).trans (h.block i hi h1 h2)⟩
theorem RefKept.cell {b g i : Nat} {v u : Value} {w w1 : World} (h : RefKept b v w w1) (hg : w.heap.size ≤ g) : RefKept b v w (w1.setCell ⟨g, i, none⟩ u) :=
  ⟨h.os, h.tape, h.output, by simpa using h.size, fun k hk h1 h2 => by rw [Below.heap_setCell _ ⟨g, i, none⟩ _ _ (by show k ≠ g; omega)]; exact h.block k hk h1 h2⟩
theorem RefAt.cellOf {B b g i : Nat} {v u : Value} {l : List Row} {w : World} (h : RefAt B b v l w) (hg : b < g) (hv : ∀ k, v.ownBlock = some k → g < k) : RefAt B b v l (w.setCell ⟨g, i, none⟩ u) :=
  ⟨by rw [Below.heap_setCell _ ⟨g, i, none⟩ _ _ (by show b ≠ g; omega)]; exact h.blk, h.row.kept (row := some g) ⟨rfl, rfl, rfl, by simp, fun k _ hk => Below.heap_setCell _ ⟨g, i, none⟩ _ _ (by simpa using hk)⟩ (by
    cases e : v.ownBlock with
    | none => simp
    | some k => have := hv k e; simp; omega), h.lo, h.few⟩
/-- A block of one's own, made since, is as it was. -/
theorem keep_block {B b : Nat} {v : Value} {l : List Row} {w w2 w3 : World} (h : RefAt B b v l w) {g : Nat} (hg : w.heap.size ≤ g) {o : Obj} (hk : RefKept b v w2 w3) (hx : w2.heap[g]? = some o) : w3.heap[g]? = some o := by
  have hlt := (Array.getElem?_eq_some_iff.1 hx).1
  have := h.lt
  rw [hk.block g hlt (by omega) (fun e => by
    rcases h.ways with ⟨rfl, _⟩ | ⟨g2, cap, rfl, _, h3, _⟩
    · simp [Value.ownBlock] at e
    · simp [Value.ownBlock] at e
      omega)]
  exact hx
section
variable {B b : Nat} {v : Value} {l : List Row} {w w' : World}
theorem rren_bad1 (a c : ByteArray) (ha : a.size ≤ maxLen) (hn : nameB a = false) (x : Value) : Calls Tryz.prog 22 #[x, .string a, .string c] w (Makes (.int .i64 6) w) := by
  have HN := Lib.hid (rIsName_any a (by unfold maxLen at ha; omega) w)
  rw [hn] at HN
  clear hn
  go_enter Tryz.func22, Tryz.ntmps22
  go_wp2_with fail
  refine HN.out.mono ?_
  rintro e w1 ⟨rfl, rfl⟩
  go_wp2_with fail
  go_ret
  exact ⟨rfl, Below.refl _ _⟩
theorem rren_bad2 (a c : ByteArray) (ha : a.size ≤ maxLen) (hc : c.size ≤ maxLen) (hn : nameB a = true) (hm : nameB c = false) (x : Value) : Calls Tryz.prog 22 #[x, .string a, .string c] w (Makes (.int .i64 6) w) := by
  have HN := Lib.hid (rIsName_any a (by unfold maxLen at ha; omega) w)
  have HM := Lib.hid (rIsName_any c (by unfold maxLen at hc; omega) w)
  rw [hn] at HN
  rw [hm] at HM
  clear hn hm
  go_enter Tryz.func22, Tryz.ntmps22
  go_wp2_with fail
  refine HN.out.mono ?_
  rintro e w1 ⟨rfl, rfl⟩
  go_wp2_with fail
  refine HM.out.mono ?_
  rintro e w1 ⟨rfl, rfl⟩
  go_wp2_with fail
  go_ret
  exact ⟨rfl, Below.refl _ _⟩
theorem rren_none (a c : ByteArray) (ha : a.size ≤ maxLen) (hc : c.size ≤ maxLen) (hn : nameB a = true) (hm : nameB c = true) (h : RefAt B b v l w) (hi : isAt a l = false) : Calls Tryz.prog 22 #[.pointer (some ⟨b, 0, none⟩), .string a, .string c] w (Makes (.int .i64 6) w) := by
  have HN := Lib.hid (rIsName_any a (by unfold maxLen at ha; omega) w)
  have HM := Lib.hid (rIsName_any c (by unfold maxLen at hc; omega) w)
  have HA := Lib.hid (rhas_any a h)
  rw [hn] at HN
  rw [hm] at HM
  rw [hi] at HA
  clear hn hm hi h
  go_enter Tryz.func22, Tryz.ntmps22
  go_wp2_with fail
  refine HN.out.mono ?_
  rintro e w1 ⟨rfl, rfl⟩
  go_wp2_with fail
  refine HM.out.mono ?_
  rintro e w1 ⟨rfl, rfl⟩
  go_wp2_with fail
  refine HA.out.mono ?_
  rintro e w1 ⟨rfl, hb⟩
  go_wp2_with fail
  go_ret
  exact ⟨rfl, hb⟩
theorem rren_same (a : ByteArray) (ha : a.size ≤ maxLen) (hn : nameB a = true) (h : RefAt B b v l w) (hi : isAt a l = true) : Calls Tryz.prog 22 #[.pointer (some ⟨b, 0, none⟩), .string a, .string a] w (Makes (.int .i64 0) w) := by
  have HN := Lib.hid (rIsName_any a (by unfold maxLen at ha; omega) w)
  have HA := Lib.hid (rhas_any a h)
  rw [hn] at HN
  rw [hi] at HA
  clear hn hi h
  go_enter Tryz.func22, Tryz.ntmps22
  go_wp2_with fail
  refine HN.out.mono ?_
  rintro e w1 ⟨rfl, rfl⟩
  go_wp2_with fail
  refine HN.out.mono ?_
  rintro e w1 ⟨rfl, rfl⟩
  go_wp2_with fail
  refine HA.out.mono ?_
  rintro e w1 ⟨rfl, hb⟩
  go_wp2_with fail
  go_ret
  exact ⟨rfl, hb⟩
set_option maxRecDepth 100000 in
set_option maxHeartbeats 2000000 in
theorem rren_yes (a c : ByteArray) (ha : a.size ≤ maxLen) (hc : c.size ≤ maxLen) (hn : nameB a = true) (hm : nameB c = true) (hac : (a.toList == c.toList) = false) (h : RefAt B b v l w) (hi : isAt a l = true) {r : Row} (hr : getR a l = r) {l' : List Row} (hl : delR a l = l') :
    Calls Tryz.prog 22 #[.pointer (some ⟨b, 0, none⟩), .string a, .string c] w (StepP B b v (putR ⟨c, r.value, r.step, r.form⟩ l') w) := by
  have HN := Lib.hid (rIsName_any a (by unfold maxLen at ha; omega) w)
  have HM := Lib.hid (rIsName_any c (by unfold maxLen at hc; omega) w)
  have HA := Lib.hid (rhas_any a h)
  rw [hn] at HN
  rw [hm] at HM
  rw [hi] at HA
  have HH := Lib.hid h
  have HG : Hid (∀ w', Below w.heap.size w w' → Calls Tryz.prog 34 #[.pointer (some ⟨b, 0, none⟩), .string a] w' (Makes (rowV r) w')) := fun w' hb => by
    have := rget_any a (h.below hb)
    rw [hr] at this
    exact this
  have HD : Hid (∀ w', Below w.heap.size w w' → Calls Tryz.prog 20 #[.pointer (some ⟨b, 0, none⟩), .string a] w' (fun e w2 => e = .returned (.int .i64 0) ∧ (∃ v', RefAt B b v' l' w2 ∧ ∀ k, v'.ownBlock = some k → w'.heap.size ≤ k) ∧ RefKept b v w' w2)) := fun w' hb => by
    have := rrem_yes a (h.below hb) (by unfold nameErr; rw [hn]; rfl) hi
    unfold RemP at this
    rw [hl] at this
    exact this
  clear hn hm hi h hr hl
  go_enter Tryz.func22, Tryz.ntmps22
  go_wp2_with fail
  refine HN.out.mono ?_
  rintro e w1 ⟨rfl, rfl⟩
  go_wp2_with fail
  refine HM.out.mono ?_
  rintro e w1 ⟨rfl, rfl⟩
  go_wp2_with fail
  refine HA.out.mono ?_
  rintro e w1 ⟨rfl, hb⟩
  go_wp2_with fail
  refine (HG.out _ hb).mono ?_
  rintro e w2 ⟨rfl, hb2⟩
  have HB := Lib.hid ((hb.trans (hb2.mono hb.size)).alloc (Nat.le_trans hb.size hb2.size) (.cells #[.string r.name, .int .i64 r.value, .int .i64 r.step, .string r.form] 62))
  have HS := Lib.hid (Nat.le_trans hb.size hb2.size)
  clear hb hb2
  go_wp2_with fail
  refine (HD.out _ HB.out).mono ?_
  rintro e w4 ⟨rfl, ⟨v', h4, hv'⟩, h5⟩
  have hx := keep_block HH.out HS.out h5 (heap_alloc_new w2 (.cells #[.string r.name, .int .i64 r.value, .int .i64 r.step, .string r.form] 62))
  have hv2 : ∀ k, v'.ownBlock = some k → w2.heap.size < k := fun k e => by
    have := hv' k e
    simp at this
    omega
  have hbg : b < w2.heap.size := by
    have := HH.out.lt
    have := HS.out
    omega
  have h6 := h4.cellOf (i := 0) (u := .string c) hbg hv2
  have h7 := ((RefKept.of_below HB.out).trans h5).cell (i := 0) (u := .string c) HS.out
  have HP := Lib.hid (rput_any ⟨c, r.value, r.step, r.form⟩ h6)
  have H7 := Lib.hid h7
  have HV : Hid (∀ k, v'.ownBlock = some k → w.heap.size ≤ k) := fun k e => Nat.le_trans HS.out (Nat.le_of_lt (hv2 k e))
  have k0 : w4.cell? ⟨w2.heap.size, 0, none⟩ = some (.string r.name) := by unfold World.cell?; rw [hx]; rfl
  have k1 : w4.cell? ⟨w2.heap.size, 1, none⟩ = some (.int .i64 r.value) := by unfold World.cell?; rw [hx]; rfl
  have k2 : w4.cell? ⟨w2.heap.size, 2, none⟩ = some (.int .i64 r.step) := by unfold World.cell?; rw [hx]; rfl
  have k3 : w4.cell? ⟨w2.heap.size, 3, none⟩ = some (.string r.form) := by unfold World.cell?; rw [hx]; rfl
  have f0 : ∀ j, w4.frozen? ⟨w2.heap.size, j, none⟩ = false := fun j => by simp [World.frozen?, hx]
  clear hx hv2 hbg h6 h7 h4 hv' h5
  go_wp2_with fail
  refine HP.out.mono ?_
  rintro e w6 ⟨rfl, h8, h9⟩
  have h8' : ∃ v2, RefAt B b v2 (putR ⟨c, r.value, r.step, r.form⟩ l').1 w6 ∧ NewOr v v2 w := h8.imp fun v2 h => ⟨h.1, fun k e => .inr (by
    rcases h.2 k e with e | e
    · exact HV.out k e
    · exact Nat.le_trans H7.out.size e)⟩
  have H8 := Lib.hid h8'
  have H9 := Lib.hid (H7.out.chain h9 HV.out)
  clear h8 h8' h9
  go_wp2_with fail
  go_ret
  exact ⟨rfl, H8.out, H9.out⟩
theorem ne_toList {a c : ByteArray} (h : a ≠ c) : (a.toList == c.toList) = false := by
  cases e : (a.toList == c.toList) with
  | false => rfl
  | true => exact absurd (same_name (by simpa [sameB] using e)) h
theorem rrename_any (a c : ByteArray) (ha : a.size ≤ maxLen) (hc : c.size ≤ maxLen) (h : RefAt B b v l w) : Calls Tryz.prog 22 #[.pointer (some ⟨b, 0, none⟩), .string a, .string c] w (StepP B b v (renR a c l) w) := by
  unfold renR
  rcases nameErr_ways a with ⟨hn, hb⟩ | ⟨hn, hb⟩
  · rcases nameErr_ways c with ⟨hm, hd⟩ | ⟨hm, hd⟩
    · cases hi : isAt a l with
      | false =>
        rw [if_pos (.inr (.inr rfl))]
        exact (rren_none a c ha hc hb hd h hi).mono fun e w' hm => step_same h hm
      | true =>
        rw [if_neg (by rw [hn, hm]; simp)]
        by_cases e : a = c
        · subst e
          rw [if_pos rfl]
          exact (rren_same a ha hb h hi).mono fun e w' hm => step_same h hm
        · rw [if_neg e]
          exact rren_yes a c ha hc hb hd (ne_toList e) h hi rfl rfl
    · rw [if_pos (.inr (.inl (by rw [hm]; decide)))]
      exact (rren_bad2 a c ha hc hb hd _).mono fun e w' hm => step_same h hm
  · rw [if_pos (.inl (by rw [hn]; decide))]
    exact (rren_bad1 a c ha hb _).mono fun e w' hm => step_same h hm
end
end Go.Proofs.YtopgbbkndkincaaGreatDoor
