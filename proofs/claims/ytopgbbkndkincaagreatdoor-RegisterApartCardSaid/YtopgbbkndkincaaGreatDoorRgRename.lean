/- A book's Rename. -/
import Derived.Test.YtopgbbkndkincaaGreatDoorRgMove
import Derived.Test.YtopgbbkndkincaaGreatDoorRdRename
namespace Go.Proofs.YtopgbbkndkincaaGreatDoor
open Go.RowKit Go.PlainAid Go.Maps

section
variable {b mb n : Nat} {D : DataW Unit} {w : World}
abbrev twoO (a c : ByteArray) : Obj := .cells #[.string a, .string c] 9
theorem two_cells (w : World) (a c : ByteArray) : (w.alloc (twoO a c)).cell? ⟨w.heap.size, 0, none⟩ = some (.string a) ∧ (w.alloc (twoO a c)).cell? ⟨w.heap.size, 1, none⟩ = some (.string c) := by
  have h := heap_alloc_new w (twoO a c)
  constructor <;> (unfold World.cell?; rw [h]; rfl)
set_option maxRecDepth 100000 in
set_option maxHeartbeats 2000000 in
theorem rename_bad1 (hB : BookAt b mb n D w) (a c : ByteArray) (ha : a.size ≤ 9223372036854775807) (hn : nameErr a = 6) :
    Calls Tryz.prog 21 #[.pointer (some ⟨b, 0, none⟩), .string a, .string c] w (Makes (.int .i64 6) w) := by
  have HN := Lib.hid (nameError_any b mb a _ ha (hB.alloc (twoO a c)).cell)
  unfold NameP at HN
  rw [hn] at HN
  clear hn hB
  go_enter Tryz.func21, Tryz.ntmps21
  go_wp2_with fail
  go_loop [15] (fun i => i = .int .i64 0) (fun _ => 0)
  case atStart => rfl
  case round =>
    subst hrel
    go_wp2_with fail
    refine HN.out.mono ?_
    rintro e w1 ⟨rfl, rfl⟩
    go_wp2_with fail
    go_ret
    exact ⟨rfl, (Below.refl _ _).alloc (Nat.le_refl _) _⟩
set_option maxRecDepth 100000 in
set_option maxHeartbeats 2000000 in
theorem rename_bad2 (hB : BookAt b mb n D w) (a c : ByteArray) (ha : a.size ≤ 9223372036854775807) (hc : c.size ≤ 9223372036854775807) (hn : nameErr a = 0) (hm : nameErr c = 6) :
    Calls Tryz.prog 21 #[.pointer (some ⟨b, 0, none⟩), .string a, .string c] w (Makes (.int .i64 6) w) := by
  have HN := Lib.hid (nameError_any b mb a _ ha (hB.alloc (twoO a c)).cell)
  have HM := Lib.hid (nameError_any b mb c _ hc (hB.alloc (twoO a c)).cell)
  unfold NameP at HN HM
  rw [hn] at HN
  rw [hm] at HM
  clear hn hm hB
  go_enter Tryz.func21, Tryz.ntmps21
  go_wp2_with fail
  go_loop [15] (fun i => i = .int .i64 0 ∨ i = .int .i64 1) (fun i => 1 - (intOf i).toNat)
  case atStart => exact .inl rfl
  case round =>
    rcases hrel with rfl | rfl
    · go_wp2_with fail
      refine HN.out.mono ?_
      rintro e w1 ⟨rfl, rfl⟩
      go_wp2_with fail
      go_round
      case rel => exact .inr rfl
      case measure => simp [intOf]
    · go_wp2_with fail
      refine HM.out.mono ?_
      rintro e w1 ⟨rfl, rfl⟩
      go_wp2_with fail
      go_ret
      exact ⟨rfl, (Below.refl _ _).alloc (Nat.le_refl _) _⟩
set_option maxRecDepth 100000 in
set_option maxHeartbeats 2000000 in
theorem rename_none (hB : BookAt b mb n D w) (a c : ByteArray) (ha : a.size ≤ 9223372036854775807) (hc : c.size ≤ 9223372036854775807) (hn : nameErr a = 0) (hm : nameErr c = 0) (hh : has D (bkey a) = false) :
    Calls Tryz.prog 21 #[.pointer (some ⟨b, 0, none⟩), .string a, .string c] w (Makes (.int .i64 6) w) := by
  have HN := Lib.hid (nameError_any b mb a _ ha (hB.alloc (twoO a c)).cell)
  have HM := Lib.hid (nameError_any b mb c _ hc (hB.alloc (twoO a c)).cell)
  have HS := Lib.hid (has_any (hB.alloc (twoO a c)) a (by unfold maxLen; omega))
  unfold NameP at HN HM
  rw [hn] at HN
  rw [hm] at HM
  rw [hh] at HS
  clear hn hm hB hh
  go_enter Tryz.func21, Tryz.ntmps21
  go_wp2_with fail
  go_loop [15] (fun i => i = .int .i64 0 ∨ i = .int .i64 1 ∨ i = .int .i64 2) (fun i => 2 - (intOf i).toNat)
  case atStart => exact .inl rfl
  case round =>
    rcases hrel with rfl | rfl | rfl
    · go_wp2_with fail
      refine HN.out.mono ?_
      rintro e w1 ⟨rfl, rfl⟩
      go_wp2_with fail
      go_round
      case rel => exact .inr (.inl rfl)
      case measure => simp [intOf]
    · go_wp2_with fail
      refine HM.out.mono ?_
      rintro e w1 ⟨rfl, rfl⟩
      go_wp2_with fail
      go_round
      case rel => exact .inr (.inr rfl)
      case measure => simp [intOf]
    · go_wp2_with fail
      refine HS.out.mono ?_
      rintro e w1 ⟨rfl, hb⟩
      go_wp2_with fail
      go_ret
      exact ⟨rfl, ((Below.refl _ _).alloc (Nat.le_refl _) _).trans (hb.mono (by simp))⟩
set_option maxRecDepth 100000 in
set_option maxHeartbeats 2000000 in
theorem rename_ok (hB : BookAt b mb n D w) (a c : ByteArray) (ha : a.size ≤ 9223372036854775807) (hc : c.size ≤ 9223372036854775807) (hn : nameErr a = 0) (hm : nameErr c = 0) (hh : has D (bkey a) = true) {r : Reg} (hr : r.data = D.atKey (bkey a) Reg.fresh.data) (hnn : n < maxLen) :
    Calls Tryz.prog 21 #[.pointer (some ⟨b, 0, none⟩), .string a, .string c] w (TurnP b mb (n + 1) ((D.del (bkey a)).put (bkey c) r.data) (.int .i64 0) w) := by
  have HN := Lib.hid (nameError_any b mb a _ ha (hB.alloc (twoO a c)).cell)
  have HM := Lib.hid (nameError_any b mb c _ hc (hB.alloc (twoO a c)).cell)
  have HS := Lib.hid (has_any (hB.alloc (twoO a c)) a (by unfold maxLen; omega))
  unfold NameP at HN HM
  rw [hn] at HN
  rw [hm] at HM
  rw [hh] at HS
  have HH := Lib.hid hB
  have HR := Lib.hid hr
  clear hn hm hB hh hr
  go_enter Tryz.func21, Tryz.ntmps21
  go_wp2_with fail
  go_loop [15] (fun i => i = .int .i64 0 ∨ i = .int .i64 1 ∨ i = .int .i64 2) (fun i => 2 - (intOf i).toNat)
  case atStart => exact .inl rfl
  case round =>
    rcases hrel with rfl | rfl | rfl
    · go_wp2_with fail
      refine HN.out.mono ?_
      rintro e w1 ⟨rfl, rfl⟩
      go_wp2_with fail
      go_round
      case rel => exact .inr (.inl rfl)
      case measure => simp [intOf]
    · go_wp2_with fail
      refine HM.out.mono ?_
      rintro e w1 ⟨rfl, rfl⟩
      go_wp2_with fail
      go_round
      case rel => exact .inr (.inr rfl)
      case measure => simp [intOf]
    · go_wp2_with fail
      refine HS.out.mono ?_
      rintro e w1 ⟨rfl, hb⟩
      have HB1 : Hid (Below w.heap.size w w1) := ((Below.refl _ _).alloc (Nat.le_refl _) _).trans (hb.mono (by simp))
      clear hb
      go_wp2_with fail
      refine (at_is (HH.out.below HB1.out) a (by unfold maxLen; omega) HR.out).mono ?_
      rintro e w2 ⟨rfl, hb2⟩
      have HS2 := Lib.hid hb2.size
      have HB2 : Hid (Below w.heap.size w (w2.alloc (.cells #[.int .i64 r.value, .int .i64 r.step, .string r.fm] 51))) := (HB1.out.trans (hb2.mono HB1.out.size)).alloc (Nat.le_trans HB1.out.size hb2.size) _
      clear hb2
      have hB2 := HH.out.below HB2.out
      have hc2 := hB2.cell
      obtain ⟨w3, hdel, hown3, hmt⟩ := World.ownsMap.drop (t := 39) hB2.map str_keyed Tryz.underlying39 (key_of a (by unfold maxLen; omega)) 0
      have hg3 := hmt.grown
      have hb3 : w3.heap[b]? = some (.cells #[.map (some mb)] 41 (0, 0)) := by rw [hg3.block b hB2.lt (by have := hB2.ne; simpa using this)]; exact hB2.blk
      have hc3 : w3.cell? ⟨b, 0, none⟩ = some (.map (some mb)) := by simp [World.cell?, hb3]
      have hbox : w3.heap[w2.heap.size]? = some (.cells #[.int .i64 r.value, .int .i64 r.step, .string r.fm] 51 (0, 0)) := by
        rw [hg3.block _ (by simp) (by have h2 := HH.out.mlt; have h3 := HS2.out; have h4 := HB1.out.size; simp; intro e; omega)]
        exact heap_alloc_new _ _
      obtain ⟨c0, c1, c2⟩ := cells3 hbox
      obtain ⟨w4, hst, hown4, hg4⟩ := World.ownsMap.update (w := w3.drew) (t := 39) hown3 str_keyed Tryz.underlying39 hnn (key_of c (by unfold maxLen; omega)) (regElem_mk r)
      simp only [Reg.val] at hst
      have HF : Hid (TurnP b mb (n + 1) ((D.del (bkey a)).put (bkey c) r.data) (.int .i64 0) w (.returned (.int .i64 0)) w4) := by
        have hgg : w.grownBy w4 (some mb) := grown_trans (grown_trans (grown_below HB2.out _) hg3) ⟨hg4.os, hg4.tape, hg4.output, hg4.size, hg4.block⟩
        refine ⟨rfl, ⟨?_, hown4⟩, hgg⟩
        rw [hgg.block b HH.out.lt (by have := HH.out.ne; simpa using this)]
        exact HH.out.blk
      clear hown3 hown4 hg3 hg4 hmt hB2 hb3 hbox
      go_wp2_with fail
      go_region
      go_wp2_with fail
      go_ret
      exact HF.out
end
end Go.Proofs.YtopgbbkndkincaaGreatDoor
