/- The reference's operand: a sign ahead of an operand that is one. -/
import Derived.Test.YtkkcoajgpdpfkabDoorRfSign
namespace Go.Proofs.YtkkcoajgpdpfkabDoor
open Go.RowKit Go.PlainAid

set_option maxRecDepth 100000 in
set_option maxHeartbeats 400000 in
theorem sgn_form_of {E : Ms.Env} {c d n : Int} {p a q : Nat} {w : World} {b1 b2 b3 b4 : Bool} (h : SgnAt E c d p a w b1 b2 b3 b4) (sw : SW b1 b2 b3 b4) (hbl : E.bl = true) (x : Int) (hrec : Rec E c d a (.ok (n, q))) : Opd E c d p (.ok (x, q)) w := by
  have hgb := get_bt E.s
  have HR := Lib.hid hrec
  have HSK := Lib.hid h.skip
  have f0 := h.f0
  have f1 := h.f1
  have f2 := h.f2
  have f3 := h.f3
  have f4 := h.f4
  have hs := h.hs
  have hlt := h.lt
  have hb0 := Box.new E c w
  have hal : Below w.heap.size w (w.alloc (boxO E c)) := (Below.refl _ _).alloc (Nat.le_refl _) _
  have HBL := Lib.hid hbl
  clear h hrec hbl
  cases sw
  all_goals
    go_enter Tryd.func66, Tryd.ntmps66
    go_wp2_with fail
    refine (HSK.out).mono ?_
    rintro e w1 ⟨rfl, hb⟩
    have hB := hb0.below hb
    obtain ⟨k0, k1, k2, k3, k4, k5, kl⟩ := hB
    go_wp2_with fail
    refine (HR.out _).mono ?_
    rintro e w2 ⟨m, rfl, hv, hb2⟩
    have hsz : w.heap.size < w1.heap.size := by have := hb.size; simp at this; omega
    have kb : w2.cell? ⟨w.heap.size, 5, none⟩ = some (.bool true) := by rw [(bcell hb2).1 _ _ hsz, k5, HBL.out]
    have HV := Lib.hid hv
    clear hv k0 k1 k2 k3 k4 k5
    go_wp2_with fail
    go_ret3
    exact ⟨_, rfl, fun e => (Bool.noConfusion (HBL.out.symm.trans e)), (hal.trans (hb.mono (by simp))).trans (hb2.mono (by omega))⟩
theorem wth_in {n : Int} (h0 : -1000000000 ≤ n) (h1 : n ≤ 1000000000) : wthB n = true := by simp [wthB, h0, h1]
set_option maxRecDepth 100000 in
set_option maxHeartbeats 400000 in
theorem sgn_plus {E : Ms.Env} {c d n : Int} {p a q : Nat} {w : World} (h : SgnAt E c d p a w true false false false) (hbl : E.bl = false) (n0 : -1000000000 ≤ n) (n1 : n ≤ 1000000000) (hrec : Rec E c d a (.ok (n, q))) : Opd E c d p (.ok (n, q)) w := by
  have hgb := get_bt E.s
  have HR := Lib.hid hrec
  have HSK := Lib.hid h.skip
  have f0 := h.f0
  have f1 := h.f1
  have f2 := h.f2
  have f3 := h.f3
  have f4 := h.f4
  have hs := h.hs
  have hlt := h.lt
  have hb0 := Box.new E c w
  have hal : Below w.heap.size w (w.alloc (boxO E c)) := (Below.refl _ _).alloc (Nat.le_refl _) _
  have HBL := Lib.hid hbl
  clear h hrec hbl
  all_goals
    go_enter Tryd.func66, Tryd.ntmps66
    go_wp2_with fail
    refine (HSK.out).mono ?_
    rintro e w1 ⟨rfl, hb⟩
    have hB := hb0.below hb
    obtain ⟨k0, k1, k2, k3, k4, k5, kl⟩ := hB
    go_wp2_with fail
    refine (HR.out _).mono ?_
    rintro e w2 ⟨m, rfl, hv, hb2⟩
    have hsz : w.heap.size < w1.heap.size := by have := hb.size; simp at this; omega
    obtain rfl := hv HBL.out
    clear hv
    have hsz2 : w.heap.size < w2.heap.size := Nat.lt_of_lt_of_le hsz hb2.size
    have g5 : w2.cell? ⟨w.heap.size, 5, none⟩ = some (.bool false) := by rw [(bcell hb2).1 _ _ hsz, k5, HBL.out]
    have g4 : w2.cell? ⟨w.heap.size, 4, none⟩ = some (.int .i64 E.h) := by rw [(bcell hb2).1 _ _ hsz, k4]
    have g0 : w2.cell? ⟨w.heap.size, 0, none⟩ = some (.string E.s) := by rw [(bcell hb2).1 _ _ hsz, k0]
    clear k0 k1 k2 k3 k4 k5
    go_wp2_with fail
    refine (rwithin_any _ _).mono ?_
    rintro _ _ ⟨rfl, rfl⟩
    rw [show wthB (m) = true from wth_in (by omega) (by omega)]
    go_wp2_with fail
    go_ret3
    exact ⟨_, rfl, fun _ => rfl, (hal.trans (hb.mono (by simp))).trans (hb2.mono (by omega))⟩
set_option maxRecDepth 100000 in
set_option maxHeartbeats 400000 in
theorem sgn_minus {E : Ms.Env} {c d n : Int} {p a q : Nat} {w : World} (h : SgnAt E c d p a w false true false false) (hbl : E.bl = false) (n0 : -1000000000 ≤ n) (n1 : n ≤ 1000000000) (hrec : Rec E c d a (.ok (n, q))) : Opd E c d p (.ok (-n, q)) w := by
  have hgb := get_bt E.s
  have HR := Lib.hid hrec
  have HSK := Lib.hid h.skip
  have f0 := h.f0
  have f1 := h.f1
  have f2 := h.f2
  have f3 := h.f3
  have f4 := h.f4
  have hs := h.hs
  have hlt := h.lt
  have hb0 := Box.new E c w
  have hal : Below w.heap.size w (w.alloc (boxO E c)) := (Below.refl _ _).alloc (Nat.le_refl _) _
  have HBL := Lib.hid hbl
  clear h hrec hbl
  all_goals
    go_enter Tryd.func66, Tryd.ntmps66
    go_wp2_with fail
    refine (HSK.out).mono ?_
    rintro e w1 ⟨rfl, hb⟩
    have hB := hb0.below hb
    obtain ⟨k0, k1, k2, k3, k4, k5, kl⟩ := hB
    go_wp2_with fail
    refine (HR.out _).mono ?_
    rintro e w2 ⟨m, rfl, hv, hb2⟩
    have hsz : w.heap.size < w1.heap.size := by have := hb.size; simp at this; omega
    obtain rfl := hv HBL.out
    clear hv
    have hsz2 : w.heap.size < w2.heap.size := Nat.lt_of_lt_of_le hsz hb2.size
    have g5 : w2.cell? ⟨w.heap.size, 5, none⟩ = some (.bool false) := by rw [(bcell hb2).1 _ _ hsz, k5, HBL.out]
    have g4 : w2.cell? ⟨w.heap.size, 4, none⟩ = some (.int .i64 E.h) := by rw [(bcell hb2).1 _ _ hsz, k4]
    have g0 : w2.cell? ⟨w.heap.size, 0, none⟩ = some (.string E.s) := by rw [(bcell hb2).1 _ _ hsz, k0]
    clear k0 k1 k2 k3 k4 k5
    go_wp2_with fail
    refine (rwithin_any _ _).mono ?_
    rintro _ _ ⟨rfl, rfl⟩
    rw [show wthB (-m) = true from wth_in (by omega) (by omega)]
    go_wp2_with fail
    go_ret3
    exact ⟨_, rfl, fun _ => rfl, (hal.trans (hb.mono (by simp))).trans (hb2.mono (by omega))⟩
set_option maxRecDepth 100000 in
set_option maxHeartbeats 400000 in
theorem sgn_bar_ok {E : Ms.Env} {c d n : Int} {p a q : Nat} {w : World} (h : SgnAt E c d p a w false false false true) (hbl : E.bl = false) (n0 : -1000000000 ≤ n) (n1 : n ≤ 1000000000) (h0 : -1000000000 ≤ E.h) (h1 : E.h ≤ 1000000000) (hw : wthB (n - E.h) = true) (hrec : Rec E c d a (.ok (n, q))) : Opd E c d p (.ok (n - E.h, q)) w := by
  have hgb := get_bt E.s
  have HR := Lib.hid hrec
  have HSK := Lib.hid h.skip
  have f0 := h.f0
  have f1 := h.f1
  have f2 := h.f2
  have f3 := h.f3
  have f4 := h.f4
  have hs := h.hs
  have hlt := h.lt
  have hb0 := Box.new E c w
  have hal : Below w.heap.size w (w.alloc (boxO E c)) := (Below.refl _ _).alloc (Nat.le_refl _) _
  have HBL := Lib.hid hbl
  clear h hrec hbl
  all_goals
    go_enter Tryd.func66, Tryd.ntmps66
    go_wp2_with fail
    refine (HSK.out).mono ?_
    rintro e w1 ⟨rfl, hb⟩
    have hB := hb0.below hb
    obtain ⟨k0, k1, k2, k3, k4, k5, kl⟩ := hB
    go_wp2_with fail
    refine (HR.out _).mono ?_
    rintro e w2 ⟨m, rfl, hv, hb2⟩
    have hsz : w.heap.size < w1.heap.size := by have := hb.size; simp at this; omega
    obtain rfl := hv HBL.out
    clear hv
    have hsz2 : w.heap.size < w2.heap.size := Nat.lt_of_lt_of_le hsz hb2.size
    have g5 : w2.cell? ⟨w.heap.size, 5, none⟩ = some (.bool false) := by rw [(bcell hb2).1 _ _ hsz, k5, HBL.out]
    have g4 : w2.cell? ⟨w.heap.size, 4, none⟩ = some (.int .i64 E.h) := by rw [(bcell hb2).1 _ _ hsz, k4]
    have g0 : w2.cell? ⟨w.heap.size, 0, none⟩ = some (.string E.s) := by rw [(bcell hb2).1 _ _ hsz, k0]
    clear k0 k1 k2 k3 k4 k5
    go_wp2_with fail
    refine (rwithin_any _ _).mono ?_
    rintro _ _ ⟨rfl, rfl⟩
    rw [show wthB (m - E.h) = true from hw]
    go_wp2_with fail
    go_ret3
    exact ⟨_, rfl, fun _ => rfl, (hal.trans (hb.mono (by simp))).trans (hb2.mono (by omega))⟩
set_option maxRecDepth 100000 in
set_option maxHeartbeats 400000 in
theorem sgn_bar_er {E : Ms.Env} {c d n : Int} {p a q : Nat} {w : World} (h : SgnAt E c d p a w false false false true) (hbl : E.bl = false) (n0 : -1000000000 ≤ n) (n1 : n ≤ 1000000000) (h0 : -1000000000 ≤ E.h) (h1 : E.h ≤ 1000000000) (hw : wthB (n - E.h) = false) (hrec : Rec E c d a (.ok (n, q))) : Opd E c d p (.er 5) w := by
  have hgb := get_bt E.s
  have HR := Lib.hid hrec
  have HSK := Lib.hid h.skip
  have f0 := h.f0
  have f1 := h.f1
  have f2 := h.f2
  have f3 := h.f3
  have f4 := h.f4
  have hs := h.hs
  have hlt := h.lt
  have hb0 := Box.new E c w
  have hal : Below w.heap.size w (w.alloc (boxO E c)) := (Below.refl _ _).alloc (Nat.le_refl _) _
  have HBL := Lib.hid hbl
  clear h hrec hbl
  all_goals
    go_enter Tryd.func66, Tryd.ntmps66
    go_wp2_with fail
    refine (HSK.out).mono ?_
    rintro e w1 ⟨rfl, hb⟩
    have hB := hb0.below hb
    obtain ⟨k0, k1, k2, k3, k4, k5, kl⟩ := hB
    go_wp2_with fail
    refine (HR.out _).mono ?_
    rintro e w2 ⟨m, rfl, hv, hb2⟩
    have hsz : w.heap.size < w1.heap.size := by have := hb.size; simp at this; omega
    obtain rfl := hv HBL.out
    clear hv
    have hsz2 : w.heap.size < w2.heap.size := Nat.lt_of_lt_of_le hsz hb2.size
    have g5 : w2.cell? ⟨w.heap.size, 5, none⟩ = some (.bool false) := by rw [(bcell hb2).1 _ _ hsz, k5, HBL.out]
    have g4 : w2.cell? ⟨w.heap.size, 4, none⟩ = some (.int .i64 E.h) := by rw [(bcell hb2).1 _ _ hsz, k4]
    have g0 : w2.cell? ⟨w.heap.size, 0, none⟩ = some (.string E.s) := by rw [(bcell hb2).1 _ _ hsz, k0]
    clear k0 k1 k2 k3 k4 k5
    go_wp2_with fail
    refine (rwithin_any _ _).mono ?_
    rintro _ _ ⟨rfl, rfl⟩
    rw [hw]
    go_wp2_with fail
    go_ret3
    exact ⟨_, _, rfl, (hal.trans (hb.mono (by simp))).trans (hb2.mono (by omega))⟩
set_option maxRecDepth 100000 in
set_option maxHeartbeats 400000 in
theorem sgn_no_yes {E : Ms.Env} {c d n : Int} {p a q : Nat} {w : World} (h : SgnAt E c d p a w false false true false) (hbl : E.bl = false) (n0 : -1000000000 ≤ n) (n1 : n ≤ 1000000000) (hn : n ≤ 0) (hrec : Rec E c d a (.ok (n, q))) : Opd E c d p (.ok (1, q)) w := by
  have hgb := get_bt E.s
  have HR := Lib.hid hrec
  have HSK := Lib.hid h.skip
  have f0 := h.f0
  have f1 := h.f1
  have f2 := h.f2
  have f3 := h.f3
  have f4 := h.f4
  have hs := h.hs
  have hlt := h.lt
  have hb0 := Box.new E c w
  have hal : Below w.heap.size w (w.alloc (boxO E c)) := (Below.refl _ _).alloc (Nat.le_refl _) _
  have HBL := Lib.hid hbl
  clear h hrec hbl
  all_goals
    go_enter Tryd.func66, Tryd.ntmps66
    go_wp2_with fail
    refine (HSK.out).mono ?_
    rintro e w1 ⟨rfl, hb⟩
    have hB := hb0.below hb
    obtain ⟨k0, k1, k2, k3, k4, k5, kl⟩ := hB
    go_wp2_with fail
    refine (HR.out _).mono ?_
    rintro e w2 ⟨m, rfl, hv, hb2⟩
    have hsz : w.heap.size < w1.heap.size := by have := hb.size; simp at this; omega
    obtain rfl := hv HBL.out
    clear hv
    have hsz2 : w.heap.size < w2.heap.size := Nat.lt_of_lt_of_le hsz hb2.size
    have g5 : w2.cell? ⟨w.heap.size, 5, none⟩ = some (.bool false) := by rw [(bcell hb2).1 _ _ hsz, k5, HBL.out]
    have g4 : w2.cell? ⟨w.heap.size, 4, none⟩ = some (.int .i64 E.h) := by rw [(bcell hb2).1 _ _ hsz, k4]
    have g0 : w2.cell? ⟨w.heap.size, 0, none⟩ = some (.string E.s) := by rw [(bcell hb2).1 _ _ hsz, k0]
    clear k0 k1 k2 k3 k4 k5
    go_wp2_with fail
    refine (rwithin_any _ _).mono ?_
    rintro _ _ ⟨rfl, rfl⟩
    rw [show wthB (1) = true from wth_in (by omega) (by omega)]
    go_wp2_with fail
    go_ret3
    exact ⟨_, rfl, fun _ => rfl, (hal.trans (hb.mono (by simp))).trans (hb2.mono (by omega))⟩
set_option maxRecDepth 100000 in
set_option maxHeartbeats 400000 in
theorem sgn_no_no {E : Ms.Env} {c d n : Int} {p a q : Nat} {w : World} (h : SgnAt E c d p a w false false true false) (hbl : E.bl = false) (n0 : -1000000000 ≤ n) (n1 : n ≤ 1000000000) (hn : ¬ n ≤ 0) (hrec : Rec E c d a (.ok (n, q))) : Opd E c d p (.ok (0, q)) w := by
  have hgb := get_bt E.s
  have HR := Lib.hid hrec
  have HSK := Lib.hid h.skip
  have f0 := h.f0
  have f1 := h.f1
  have f2 := h.f2
  have f3 := h.f3
  have f4 := h.f4
  have hs := h.hs
  have hlt := h.lt
  have hb0 := Box.new E c w
  have hal : Below w.heap.size w (w.alloc (boxO E c)) := (Below.refl _ _).alloc (Nat.le_refl _) _
  have HBL := Lib.hid hbl
  clear h hrec hbl
  all_goals
    go_enter Tryd.func66, Tryd.ntmps66
    go_wp2_with fail
    refine (HSK.out).mono ?_
    rintro e w1 ⟨rfl, hb⟩
    have hB := hb0.below hb
    obtain ⟨k0, k1, k2, k3, k4, k5, kl⟩ := hB
    go_wp2_with fail
    refine (HR.out _).mono ?_
    rintro e w2 ⟨m, rfl, hv, hb2⟩
    have hsz : w.heap.size < w1.heap.size := by have := hb.size; simp at this; omega
    obtain rfl := hv HBL.out
    clear hv
    have hsz2 : w.heap.size < w2.heap.size := Nat.lt_of_lt_of_le hsz hb2.size
    have g5 : w2.cell? ⟨w.heap.size, 5, none⟩ = some (.bool false) := by rw [(bcell hb2).1 _ _ hsz, k5, HBL.out]
    have g4 : w2.cell? ⟨w.heap.size, 4, none⟩ = some (.int .i64 E.h) := by rw [(bcell hb2).1 _ _ hsz, k4]
    have g0 : w2.cell? ⟨w.heap.size, 0, none⟩ = some (.string E.s) := by rw [(bcell hb2).1 _ _ hsz, k0]
    clear k0 k1 k2 k3 k4 k5
    go_wp2_with fail
    refine (rwithin_any _ _).mono ?_
    rintro _ _ ⟨rfl, rfl⟩
    rw [show wthB (0) = true from wth_in (by omega) (by omega)]
    go_wp2_with fail
    go_ret3
    exact ⟨_, rfl, fun _ => rfl, (hal.trans (hb.mono (by simp))).trans (hb2.mono (by omega))⟩
end Go.Proofs.YtkkcoajgpdpfkabDoor
