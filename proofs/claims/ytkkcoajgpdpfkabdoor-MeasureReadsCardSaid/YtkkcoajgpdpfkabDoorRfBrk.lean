/- The reference's operand: a bracket; and the operand, all ways together. -/
import Derived.Test.YtkkcoajgpdpfkabDoorRfOpd
namespace Go.Proofs.YtkkcoajgpdpfkabDoor
open Go.RowKit Go.PlainAid

/-- What is known where a bracket stands at a behind the blanks. -/
structure BrkAt (E : Ms.Env) (c d : Int) (p a : Nat) (w : World) : Prop where
  f0 : (bt E.s a == 40) = true
  hs : E.s.size ≤ 4611686018427387904
  lt : a < E.s.size
  skip : Calls Tryd.prog 68 #[RV E c, .int .i64 p, .int .i64 d] (w.alloc (boxO E c)) fun e w' => e = .returned (.int .i64 a) ∧ Below (w.alloc (boxO E c)).heap.size (w.alloc (boxO E c)) w'

/-- What the reference's sum gives behind a bracket. -/
abbrev SRec (E : Ms.Env) (c d : Int) (a : Nat) (r : Ms.Res (Int × Nat) × Nat) : Prop := ∀ w : World, Calls Tryd.prog 45 #[RV E c, .int .i64 ((a : Int) + 1), .int .i64 (d + 1)] w (SOut r E.bl w)
/-- The reference's skip behind it. -/
abbrev KRec (E : Ms.Env) (c d : Int) (t q : Nat) : Prop := ∀ w : World, Calls Tryd.prog 68 #[RV E c, .int .i64 t, .int .i64 (d + 1)] w fun e w' => e = .returned (.int .i64 q) ∧ Below w.heap.size w w'

set_option maxRecDepth 100000 in
set_option maxHeartbeats 400000 in
theorem brk_deep {E : Ms.Env} {c : Int} {p a : Nat} {w : World} (h : BrkAt E c 20 p a w) : Opd E c 20 p (.er 4) w := by
  have hgb := get_bt E.s
  have HSK := Lib.hid h.skip
  have f0 := h.f0
  have hs := h.hs
  have hlt := h.lt
  have hb0 := Box.new E c w
  have hal : Below w.heap.size w (w.alloc (boxO E c)) := (Below.refl _ _).alloc (Nat.le_refl _) _
  clear h
  go_enter Tryd.func66, Tryd.ntmps66
  go_wp2_with fail
  refine (HSK.out).mono ?_
  rintro e w1 ⟨rfl, hb⟩
  have hB := hb0.below hb
  obtain ⟨k0, k1, k2, k3, k4, k5, kl⟩ := hB
  go_wp2_with fail
  go_ret3
  exact ⟨_, _, rfl, hal.trans (hb.mono (by simp))⟩

set_option maxRecDepth 100000 in
set_option maxHeartbeats 400000 in
theorem brk_er {E : Ms.Env} {c d cc : Int} {p a l : Nat} {w : World} (h : BrkAt E c d p a w) (d0 : 0 ≤ d) (d1 : d < 20) (hcc : (cc != 0) = true) (hrec : SRec E c d a (.er cc, l)) : Opd E c d p (.er cc) w := by
  have hgb := get_bt E.s
  have HR := Lib.hid hrec
  have HSK := Lib.hid h.skip
  have f0 := h.f0
  have hs := h.hs
  have hlt := h.lt
  have hb0 := Box.new E c w
  have hal : Below w.heap.size w (w.alloc (boxO E c)) := (Below.refl _ _).alloc (Nat.le_refl _) _
  clear h hrec
  go_enter Tryd.func66, Tryd.ntmps66
  go_wp2_with fail
  refine (HSK.out).mono ?_
  rintro e w1 ⟨rfl, hb⟩
  have hB := hb0.below hb
  obtain ⟨k0, k1, k2, k3, k4, k5, kl⟩ := hB
  go_wp2_with fail
  refine (HR.out _).mono ?_
  rintro e w2 ⟨n, q, rfl, hb2⟩
  have hsz : w.heap.size < w1.heap.size := by have := hb.size; simp at this; omega
  go_wp2_with fail
  go_ret3
  exact ⟨_, _, rfl, (hal.trans (hb.mono (by simp))).trans (hb2.mono (by omega))⟩

set_option maxRecDepth 100000 in
set_option maxHeartbeats 1000000 in
theorem brk_ok {E : Ms.Env} {c d v : Int} {p a q t : Nat} {w : World} (h : BrkAt E c d p a w) (d0 : 0 ≤ d) (d1 : d < 20) (qsz : q ≤ E.s.size) (hk : KRec E c d t q) (hrec : SRec E c d a (.ok (v, q), t)) :
    Opd E c d p (if bt E.s q = 41 then .ok (v, q + 1) else .er 4) w := by
  have hgb := get_bt E.s
  have HR := Lib.hid hrec
  have HK := Lib.hid hk
  have HSK := Lib.hid h.skip
  have f0 := h.f0
  have hs := h.hs
  have hlt := h.lt
  have hb0 := Box.new E c w
  have hal : Below w.heap.size w (w.alloc (boxO E c)) := (Below.refl _ _).alloc (Nat.le_refl _) _
  clear h hrec hk
  have hways : q < E.s.size ∧ (bt E.s q == 41) = true ∨ q < E.s.size ∧ (bt E.s q == 41) = false ∨ ¬ q < E.s.size ∧ bt E.s q ≠ 41 := by
    by_cases h1 : q < E.s.size
    · cases h2 : (bt E.s q == 41)
      · exact .inr (.inl ⟨h1, rfl⟩)
      · exact .inl ⟨h1, rfl⟩
    · exact .inr (.inr ⟨h1, by rw [bt_end E.s (by omega)]; omega⟩)
  rcases hways with ⟨q1, q2⟩ | ⟨q1, q2⟩ | ⟨q1, q2⟩
  · rw [if_pos (beq_iff_eq.1 q2)]
    have q3 : (bt E.s q != 41) = false := by rw [bne, q2]; rfl
    go_enter Tryd.func66, Tryd.ntmps66
    go_wp2_with fail
    refine (HSK.out).mono ?_
    rintro e w1 ⟨rfl, hb⟩
    have hB := hb0.below hb
    obtain ⟨k0, k1, k2, k3, k4, k5, kl⟩ := hB
    go_wp2_with fail
    refine (HR.out _).mono ?_
    rintro e w2 ⟨n, rfl, hv, hb2⟩
    have HV := Lib.hid hv
    have hsz : w.heap.size < w1.heap.size := by have := hb.size; simp at this; omega
    have hsz2 : w.heap.size < w2.heap.size := Nat.lt_of_lt_of_le hsz hb2.size
    have hC := (show Box E c w.heap.size w1 from ⟨k0, k1, k2, k3, k4, k5, kl⟩).below hb2
    clear hv k0 k1 k2 k3 k4 k5
    obtain ⟨k0, k1, k2, k3, k4, k5, _⟩ := hC
    go_wp2_with fail
    refine (HK.out _).mono ?_
    rintro e w3 ⟨rfl, hb3⟩
    have hD := (show Box E c w.heap.size w2 from ⟨k0, k1, k2, k3, k4, k5, hsz2⟩).below hb3
    clear k0 k1 k2 k3 k4 k5
    obtain ⟨k0, k1, k2, k3, k4, k5, _⟩ := hD
    go_wp2_with fail
    go_ret3
    exact ⟨n, rfl, HV.out, ((hal.trans (hb.mono (by simp))).trans (hb2.mono (by omega))).trans (hb3.mono (by omega))⟩
  · rw [if_neg (by simpa using q2)]
    have q3 : (bt E.s q != 41) = true := by rw [bne, q2]; rfl
    go_enter Tryd.func66, Tryd.ntmps66
    go_wp2_with fail
    refine (HSK.out).mono ?_
    rintro e w1 ⟨rfl, hb⟩
    have hB := hb0.below hb
    obtain ⟨k0, k1, k2, k3, k4, k5, kl⟩ := hB
    go_wp2_with fail
    refine (HR.out _).mono ?_
    rintro e w2 ⟨n, rfl, hv, hb2⟩
    have hsz : w.heap.size < w1.heap.size := by have := hb.size; simp at this; omega
    have hsz2 : w.heap.size < w2.heap.size := Nat.lt_of_lt_of_le hsz hb2.size
    have hC := (show Box E c w.heap.size w1 from ⟨k0, k1, k2, k3, k4, k5, kl⟩).below hb2
    clear hv k0 k1 k2 k3 k4 k5
    obtain ⟨k0, k1, k2, k3, k4, k5, _⟩ := hC
    go_wp2_with fail
    refine (HK.out _).mono ?_
    rintro e w3 ⟨rfl, hb3⟩
    have hD := (show Box E c w.heap.size w2 from ⟨k0, k1, k2, k3, k4, k5, hsz2⟩).below hb3
    clear k0 k1 k2 k3 k4 k5
    obtain ⟨k0, k1, k2, k3, k4, k5, _⟩ := hD
    go_wp2_with fail
    go_ret3
    exact ⟨_, _, rfl, ((hal.trans (hb.mono (by simp))).trans (hb2.mono (by omega))).trans (hb3.mono (by omega))⟩
  · rw [if_neg q2]
    clear q2
    go_enter Tryd.func66, Tryd.ntmps66
    go_wp2_with fail
    refine (HSK.out).mono ?_
    rintro e w1 ⟨rfl, hb⟩
    have hB := hb0.below hb
    obtain ⟨k0, k1, k2, k3, k4, k5, kl⟩ := hB
    go_wp2_with fail
    refine (HR.out _).mono ?_
    rintro e w2 ⟨n, rfl, hv, hb2⟩
    have hsz : w.heap.size < w1.heap.size := by have := hb.size; simp at this; omega
    have hsz2 : w.heap.size < w2.heap.size := Nat.lt_of_lt_of_le hsz hb2.size
    have hC := (show Box E c w.heap.size w1 from ⟨k0, k1, k2, k3, k4, k5, kl⟩).below hb2
    clear hv k0 k1 k2 k3 k4 k5
    obtain ⟨k0, k1, k2, k3, k4, k5, _⟩ := hC
    go_wp2_with fail
    refine (HK.out _).mono ?_
    rintro e w3 ⟨rfl, hb3⟩
    have hD := (show Box E c w.heap.size w2 from ⟨k0, k1, k2, k3, k4, k5, hsz2⟩).below hb3
    clear k0 k1 k2 k3 k4 k5
    obtain ⟨k0, k1, k2, k3, k4, k5, _⟩ := hD
    go_wp2_with fail
    go_ret3
    exact ⟨_, _, rfl, ((hal.trans (hb.mono (by simp))).trans (hb2.mono (by omega))).trans (hb3.mono (by omega))⟩
end Go.Proofs.YtkkcoajgpdpfkabDoor
