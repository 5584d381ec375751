/- The reference's operand: a sign ahead. One theorem for each way. -/
import Derived.Test.YtkkcoajgpdpfkabDoorRfDefs
namespace Go.Proofs.YtkkcoajgpdpfkabDoor
open Go.RowKit Go.PlainAid

inductive SW : Bool → Bool → Bool → Bool → Prop
  | plus : SW true false false false
  | minus : SW false true false false
  | no : SW false false true false
  | bar : SW false false false true

/-- What is known where a sign stands at a behind the blanks. -/
structure SgnAt (E : Ms.Env) (c d : Int) (p a : Nat) (w : World) (b1 b2 b3 b4 : Bool) : Prop where
  f0 : (bt E.s a == 40) = false
  f1 : (bt E.s a == 43) = b1
  f2 : (bt E.s a == 45) = b2
  f3 : (bt E.s a == 33) = b3
  f4 : (bt E.s a == 124) = b4
  hs : E.s.size ≤ 4611686018427387904
  lt : a < E.s.size
  skip : Calls Tryd.prog 68 #[RV E c, .int .i64 p, .int .i64 d] (w.alloc (boxO E c)) fun e w' => e = .returned (.int .i64 a) ∧ Below (w.alloc (boxO E c)).heap.size (w.alloc (boxO E c)) w'

theorem SgnAt.ways {E : Ms.Env} {c d : Int} {p a : Nat} {w : World} (h1 : bt E.s a = 43 ∨ bt E.s a = 45 ∨ bt E.s a = 33 ∨ bt E.s a = 124) (hs : E.s.size ≤ 4611686018427387904) (lt : a < E.s.size)
    (sk : Calls Tryd.prog 68 #[RV E c, .int .i64 p, .int .i64 d] (w.alloc (boxO E c)) fun e w' => e = .returned (.int .i64 a) ∧ Below (w.alloc (boxO E c)).heap.size (w.alloc (boxO E c)) w') :
    bt E.s a = 43 ∧ SgnAt E c d p a w true false false false ∨ bt E.s a = 45 ∧ SgnAt E c d p a w false true false false ∨ bt E.s a = 33 ∧ SgnAt E c d p a w false false true false ∨ bt E.s a = 124 ∧ SgnAt E c d p a w false false false true := by
  rcases h1 with h | h | h | h
  · exact .inl ⟨h, by rw [h]; rfl, by rw [h]; rfl, by rw [h]; rfl, by rw [h]; rfl, by rw [h]; rfl, hs, lt, sk⟩
  · exact .inr (.inl ⟨h, by rw [h]; rfl, by rw [h]; rfl, by rw [h]; rfl, by rw [h]; rfl, by rw [h]; rfl, hs, lt, sk⟩)
  · exact .inr (.inr (.inl ⟨h, by rw [h]; rfl, by rw [h]; rfl, by rw [h]; rfl, by rw [h]; rfl, by rw [h]; rfl, hs, lt, sk⟩))
  · exact .inr (.inr (.inr ⟨h, by rw [h]; rfl, by rw [h]; rfl, by rw [h]; rfl, by rw [h]; rfl, by rw [h]; rfl, hs, lt, sk⟩))

/-- What the reference's operand does behind a sign. -/
abbrev Rec (E : Ms.Env) (c d : Int) (a : Nat) (r : Ms.Res (Int × Nat)) : Prop := ∀ w : World, Calls Tryd.prog 66 #[RV E c, .int .i64 ((a : Int) + 1), .int .i64 d] w (ROut r E.bl w)
abbrev Opd (E : Ms.Env) (c d : Int) (p : Nat) (r : Ms.Res (Int × Nat)) (w : World) : Prop := Calls Tryd.prog 66 #[RV E c, .int .i64 p, .int .i64 d] w (ROut r E.bl w)

set_option maxRecDepth 100000 in
set_option maxHeartbeats 2000000 in
theorem sgn_er_of {E : Ms.Env} {c d cc : Int} {p a : Nat} {w : World} {b1 b2 b3 b4 : Bool} (h : SgnAt E c d p a w b1 b2 b3 b4) (sw : SW b1 b2 b3 b4) (hcc : (cc != 0) = true) (hrec : Rec E c d a (.er cc)) : Opd E c d p (.er cc) w := by
  have hgb := get_bt E.s
  have HR := Lib.hid hrec
  have HSK := Lib.hid h.skip
  have f0 := h.f0
  have f1 := h.f1
  have f2 := h.f2
  have f3 := h.f3
  have f4 := h.f4
  have hs := h.hs
  have hlt := h.lt
  have hb0 := Box.new E c w
  have hal : Below w.heap.size w (w.alloc (boxO E c)) := (Below.refl _ _).alloc (Nat.le_refl _) _
  clear h hrec
  cases sw
  all_goals
    go_enter Tryd.func66, Tryd.ntmps66
    go_wp2_with fail
    refine (HSK.out).mono ?_
    rintro e w1 ⟨rfl, hb⟩
    have hB := hb0.below hb
    obtain ⟨k0, k1, k2, k3, k4, k5, kl⟩ := hB
    go_wp2_with fail
    refine (HR.out _).mono ?_
    rintro e w2 ⟨n, q, rfl, hb2⟩
    go_wp2_with fail
    go_ret3
    exact ⟨_, _, rfl, (hal.trans (hb.mono (by simp))).trans (hb2.mono (by have := hb.size; simp at this; omega))⟩
end Go.Proofs.YtkkcoajgpdpfkabDoor
