/- The reference's operand: no more string, a number, a bracket. -/
import Derived.Test.YtkkcoajgpdpfkabDoorRfSign3
namespace Go.Proofs.YtkkcoajgpdpfkabDoor
open Go.RowKit Go.PlainAid

theorem rout_ok {r : Ms.Res (Int × Nat)} {bl : Bool} {w w' : World} {v x : Int} {q : Nat} (h : r = .ok (x, q)) (hv : bl = false → v = x) (hb : Below w.heap.size w w') : ROut r bl w (ret3 v q 0) w' := by
  rw [h]; exact ⟨v, rfl, hv, hb⟩
theorem rout_er {r : Ms.Res (Int × Nat)} {bl : Bool} {w w' : World} {n q c : Int} (h : r = .er c) (hb : Below w.heap.size w w') : ROut r bl w (ret3 n q c) w' := by
  rw [h]; exact ⟨n, q, rfl, hb⟩

theorem num_bl {E : Ms.Env} (hbl : E.bl = true) (p : Nat) : (∀ v q, Ms.number (plainB E) p = .ok (v, q) → ∃ x, Ms.number E p = .ok (x, q)) ∧ (∀ c, c ≠ 5 → Ms.number (plainB E) p = .er c → Ms.number E p = .er c) := by
  obtain ⟨es, ez, ev, eh, eo, eb⟩ := E
  have hbl : eb = true := hbl
  subst hbl
  have hn : ∀ b, Ms.number { s := es, z := ez, v := ev, h := eh, one := eo, bl := b } p = if Ms.dEnd es p 9 = p ∧ Ms.partLen es (Ms.dEnd es p 9) = 0 then .er 4 else
      match Ms.reck { s := es, z := ez, v := ev, h := eh, one := eo, bl := b } (Ms.dVal es p (Ms.dEnd es p 9 - p) * (Ms.unitO (bt es (Ms.numEnd es p)) ez ev).getD eo + Ms.dVal es (Ms.dEnd es p 9 + 1) (Ms.partLen es (Ms.dEnd es p 9)) * (Ms.unitO (bt es (Ms.numEnd es p)) ez ev).getD eo / Ms.tenTo (Ms.partLen es (Ms.dEnd es p 9))) with
      | .ok n => .ok (n, if (Ms.unitO (bt es (Ms.numEnd es p)) ez ev).isSome then Ms.numEnd es p + 1 else Ms.numEnd es p)
      | .er c => .er c := fun b => rfl
  rw [show plainB { s := es, z := ez, v := ev, h := eh, one := eo, bl := true } = { s := es, z := ez, v := ev, h := eh, one := eo, bl := false } from rfl, hn, hn]
  generalize Ms.dVal es p _ * _ + _ = y
  by_cases h1 : Ms.dEnd es p 9 = p ∧ Ms.partLen es (Ms.dEnd es p 9) = 0
  · rw [if_pos h1, if_pos h1]
    exact ⟨fun v q h => (by cases h), fun c _ h => h⟩
  · rw [if_neg h1, if_neg h1]
    rw [show Ms.reck { s := es, z := ez, v := ev, h := eh, one := eo, bl := true } y = .ok 0 from by simp [Ms.reck]]
    by_cases h2 : -1000000000 ≤ y ∧ y ≤ 1000000000
    · rw [show Ms.reck { s := es, z := ez, v := ev, h := eh, one := eo, bl := false } y = .ok y from by simp [Ms.reck, h2]]
      exact ⟨fun v q h => ⟨0, by injection h with h; injection h with _ h2; rw [← h2]⟩, fun c _ h => (by cases h)⟩
    · rw [show Ms.reck { s := es, z := ez, v := ev, h := eh, one := eo, bl := false } y = .er 5 from by simp [Ms.reck, h2]]
      exact ⟨fun v q h => (by cases h), fun c hc h => (by injection h with h; omega)⟩

theorem plainB_id {E : Ms.Env} (h : E.bl = false) : plainB E = E := by
  cases E; simp only [plainB] at h ⊢; rw [h]
theorem formB_id {E : Ms.Env} (h : E.bl = true) : { E with bl := true } = E := by
  cases E; simp only at h ⊢; rw [h]

/-- The three ways of the reference's number. -/
inductive NumW (r : Ms.Res (Int × Nat)) (bl : Bool) (w : World) (e : Ending) (w' : World) : Prop
  | ok (v : Int) (q : Nat) (x : Int) (he : e = ret3 v q 0) (hr : r = .ok (x, q)) (hv : bl = false → v = x) (hb : Below w.heap.size w w')
  | range (q : Nat) (x : Int) (he : e = ret3 0 q 5) (hr : bl = true → r = .ok (x, q)) (hr2 : bl = false → r = .er 5) (hb : Below w.heap.size w w')
  | er (n q c : Int) (he : e = ret3 n q c) (hr : r = .er c) (hc : bl = true → (c == 5) = false) (hb : Below w.heap.size w w')

theorem num_ways {E : Ms.Env} {p : Nat} {w w' : World} {e : Ending} (h : RefNum E p w e w') : NumW (Ms.number E p) E.bl w e w' := by
  unfold RefNum at h
  obtain ⟨hb, h⟩ := h
  cases hbl : E.bl with
  | false =>
    rw [plainB_id hbl] at h
    split at h
    · rename_i v q hq
      exact .ok v q v h hq (fun _ => rfl) hb
    · rename_i hq
      obtain ⟨q, h, x, hx⟩ := h
      exact .range q x h (fun e => by cases e) (fun _ => hq) hb
    · rename_i c hc hq
      obtain ⟨n, q, h⟩ := h
      exact .er n q c h hq (fun e => by cases e) hb
  | true =>
    obtain ⟨h1, h2⟩ := num_bl hbl p
    rw [formB_id hbl] at h
    split at h
    · rename_i v q hq
      obtain ⟨x, hx⟩ := h1 v q hq
      exact .ok v q x h hx (fun e => by cases e) hb
    · obtain ⟨q, h, x, hx⟩ := h
      exact .range q x h (fun _ => hx) (fun e => by cases e) hb
    · rename_i c hc hq
      obtain ⟨n, q, h⟩ := h
      have h5 : c ≠ 5 := hc
      exact .er n q c h (h2 c h5 hq) (fun _ => beq_eq_false_iff_ne.2 h5) hb

set_option maxRecDepth 100000 in
set_option maxHeartbeats 400000 in
theorem opd_end {E : Ms.Env} {c d : Int} {p a : Nat} {w : World} (_hs : E.s.size ≤ 4611686018427387904) (asz : a ≤ E.s.size) (lt : ¬ a < E.s.size)
    (sk : Calls Tryd.prog 68 #[RV E c, .int .i64 p, .int .i64 d] (w.alloc (boxO E c)) fun e w' => e = .returned (.int .i64 a) ∧ Below (w.alloc (boxO E c)).heap.size (w.alloc (boxO E c)) w') :
    Opd E c d p (.er 4) w := by
  have HSK := Lib.hid sk
  have hb0 := Box.new E c w
  have hal : Below w.heap.size w (w.alloc (boxO E c)) := (Below.refl _ _).alloc (Nat.le_refl _) _
  clear sk
  go_enter Tryd.func66, Tryd.ntmps66
  go_wp2_with fail
  refine (HSK.out).mono ?_
  rintro e w1 ⟨rfl, hb⟩
  have hB := hb0.below hb
  obtain ⟨k0, k1, k2, k3, k4, k5, kl⟩ := hB
  go_wp2_with fail
  go_ret3
  exact ⟨_, _, rfl, hal.trans (hb.mono (by simp))⟩

set_option maxRecDepth 100000 in
set_option maxHeartbeats 400000 in
theorem opd_num {E : Ms.Env} {c d : Int} {p a : Nat} {w : World} (g : E.Good) (hc : Ms.unitO c E.z E.v = some E.one) (f0 : (bt E.s a == 40) = false) (hsg : Ms.sgnB (bt E.s a) = false) (lt : a < E.s.size)
    (sk : Calls Tryd.prog 68 #[RV E c, .int .i64 p, .int .i64 d] (w.alloc (boxO E c)) fun e w' => e = .returned (.int .i64 a) ∧ Below (w.alloc (boxO E c)).heap.size (w.alloc (boxO E c)) w')
    (r : Ms.Res (Int × Nat)) (hr : Ms.number E a = r) :
    Opd E c d p r w := by
  have hN := fun w1 e w2 (h : RefNum E a w1 e w2) => num_ways h
  rw [hr] at hN
  have HN := Lib.hid hN
  have HNUM := Lib.hid (fun w1 => rnumber_any E g c hc a (by omega) w1)
  have HSK := Lib.hid sk
  have hgb := get_bt E.s
  have hs := g.sz
  have f1 : (bt E.s a == 43) = false := by simp [Ms.sgnB] at hsg; simp [hsg]
  have f2 : (bt E.s a == 45) = false := by simp [Ms.sgnB] at hsg; simp [hsg]
  have f3 : (bt E.s a == 33) = false := by simp [Ms.sgnB] at hsg; simp [hsg]
  have f4 : (bt E.s a == 124) = false := by simp [Ms.sgnB] at hsg; simp [hsg]
  have hb0 := Box.new E c w
  have hal : Below w.heap.size w (w.alloc (boxO E c)) := (Below.refl _ _).alloc (Nat.le_refl _) _
  have HAL := Lib.hid hal
  clear sk hN hr hc hsg g
  obtain ⟨bb, hbb⟩ : ∃ b, E.bl = b := ⟨_, rfl⟩
  have HBL := Lib.hid hbb
  clear hbb
  go_enter Tryd.func66, Tryd.ntmps66
  go_wp2_with fail
  refine (HSK.out).mono ?_
  rintro e w1 ⟨rfl, hb⟩
  have hB := hb0.below hb
  obtain ⟨k0, k1, k2, k3, k4, k5, kl⟩ := hB
  go_wp2_with fail
  refine (HNUM.out _).mono ?_
  intro e w2 hn
  have hW := HN.out _ _ _ hn
  have hsz : w.heap.size < w1.heap.size := by have := hb.size; simp at this; omega
  clear hn hgb f0 f1 f2 f3 f4 hal
  rcases hW with ⟨v, q, x, rfl, h1, h2, hb2⟩ | ⟨q, x, rfl, h1, h2, hb2⟩ | ⟨n, q, cc, rfl, h1, h2, hb2⟩
  · have H1 := Lib.hid h1
    have H2 := Lib.hid h2
    clear h1 h2
    cases bb
    all_goals
      have g5 := (bcell hb2).1 _ 5 hsz
      rw [k5, HBL.out] at g5
      clear k0 k1 k2 k3 k4 k5
      go_wp2_with fail
      go_ret3
      exact rout_ok H1.out H2.out ((HAL.out.trans (hb.mono (by simp))).trans (hb2.mono (by omega)))
  · have H1 := Lib.hid h1
    have H2 := Lib.hid h2
    clear h1 h2
    cases bb
    case false =>
      have g5 := (bcell hb2).1 _ 5 hsz
      rw [k5, HBL.out] at g5
      clear k0 k1 k2 k3 k4 k5
      go_wp2_with fail
      go_ret3
      exact rout_er (H2.out HBL.out) ((HAL.out.trans (hb.mono (by simp))).trans (hb2.mono (by omega)))
    case true =>
      have g5 := (bcell hb2).1 _ 5 hsz
      rw [k5, HBL.out] at g5
      clear k0 k1 k2 k3 k4 k5
      go_wp2_with fail
      go_ret3
      exact rout_ok (H1.out HBL.out) (fun e => Bool.noConfusion (HBL.out.symm.trans e)) ((HAL.out.trans (hb.mono (by simp))).trans (hb2.mono (by omega)))
  · have H1 := Lib.hid h1
    have H2 := Lib.hid h2
    clear h1 h2
    cases bb
    case false =>
      have g5 := (bcell hb2).1 _ 5 hsz
      rw [k5, HBL.out] at g5
      clear k0 k1 k2 k3 k4 k5
      go_wp2_with fail
      go_ret3
      exact rout_er H1.out ((HAL.out.trans (hb.mono (by simp))).trans (hb2.mono (by omega)))
    case true =>
      have g5 := (bcell hb2).1 _ 5 hsz
      rw [k5, HBL.out] at g5
      have c5 := H2.out HBL.out
      clear k0 k1 k2 k3 k4 k5
      go_wp2_with fail
      go_ret3
      exact rout_er H1.out ((HAL.out.trans (hb.mono (by simp))).trans (hb2.mono (by omega)))
end Go.Proofs.YtkkcoajgpdpfkabDoor
