/- The document's Split. -/
import Derived.Test.YtejffadjakajcaaDoorRqRWords
import Derived.BigRegion
namespace Go.Proofs.YtejffadjakajcaaDoor
open Go.RowKit Go.PlainAid Go.Shelf

theorem index_step {l : List UInt8} {c : UInt8} {k : Nat} (h : ∀ j b, j < k → l[j]? = some b → b ≠ c) : (∀ b, l[k]? = some b → b = c → 0 ≤ Lib.indexByte l c) ∧ (k = l.length → Lib.indexByte l c < 0) := by
  have hg := Lib.indexByte_ge l c
  refine ⟨fun b hb hbc => ?_, fun hk => ?_⟩
  · rcases Int.lt_or_le (Lib.indexByte l c) 0 with h1 | h1
    · exact absurd (List.mem_of_getElem? hb) (by subst hbc; intro hm; obtain ⟨j, hj⟩ := List.getElem?_of_mem hm; exact Lib.indexByte_none (by omega) j hj)
    · exact h1
  · rcases Int.lt_or_le (Lib.indexByte l c) 0 with h1 | h1
    · exact h1
    · exfalso
      obtain ⟨o, ho⟩ : ∃ o : Nat, Lib.indexByte l c = o := ⟨_, (Int.toNat_of_nonneg h1).symm⟩
      have h2 := (Lib.indexByte_some ho).1
      have h3 := (List.getElem?_eq_some_iff.1 h2).1
      exact h o c (by omega) h2 rfl
set_option maxRecDepth 100000 in
set_option maxHeartbeats 2000000 in
theorem rIsLine_any (l : List UInt8) (hl : l.length ≤ 1000000) (w : World) : Calls Tryd.prog 47 #[.string (mk8 l)] w (Says (.bool (lineL l)) w) := by
  have hgb := get_bt (mk8 l)
  have z1 : ((mk8 l).size : Int) = l.length := by rw [mk8_size]
  have z2 : (mk8 l).size = l.length := mk8_size l
  go_enter Tryd.func47, Tryd.ntmps47
  go_wp2_with fail
  go_loop [3] (fun i => ∃ k : Nat, k ≤ l.length ∧ i = .int .i64 k ∧ Hid (∀ (j : Nat) b, j < k → l[j]? = some b → b ≠ 10)) (fun i => l.length - (intOf i).toNat)
  case atStart => exact ⟨0, by omega, rfl, fun j b hj => absurd hj (Nat.not_lt_zero _)⟩
  case round =>
    obtain ⟨k, hk, rfl, hn⟩ := hrel
    obtain ⟨i1, i2⟩ := index_step (l := l) (c := 10) (k := k) hn.out
    by_cases hlt : k < l.length
    · obtain ⟨c, hc, _⟩ := drop_cons hlt
      have hbt := bt_mk hc
      have hkz : (k : Int) < l.length := by omega
      have hks : k < (mk8 l).size := by omega
      by_cases h10 : c = 10
      · have e1 : (bt (mk8 l) k == 10) = true := by rw [hbt, h10]; rfl
        have HV : Hid (lineL l = false) := by show _ = _; unfold lineL; rw [decide_eq_true (i1 c hc h10)]; simp
        clear hn hbt hc i1 i2
        go_wp2_with fail
        go_ret
        exact ⟨by rw [HV.out]; rfl, rfl⟩
      · have e1 : (bt (mk8 l) k == 10) = false := by rw [hbt]; exact (u8_eq (k := 10)).trans (by simpa using h10)
        have HS : Hid (∀ (j : Nat) b, j < k + 1 → l[j]? = some b → b ≠ 10) := fun j b hj hb => by
          by_cases e : j = k
          · subst e; obtain rfl : c = b := Option.some.inj (hc.symm.trans hb); exact h10
          · exact hn.out j b (by omega) hb
        clear hn hbt hc i1 i2
        go_wp2_with fail
        go_round
        case rel => exact ⟨k + 1, by omega, by go_num, HS⟩
        case measure => simp [intOf]; omega
    · obtain rfl : k = l.length := by omega
      have hno := i2 rfl
      have HV : Hid (lineL l = decide ((l.length : Int) ≤ 2000)) := by
        show _ = _
        unfold lineL
        rw [decide_eq_false (show ¬ 0 ≤ Lib.indexByte l 10 by omega), Bool.not_false, Bool.and_true, Bool.eq_iff_iff, decide_eq_true_eq, decide_eq_true_eq]
        omega
      clear hn i1 i2 hno
      go_wp2_with fail
      go_ret
      exact ⟨by rw [HV.out]; rfl, rfl⟩
set_option maxHeartbeats 2000000 in
theorem rcontrol_any (c : Int) (w : World) : Calls Tryd.prog 48 #[.int .u8 c] w (Says (.bool (ctlB c)) w) := by
  have H1 := Lib.hid (rletter_any c w)
  have H2 := Lib.hid (rdigit_any c w)
  have H3 := Lib.hid (rblank_any c w)
  unfold ctlB
  have d4 : (c != 92) = !(c == 92) := rfl
  obtain ⟨x, hx⟩ : ∃ x, letB c = x := ⟨_, rfl⟩
  obtain ⟨y, hy⟩ : ∃ y, digB c = y := ⟨_, rfl⟩
  obtain ⟨z, hz⟩ : ∃ z, blkI c = z := ⟨_, rfl⟩
  obtain ⟨u, hu⟩ : ∃ u, (c == 92) = u := ⟨_, rfl⟩
  rw [hx] at H1 ⊢; rw [hy] at H2 ⊢; rw [hz] at H3 ⊢; rw [hu] at d4 ⊢
  clear hx hy hz hu
  cases x with
  | true =>
    go_enter Tryd.func48, Tryd.ntmps48
    go_wp2_with fail
    refine H1.out.mono ?_
    rintro e w1 ⟨rfl, rfl⟩
    go_wp2_with fail
    go_ret
    exact ⟨rfl, rfl⟩
  | false =>
    cases y with
    | true =>
      go_enter Tryd.func48, Tryd.ntmps48
      go_wp2_with fail
      refine H1.out.mono ?_
      rintro e w1 ⟨rfl, rfl⟩
      go_wp2_with fail
      refine H2.out.mono ?_
      rintro e w1 ⟨rfl, rfl⟩
      go_wp2_with fail
      go_ret
      exact ⟨rfl, rfl⟩
    | false =>
      cases z with
      | true =>
        go_enter Tryd.func48, Tryd.ntmps48
        go_wp2_with fail
        refine H1.out.mono ?_
        rintro e w1 ⟨rfl, rfl⟩
        go_wp2_with fail
        refine H2.out.mono ?_
        rintro e w1 ⟨rfl, rfl⟩
        go_wp2_with fail
        refine H3.out.mono ?_
        rintro e w1 ⟨rfl, rfl⟩
        go_wp2_with fail
        go_ret
        exact ⟨rfl, rfl⟩
      | false =>
        go_enter Tryd.func48, Tryd.ntmps48
        go_wp2_with fail
        refine H1.out.mono ?_
        rintro e w1 ⟨rfl, rfl⟩
        go_wp2_with fail
        refine H2.out.mono ?_
        rintro e w1 ⟨rfl, rfl⟩
        go_wp2_with fail
        refine H3.out.mono ?_
        rintro e w1 ⟨rfl, rfl⟩
        go_wp2_with fail
        go_ret
        exact ⟨rfl, rfl⟩

set_option maxRecDepth 100000 in
set_option maxHeartbeats 4000000 in
theorem rsplit_bad (l : List UInt8) (c q : Int) (W : World) (hz : l.length ≤ 1000000) (h : fitB l c q = false) : Calls Tryd.prog 22 #[.string (mk8 l), .int .u8 c, .int .u8 q] W (fun e W' => e = .returned (.tuple #[noReq, .bool false, .int .i64 1]) ∧ Below W.heap.size W W') := by
  have HL := Lib.hid (fun w => rIsLine_any l (by omega) w)
  have HC := Lib.hid (fun w => rcontrol_any c w)
  have HQ := Lib.hid (fun w => rcontrol_any q w)
  unfold fitB at h
  cases h1 : lineL l with
  | false =>
    simp only [h1] at HL
    clear h h1
    go_enter Tryd.func22, Tryd.ntmps22
    go_wp2_with fail
    refine (HL.out _).mono ?_
    rintro e w1 ⟨rfl, rfl⟩
    go_wp2_with fail
    simp [bodyPost, results, Tryd.results22, go_sem]
    exact (Below.refl _ _).alloc (Nat.le_refl _) _
  | true =>
    simp only [h1] at HL
    cases h2 : ctlB c with
    | false =>
      simp only [h2] at HC
      clear h h1 h2
      go_enter Tryd.func22, Tryd.ntmps22
      go_wp2_with fail
      refine (HL.out _).mono ?_
      rintro e w1 ⟨rfl, rfl⟩
      go_wp2_with fail
      refine (HC.out _).mono ?_
      rintro e w1 ⟨rfl, rfl⟩
      go_wp2_with fail
      simp [bodyPost, results, Tryd.results22, go_sem]
      exact (Below.refl _ _).alloc (Nat.le_refl _) _
    | true =>
      simp only [h2] at HC
      cases h3 : ctlB q with
      | false =>
        simp only [h3] at HQ
        clear h h1 h2 h3
        go_enter Tryd.func22, Tryd.ntmps22
        go_wp2_with fail
        refine (HL.out _).mono ?_
        rintro e w1 ⟨rfl, rfl⟩
        go_wp2_with fail
        refine (HC.out _).mono ?_
        rintro e w1 ⟨rfl, rfl⟩
        go_wp2_with fail
        refine (HQ.out _).mono ?_
        rintro e w1 ⟨rfl, rfl⟩
        go_wp2_with fail
        simp [bodyPost, results, Tryd.results22, go_sem]
        exact (Below.refl _ _).alloc (Nat.le_refl _) _
      | true =>
        simp only [h3] at HQ
        have h4 : (c == q) = true := by rw [h1, h2, h3] at h; simpa using h
        clear h h1 h2 h3
        go_enter Tryd.func22, Tryd.ntmps22
        go_wp2_with fail
        refine (HL.out _).mono ?_
        rintro e w1 ⟨rfl, rfl⟩
        go_wp2_with fail
        refine (HC.out _).mono ?_
        rintro e w1 ⟨rfl, rfl⟩
        go_wp2_with fail
        refine (HQ.out _).mono ?_
        rintro e w1 ⟨rfl, rfl⟩
        go_wp2_with fail
        simp [bodyPost, results, Tryd.results22, go_sem]
        exact (Below.refl _ _).alloc (Nat.le_refl _) _

set_option maxRecDepth 100000 in
set_option maxHeartbeats 4000000 in
theorem rsplit_none (l : List UInt8) (c q : Int) (W : World) (hz : l.length ≤ 1000000) (h : fitB l c q = true) (hs : startB l c q = false) : Calls Tryd.prog 22 #[.string (mk8 l), .int .u8 c, .int .u8 q] W (fun e W' => e = .returned (.tuple #[noReq, .bool false, .int .i64 0]) ∧ Below W.heap.size W W') := by
  have HL := Lib.hid (fun w => rIsLine_any l (by omega) w)
  have HC := Lib.hid (fun w => rcontrol_any c w)
  have HQ := Lib.hid (fun w => rcontrol_any q w)
  unfold fitB at h
  simp only [Bool.and_eq_true, Bool.not_eq_true'] at h
  obtain ⟨⟨⟨h1, h2⟩, h3⟩, h4⟩ := h
  simp only [h1] at HL; simp only [h2] at HC; simp only [h3] at HQ
  clear h1 h2 h3
  by_cases hl : l = []
  · have z4 : l.isEmpty = true := by rw [hl]; rfl
    clear hs hl
    go_enter Tryd.func22, Tryd.ntmps22
    go_wp2_with fail
    refine (HL.out _).mono ?_
    rintro e w1 ⟨rfl, rfl⟩
    go_wp2_with fail
    refine (HC.out _).mono ?_
    rintro e w1 ⟨rfl, rfl⟩
    go_wp2_with fail
    refine (HQ.out _).mono ?_
    rintro e w1 ⟨rfl, rfl⟩
    go_wp2_with fail
    simp [bodyPost, results, Tryd.results22, go_sem]
    exact (Below.refl _ _).alloc (Nat.le_refl _) _
  · obtain ⟨x, r, rfl⟩ : ∃ x r, l = x :: r := by cases l with | nil => exact absurd rfl hl | cons x r => exact ⟨x, r, rfl⟩
    clear hl
    have hgb := get_bt (mk8 (x :: r))
    have hb : bt (mk8 (x :: r)) 0 = x.toNat := bt_mk rfl
    have hs : ((((x.toNat : Nat) : Int) == c) || (((x.toNat : Nat) : Int) == q)) = false := hs
    rw [Bool.or_eq_false_iff] at hs
    have e1 : (bt (mk8 (x :: r)) 0 != c) = true := by rw [hb, bne, hs.1]; rfl
    have e2 : (bt (mk8 (x :: r)) 0 != q) = true := by rw [hb, bne, hs.2]; rfl
    have z1 : ((mk8 (x :: r)).size : Int) = (x :: r).length := by rw [mk8_size]
    have z3 : 0 < (mk8 (x :: r)).size := by rw [mk8_size]; simp
    have z4 : (x :: r).isEmpty = false := rfl
    obtain ⟨l, hl⟩ : ∃ l, x :: r = l := ⟨_, rfl⟩
    rw [hl] at hgb hb e1 e2 z1 z3 z4 HL ⊢
    clear hl hb hs
    go_enter Tryd.func22, Tryd.ntmps22
    go_wp2_with fail
    refine (HL.out _).mono ?_
    rintro e w1 ⟨rfl, rfl⟩
    go_wp2_with fail
    refine (HC.out _).mono ?_
    rintro e w1 ⟨rfl, rfl⟩
    go_wp2_with fail
    refine (HQ.out _).mono ?_
    rintro e w1 ⟨rfl, rfl⟩
    go_wp2_with fail
    simp [bodyPost, results, Tryd.results22, go_sem]
    exact (Below.refl _ _).alloc (Nat.le_refl _) _
/-- The request that is being made, in memory. -/
def Rr (c : Nat) (name : List UInt8) (v : Value) (rest : List UInt8) (q : Bool) (w : World) : Prop :=
  w.heap[c]? = some (.cells #[.string (mk8 name), v, .string (mk8 rest), .bool q] 48 (0, 0))
section
variable {c : Nat} {name rest : List UInt8} {v : Value} {q : Bool} {w w' : World}
theorem Rr.lt (h : Rr c name v rest q w) : c < w.heap.size := (Array.getElem?_eq_some_iff.1 h).1
theorem Rr.below (h : Rr c name v rest q w) (hb : Below w.heap.size w w') : Rr c name v rest q w' := by unfold Rr; rw [hb.block c h.lt]; exact h
theorem Rr.only {b : Nat} (h : Rr c name v rest q w) (hb : Only b w w') (hn : c ≠ b) : Rr c name v rest q w' := by unfold Rr; rw [hb.block c h.lt hn]; exact h
theorem Rr.c0 (h : Rr c name v rest q w) : w.cell? ⟨c, 0, none⟩ = some (.string (mk8 name)) := by simp [World.cell?, show w.heap[c]? = _ from h]
theorem Rr.c1 (h : Rr c name v rest q w) : w.cell? ⟨c, 1, none⟩ = some v := by simp [World.cell?, show w.heap[c]? = _ from h]
theorem Rr.c2 (h : Rr c name v rest q w) : w.cell? ⟨c, 2, none⟩ = some (.string (mk8 rest)) := by simp [World.cell?, show w.heap[c]? = _ from h]
theorem Rr.c3 (h : Rr c name v rest q w) : w.cell? ⟨c, 3, none⟩ = some (.bool q) := by simp [World.cell?, show w.heap[c]? = _ from h]
theorem Rr.fz (h : Rr c name v rest q w) (k : Nat) : w.frozen? ⟨c, k, none⟩ = false := by simp [World.frozen?, show w.heap[c]? = _ from h]
theorem Rr.set1 (h : Rr c name v rest q w) (u : Value) : Rr c name u rest q (w.setCell ⟨c, 1, none⟩ u) := heap_setCell_at h 1 _
theorem Rr.set2 (h : Rr c name v rest q w) (u : List UInt8) : Rr c name v u q (w.setCell ⟨c, 2, none⟩ (.string (mk8 u))) := heap_setCell_at h 2 _
theorem rr_new (w : World) : Rr w.heap.size [] (.slice none 0 0) [] false (w.alloc (.cells #[.string ⟨#[]⟩, .slice none 0 0, .string ⟨#[]⟩, .bool false] 48)) := heap_alloc_new w _
end
theorem Rr.set0 {p : Nat} {name rest u : List UInt8} {v : Value} {q : Bool} {w : World} (h : Rr p name v rest q w) : Rr p u v rest q (w.setCell ⟨p, 0, none⟩ (.string (mk8 u))) := heap_setCell_at h 0 _
theorem Rr.set3 {p : Nat} {name rest : List UInt8} {v : Value} {q u : Bool} {w : World} (h : Rr p name v rest q w) : Rr p name v rest u (w.setCell ⟨p, 3, none⟩ (.bool u)) := heap_setCell_at h 3 _
end Go.Proofs.YtejffadjakajcaaDoor
