/- How an argument is written, and whether it is read again. -/
import Derived.Test.YtejffadjakajcaaDoorRqSane
import Derived.Test.YtejffadjakajcaaDoorRqBackPure
import Derived.Lib.TrimByte
namespace Go.Proofs.YtejffadjakajcaaDoor
open Go.RowKit Go.PlainAid Go.Shelf

theorem contains_map (cs : List UInt8) (p : UInt8 → Bool) (hp : ∀ b, cs.contains b = p b) : ∀ l : List UInt8, Lib.containsAny l cs = l.any p := by
  intro l
  unfold Lib.containsAny
  by_cases h : l.any p = true
  · rw [h, decide_eq_true_eq]
    have : ∀ (k : Nat) (l : List UInt8), l.any p = true → 0 ≤ Lib.indexAny l cs := by
      intro k l
      induction l with
      | nil => intro h; simp at h
      | cons x r ih =>
        intro h
        cases hx : p x with
        | true =>
          have := Lib.indexAny_hit (s := x :: r) (chars := cs) (i := 0) (x := x) (Lib.NoAny.zero _ _) rfl (by rw [hp]; exact hx)
          omega
        | false =>
          simp only [List.any_cons, hx, Bool.false_or] at h
          have h2 := ih h
          have h3 := Lib.indexAny_ge cs (x :: r)
          rcases Int.lt_or_le (Lib.indexAny (x :: r) cs) 0 with h4 | h4
          · exfalso
            obtain ⟨y, hy, hy2⟩ := List.any_eq_true.1 h
            obtain ⟨j, hj⟩ := List.getElem?_of_mem hy
            have : ∃ j y, j < (x :: r).length ∧ (x :: r)[j]? = some y ∧ cs.contains y = true ∧ Lib.NoAny (x :: r) cs j := by
              have key : ∀ (m : List UInt8), m.any p = true → ∃ j y, j < m.length ∧ m[j]? = some y ∧ cs.contains y = true ∧ Lib.NoAny m cs j := by
                intro m
                induction m with
                | nil => intro h; simp at h
                | cons a t iht =>
                  intro h
                  cases ha : p a with
                  | true => exact ⟨0, a, by simp, rfl, by rw [hp]; exact ha, Lib.NoAny.zero _ _⟩
                  | false =>
                    simp only [List.any_cons, ha, Bool.false_or] at h
                    obtain ⟨j, y, h1, h2, h3, h4⟩ := iht h
                    refine ⟨j + 1, y, by simp; omega, by simpa using h2, h3, fun i b hi hb => ?_⟩
                    cases i with
                    | zero => obtain rfl : a = b := by simpa using hb
                              rw [hp]; exact ha
                    | succ i => exact h4 i b (by omega) (by simpa using hb)
              exact key _ (by simp only [List.any_cons, hx, Bool.false_or]; exact h)
            obtain ⟨j, y, _, h1, h2, h3⟩ := this
            have := Lib.indexAny_hit h3 h1 h2
            omega
          · exact h4
    exact this 0 l h
  · have hf : l.any p = false := by simpa using h
    rw [hf, decide_eq_false_iff_not]
    have : Lib.indexAny l cs = -1 := Lib.indexAny_none (fun j b _ hb => by
      rw [hp]
      cases hpb : p b with
      | false => rfl
      | true => rw [List.any_eq_true.2 ⟨b, List.mem_of_getElem? hb, hpb⟩] at hf; cases hf)
    omega
theorem contains_blk (l : List UInt8) : Lib.containsAny l [32, 9] = l.any blk := contains_map _ _ (fun b => by rw [Bool.eq_iff_iff]; simp [blk]) l
def badB (c : UInt8) : Bool := blk c || c == 10
theorem contains_bad (l : List UInt8) : Lib.containsAny l [32, 9, 10] = l.any badB := contains_map _ _ (fun b => by rw [Bool.eq_iff_iff]; simp [badB, blk, or_assoc]) l
def nameOk (l : List UInt8) : Bool := !l.isEmpty && !l.any badB

set_option maxRecDepth 100000 in
set_option maxHeartbeats 1000000 in
theorem holdsOn_any (l : List UInt8) (hl : l.length ≤ 4611686018427387904) (w : World) : Calls Tryd.prog 61 #[.string (mk8 l)] w (Makes (.bool (oddF l)) w) := by
  have h := Any.strings_TrimRight_laid Tryd.trimRL (by kernel_rfl) (mk8 l) (mk8 [92]) w (by rw [mk8_size]; omega) (by rw [mk8_size]; decide) (ascii_of_all (by decide))
  have HT : Hid (Calls Tryd.prog 81 #[.string (mk8 l), .string ⟨#[92]⟩] w (Makes (.string (mk8 (Lib.trimRightB l 92))) w)) := by
    have e : Lib.trimRightS (mk8 l).data.toList (mk8 [92]).data.toList = Lib.trimRightB l 92 := Lib.trimRightS_one l 92
    rw [e] at h
    exact h
  have h1 := tcQ_le l
  have h2 := tcQ_trim l
  obtain ⟨t, ht⟩ : ∃ t, Lib.trimRightB l 92 = t := ⟨_, rfl⟩
  rw [ht] at HT h2
  have hle : t.length ≤ l.length := by omega
  have HO : Hid (oddF l = (((l.length : Int) - t.length) % 2 == 1)) := by
    have e : (l.length : Int) - t.length = (tcQ l : Nat) := by omega
    show oddF l = _
    rw [e, oddF_tc, Bool.eq_iff_iff, beq_iff_eq, beq_iff_eq]
    omega
  have z1 : ((mk8 l).size : Int) = l.length := by rw [mk8_size]
  have z2 : ((mk8 t).size : Int) = t.length := by rw [mk8_size]
  clear h1 h2 ht h
  go_enter Tryd.func61, Tryd.ntmps61
  go_wp2_with fail
  refine HT.out.mono ?_
  rintro e w1 ⟨rfl, hb⟩
  go_wp2_with fail
  go_ret
  exact ⟨by rw [HO.out]; rfl, hb⟩

/-- The library's one variable that is read on the way holds some number. -/
def MaxAt (w : World) : Prop := ∃ m, w.cell? ⟨0, 0, none⟩ = some (.int .i64 m)
theorem MaxAt.below {w w' : World} (h : MaxAt w) (hb : Below w.heap.size w w') : MaxAt w' := by
  obtain ⟨m, hm⟩ := h
  have hlt : 0 < w.heap.size := World.block_lt_of_cell? _ _ hm
  exact ⟨m, by rw [hb.cell (p := ⟨0, 0, none⟩) hlt]; exact hm⟩
theorem replace_at (l : List UInt8) (hs : l.length ≤ 100000) (w : World) (hm : MaxAt w) : Calls Tryd.prog 62 #[.string (mk8 l), .string ⟨#[34]⟩, .string ⟨#[34, 34]⟩] w (Makes (.string (mk8 (dblQ l))) w) := by
  obtain ⟨m, hm⟩ := hm
  have hc : Lib.countB (mk8 l) ⟨#[34]⟩ ≤ l.length := by
    unfold Lib.countB
    rw [show (⟨#[34]⟩ : ByteArray).data.toList = [34] from rfl, Lib.count_one]
    exact List.count_le_length
  have h := Any.strings_ReplaceAll Tryd.replaceL x_replace (mk8 l) ⟨#[34]⟩ ⟨#[34, 34]⟩ m w (by rw [mk8_size]; omega) hm (by decide) (by
    rw [show (⟨#[34, 34]⟩ : ByteArray).size = 2 from rfl, mk8_size]
    omega)
  rw [show (⟨#[34]⟩ : ByteArray).data.toList = [34] from rfl, show (⟨#[34, 34]⟩ : ByteArray).data.toList = [34, 34] from rfl, replaceAll_dblQ] at h
  exact h

set_option maxRecDepth 100000 in
set_option maxHeartbeats 2000000 in
theorem written_nil (l : List UInt8) (hl : l.length ≤ 10000) (W : World) (hm : MaxAt W) (h0 : l = []) : Calls Tryd.prog 36 #[.string (mk8 l)] W (Makes (strV (34 :: dblQ l ++ [34])) W) := by
  have HR := Lib.hid (fun w (h : Below W.heap.size W w) => replace_at l (by omega) w (hm.below h))
  have hgb := get_bt (mk8 l)
  have z1 : ((mk8 l).size : Int) = l.length := by rw [mk8_size]
  have z2 : (mk8 l).size = l.length := mk8_size l
  have e1 : l.isEmpty = true := by rw [h0]; rfl
  clear h0
  have hfit : 1 + (dblQ l).length ≤ 30000 := by have := (dblQ_length l).2; omega
  have hfit2 : 1 + (dblQ l).length + 1 ≤ 30000 := by have := (dblQ_length l).2; omega
  have HA : Hid ((⟨#[34]⟩ : ByteArray) ++ mk8 (dblQ l) ++ ⟨#[34]⟩ = mk8 (34 :: dblQ l ++ [34])) := by
    show (mk8 [34] ++ mk8 (dblQ l)) ++ mk8 [34] = _
    rw [mk8_app, mk8_app]
    rfl
  obtain ⟨m, hmm⟩ : ∃ m, dblQ l = m := ⟨_, rfl⟩
  rw [hmm] at HR hfit hfit2 HA ⊢
  clear hmm hm
  go_enter Tryd.func36, Tryd.ntmps36
  go_wp2_with fail
  refine (HR.out _ (Below.refl _ _)).mono ?_
  rintro e w9 ⟨rfl, hb9⟩
  go_wp2_with fail
  go_ret
  exact ⟨by show _ = Ending.returned (.string (mk8 (34 :: m ++ [34]))); rw [← HA.out]; rfl, hb9⟩

set_option maxRecDepth 100000 in
set_option maxHeartbeats 2000000 in
theorem written_quote (l : List UInt8) (hl : l.length ≤ 10000) (W : World) (hm : MaxAt W) (c : UInt8) (h0 : l.head? = some c) (h1 : c = 34) : Calls Tryd.prog 36 #[.string (mk8 l)] W (Makes (strV (34 :: dblQ l ++ [34])) W) := by
  have HR := Lib.hid (fun w (h : Below W.heap.size W w) => replace_at l (by omega) w (hm.below h))
  have hgb := get_bt (mk8 l)
  have z1 : ((mk8 l).size : Int) = l.length := by rw [mk8_size]
  have z2 : (mk8 l).size = l.length := mk8_size l
  have e1 : l.isEmpty = false := by cases l with | nil => cases h0 | cons _ _ => rfl
  have z3 : 0 < (mk8 l).size := by rw [mk8_size]; cases l with | nil => cases h0 | cons _ _ => simp
  have hbt : bt (mk8 l) 0 = c.toNat := bt_mk (by rw [← h0]; cases l <;> rfl)
  have e2 : (bt (mk8 l) 0 != 34) = false := by rw [hbt, h1]; rfl
  clear hbt
  have hfit : 1 + (dblQ l).length ≤ 30000 := by have := (dblQ_length l).2; omega
  have hfit2 : 1 + (dblQ l).length + 1 ≤ 30000 := by have := (dblQ_length l).2; omega
  have HA : Hid ((⟨#[34]⟩ : ByteArray) ++ mk8 (dblQ l) ++ ⟨#[34]⟩ = mk8 (34 :: dblQ l ++ [34])) := by
    show (mk8 [34] ++ mk8 (dblQ l)) ++ mk8 [34] = _
    rw [mk8_app, mk8_app]
    rfl
  obtain ⟨m, hmm⟩ : ∃ m, dblQ l = m := ⟨_, rfl⟩
  rw [hmm] at HR hfit hfit2 HA ⊢
  clear hmm hm
  go_enter Tryd.func36, Tryd.ntmps36
  go_wp2_with fail
  refine (HR.out _ (Below.refl _ _)).mono ?_
  rintro e w9 ⟨rfl, hb9⟩
  go_wp2_with fail
  go_ret
  exact ⟨by show _ = Ending.returned (.string (mk8 (34 :: m ++ [34]))); rw [← HA.out]; rfl, hb9⟩

set_option maxRecDepth 100000 in
set_option maxHeartbeats 2000000 in
theorem written_blank (l : List UInt8) (hl : l.length ≤ 10000) (W : World) (hm : MaxAt W) (c : UInt8) (h0 : l.head? = some c) (h1 : c ≠ 34) (h2 : l.any blk = true) : Calls Tryd.prog 36 #[.string (mk8 l)] W (Makes (strV (34 :: dblQ l ++ [34])) W) := by
  have HR := Lib.hid (fun w (h : Below W.heap.size W w) => replace_at l (by omega) w (hm.below h))
  have hgb := get_bt (mk8 l)
  have z1 : ((mk8 l).size : Int) = l.length := by rw [mk8_size]
  have z2 : (mk8 l).size = l.length := mk8_size l
  have e1 : l.isEmpty = false := by cases l with | nil => cases h0 | cons _ _ => rfl
  have z3 : 0 < (mk8 l).size := by rw [mk8_size]; cases l with | nil => cases h0 | cons _ _ => simp
  have hbt : bt (mk8 l) 0 = c.toNat := bt_mk (by rw [← h0]; cases l <;> rfl)
  have e2 : (bt (mk8 l) 0 != 34) = true := by
    have e0 : (bt (mk8 l) 0 == 34) = false := by rw [hbt]; exact (u8_eq (k := 34)).trans (by simpa using h1)
    rw [bne, e0]; rfl
  clear hbt
  have HC := Lib.hid (fun w => contains_any (mk8 l) ⟨#[32, 9]⟩ w (by decide) (by decide) cut_two (by rw [mk8_size]; omega))
  have hcb : Lib.containsAny (mk8 l).data.toList (⟨#[32, 9]⟩ : ByteArray).data.toList = l.any blk := contains_blk l
  rw [hcb, h2] at HC
  clear hcb
  have hfit : 1 + (dblQ l).length ≤ 30000 := by have := (dblQ_length l).2; omega
  have hfit2 : 1 + (dblQ l).length + 1 ≤ 30000 := by have := (dblQ_length l).2; omega
  have HA : Hid ((⟨#[34]⟩ : ByteArray) ++ mk8 (dblQ l) ++ ⟨#[34]⟩ = mk8 (34 :: dblQ l ++ [34])) := by
    show (mk8 [34] ++ mk8 (dblQ l)) ++ mk8 [34] = _
    rw [mk8_app, mk8_app]
    rfl
  obtain ⟨m, hmm⟩ : ∃ m, dblQ l = m := ⟨_, rfl⟩
  rw [hmm] at HR hfit hfit2 HA ⊢
  clear hmm hm
  go_enter Tryd.func36, Tryd.ntmps36
  go_wp2_with fail
  refine (HC.out _).mono ?_
  rintro e w1 ⟨rfl, hb1⟩
  have HB1 := Lib.hid (hb1)
  clear hb1
  go_wp2_with fail
  refine (HR.out _ HB1.out).mono ?_
  rintro e w9 ⟨rfl, hb9⟩
  go_wp2_with fail
  go_ret
  exact ⟨by show _ = Ending.returned (.string (mk8 (34 :: m ++ [34]))); rw [← HA.out]; rfl, HB1.out.trans (hb9.mono HB1.out.size)⟩

set_option maxRecDepth 100000 in
set_option maxHeartbeats 2000000 in
theorem written_holds (l : List UInt8) (hl : l.length ≤ 10000) (W : World) (hm : MaxAt W) (c : UInt8) (h0 : l.head? = some c) (h1 : c ≠ 34) (h2 : l.any blk = false) (h3 : oddF l = true) : Calls Tryd.prog 36 #[.string (mk8 l)] W (Makes (strV (34 :: dblQ l ++ [34])) W) := by
  have HR := Lib.hid (fun w (h : Below W.heap.size W w) => replace_at l (by omega) w (hm.below h))
  have hgb := get_bt (mk8 l)
  have z1 : ((mk8 l).size : Int) = l.length := by rw [mk8_size]
  have z2 : (mk8 l).size = l.length := mk8_size l
  have e1 : l.isEmpty = false := by cases l with | nil => cases h0 | cons _ _ => rfl
  have z3 : 0 < (mk8 l).size := by rw [mk8_size]; cases l with | nil => cases h0 | cons _ _ => simp
  have hbt : bt (mk8 l) 0 = c.toNat := bt_mk (by rw [← h0]; cases l <;> rfl)
  have e2 : (bt (mk8 l) 0 != 34) = true := by
    have e0 : (bt (mk8 l) 0 == 34) = false := by rw [hbt]; exact (u8_eq (k := 34)).trans (by simpa using h1)
    rw [bne, e0]; rfl
  clear hbt
  have HC := Lib.hid (fun w => contains_any (mk8 l) ⟨#[32, 9]⟩ w (by decide) (by decide) cut_two (by rw [mk8_size]; omega))
  have hcb : Lib.containsAny (mk8 l).data.toList (⟨#[32, 9]⟩ : ByteArray).data.toList = l.any blk := contains_blk l
  rw [hcb, h2] at HC
  clear hcb
  have HO := Lib.hid (fun w => holdsOn_any l (by omega) w)
  rw [h3] at HO
  have hfit : 1 + (dblQ l).length ≤ 30000 := by have := (dblQ_length l).2; omega
  have hfit2 : 1 + (dblQ l).length + 1 ≤ 30000 := by have := (dblQ_length l).2; omega
  have HA : Hid ((⟨#[34]⟩ : ByteArray) ++ mk8 (dblQ l) ++ ⟨#[34]⟩ = mk8 (34 :: dblQ l ++ [34])) := by
    show (mk8 [34] ++ mk8 (dblQ l)) ++ mk8 [34] = _
    rw [mk8_app, mk8_app]
    rfl
  obtain ⟨m, hmm⟩ : ∃ m, dblQ l = m := ⟨_, rfl⟩
  rw [hmm] at HR hfit hfit2 HA ⊢
  clear hmm hm
  go_enter Tryd.func36, Tryd.ntmps36
  go_wp2_with fail
  refine (HC.out _).mono ?_
  rintro e w1 ⟨rfl, hb1⟩
  have HB1 := Lib.hid (hb1)
  clear hb1
  go_wp2_with fail
  refine (HO.out _).mono ?_
  rintro e w2 ⟨rfl, hb2⟩
  have HB2 := Lib.hid (HB1.out.trans (hb2.mono HB1.out.size))
  clear hb2
  go_wp2_with fail
  refine (HR.out _ HB2.out).mono ?_
  rintro e w9 ⟨rfl, hb9⟩
  go_wp2_with fail
  go_ret
  exact ⟨by show _ = Ending.returned (.string (mk8 (34 :: m ++ [34]))); rw [← HA.out]; rfl, HB2.out.trans (hb9.mono HB2.out.size)⟩

set_option maxRecDepth 100000 in
set_option maxHeartbeats 2000000 in
theorem written_plain (l : List UInt8) (hl : l.length ≤ 10000) (W : World) (hm : MaxAt W) (c : UInt8) (h0 : l.head? = some c) (h1 : c ≠ 34) (h2 : l.any blk = false) (h3 : oddF l = false) : Calls Tryd.prog 36 #[.string (mk8 l)] W (Makes (strV (l)) W) := by
  have HR := Lib.hid (fun w (h : Below W.heap.size W w) => replace_at l (by omega) w (hm.below h))
  have hgb := get_bt (mk8 l)
  have z1 : ((mk8 l).size : Int) = l.length := by rw [mk8_size]
  have z2 : (mk8 l).size = l.length := mk8_size l
  have e1 : l.isEmpty = false := by cases l with | nil => cases h0 | cons _ _ => rfl
  have z3 : 0 < (mk8 l).size := by rw [mk8_size]; cases l with | nil => cases h0 | cons _ _ => simp
  have hbt : bt (mk8 l) 0 = c.toNat := bt_mk (by rw [← h0]; cases l <;> rfl)
  have e2 : (bt (mk8 l) 0 != 34) = true := by
    have e0 : (bt (mk8 l) 0 == 34) = false := by rw [hbt]; exact (u8_eq (k := 34)).trans (by simpa using h1)
    rw [bne, e0]; rfl
  clear hbt
  have HC := Lib.hid (fun w => contains_any (mk8 l) ⟨#[32, 9]⟩ w (by decide) (by decide) cut_two (by rw [mk8_size]; omega))
  have hcb : Lib.containsAny (mk8 l).data.toList (⟨#[32, 9]⟩ : ByteArray).data.toList = l.any blk := contains_blk l
  rw [hcb, h2] at HC
  clear hcb
  have HO := Lib.hid (fun w => holdsOn_any l (by omega) w)
  rw [h3] at HO
  have hfit : 1 + (dblQ l).length ≤ 30000 := by have := (dblQ_length l).2; omega
  have hfit2 : 1 + (dblQ l).length + 1 ≤ 30000 := by have := (dblQ_length l).2; omega
  have HA : Hid ((⟨#[34]⟩ : ByteArray) ++ mk8 (dblQ l) ++ ⟨#[34]⟩ = mk8 (34 :: dblQ l ++ [34])) := by
    show (mk8 [34] ++ mk8 (dblQ l)) ++ mk8 [34] = _
    rw [mk8_app, mk8_app]
    rfl
  obtain ⟨m, hmm⟩ : ∃ m, dblQ l = m := ⟨_, rfl⟩
  rw [hmm] at HR hfit hfit2 HA 
  clear hmm hm
  go_enter Tryd.func36, Tryd.ntmps36
  go_wp2_with fail
  refine (HC.out _).mono ?_
  rintro e w1 ⟨rfl, hb1⟩
  have HB1 := Lib.hid (hb1)
  clear hb1
  go_wp2_with fail
  refine (HO.out _).mono ?_
  rintro e w2 ⟨rfl, hb2⟩
  have HB2 := Lib.hid (HB1.out.trans (hb2.mono HB1.out.size))
  clear hb2
  go_wp2_with fail
  go_ret
  exact ⟨rfl, HB2.out⟩

theorem written_any (l : List UInt8) (hl : l.length ≤ 10000) (W : World) (hm : MaxAt W) : Calls Tryd.prog 36 #[.string (mk8 l)] W (Makes (strV (wrtL l)) W) := by
  unfold wrtL plainW
  cases l with
  | nil => exact written_nil [] hl W hm rfl
  | cons c r =>
    have h0 : (c :: r).head? = some c := rfl
    have hem : (c :: r).isEmpty = false := rfl
    rw [h0, hem]
    by_cases h1 : c = 34
    · have : (some c == some (34 : UInt8)) = true := by rw [h1]; rfl
      rw [this]
      exact written_quote (c :: r) hl W hm c rfl h1
    · have hf : (some c == some (34 : UInt8)) = false := by simpa using h1
      rw [hf]
      cases h2 : (c :: r).any blk with
      | true => exact written_blank (c :: r) hl W hm c rfl h1 h2
      | false =>
        cases h3 : oddF (c :: r) with
        | true => exact written_holds (c :: r) hl W hm c rfl h1 h2 h3
        | false => exact written_plain (c :: r) hl W hm c rfl h1 h2 h3
end Go.Proofs.YtejffadjakajcaaDoor
