/- SourceDeep's walk. -/
import Derived.Test.YtkocgedliakclaaDoorSoSane2
namespace Go.Proofs.YtkocgedliakclaaDoor
open Go.RowKit Go.PlainAid Go.Maps Go.Shelf

theorem upTo_all {p : FrC → Bool} {F : List FrC} (h : ∀ f ∈ F, p f = true) : upTo p F = F := by
  rcases List.eq_nil_or_concat F with rfl | ⟨G, f, rfl⟩
  · rfl
  · have e := upTo_at (p := p) (F := G ++ [f]) (i := G.length) (f := f) (by rw [List.getElem?_append_right (Nat.le_refl _), Nat.sub_self]; rfl) (h f (by simp)) (fun j f' hj hf => by
      have := (List.getElem?_eq_some_iff.1 hf).1
      simp at this
      omega)
    rw [List.concat_eq_append, e, List.take_of_length_le (by simp)]
theorem upTo_drop {p : FrC → Bool} {F : List FrC} {g : FrC} (h : ∀ f ∈ F, p f = true) (hg : p g = false) : upTo p (F ++ [g]) = F := by
  have e : upTo p (F ++ [g]) = upTo p F := by
    unfold upTo
    rw [List.reverse_append, List.reverse_singleton, List.singleton_append, List.dropWhile_cons_of_pos (by simp [hg])]
  rw [e, upTo_all h]
theorem mod60 (a : Int) : ∃ n : Nat, wrap64 ((IntKind.u64.wrap a).tmod 60) = n ∧ n < 60 := by
  have hu : 0 ≤ IntKind.u64.wrap a := by rw [IntKind.wrap_u64]; omega
  have e : (IntKind.u64.wrap a).tmod 60 = IntKind.u64.wrap a % 60 := Int.tmod_eq_emod_of_nonneg hu
  have l0 := Int.emod_nonneg (IntKind.u64.wrap a) (show (60 : Int) ≠ 0 by omega)
  have l1 := Int.emod_lt_of_pos (IntKind.u64.wrap a) (show (0 : Int) < 60 by omega)
  rw [e, IntWalk.wrap64_in _ (by omega)]
  exact ⟨(IntKind.u64.wrap a % 60).toNat, (Int.toNat_of_nonneg l0).symm, by omega⟩

section
variable {B b : Nat} {S : Nat → Prop} {v : Value} {F : List FrC} {w : World}
theorem skDepth_any (h : SkAt B S b v F w) : Calls Tryd.prog 11 #[.pointer (some ⟨b, 0, none⟩)] w (Says (.int .i64 F.length) w) := by
  obtain ⟨ao, c, rfl, _, _⟩ := h.form
  have HN := Lib.hid (skNone_any h.cell0)
  have hc := h.cell1
  clear h
  go_enter Tryd.func11, Tryd.ntmps11
  go_wp2_with fail
  refine (HN.out).mono ?_
  rintro e w1 ⟨rfl, rfl⟩
  go_wp2_with fail
  go_ret
  exact ⟨rfl, rfl⟩
end

def lnX : LineC := ⟨⟨#[120]⟩, false, 0, 0, []⟩
def lnY : LineC := ⟨⟨#[121]⟩, false, 0, 0, []⟩
def frX : FrC := ⟨2, nmM, [lnX], 0, []⟩
def frY : FrC := ⟨3, ⟨#[]⟩, [lnY], 0, []⟩
theorem goodX : goodC [lnX] = true := by kernel_rfl
theorem goodY : goodC [lnY] = true := by kernel_rfl
theorem fitX : Fit [lnX] := ⟨fun x hx => by rw [List.mem_singleton.1 hx]; decide, by decide, fun x hx => by rw [List.mem_singleton.1 hx]; decide, fun x hx y hy => by rw [List.mem_singleton.1 hx] at hy; cases hy⟩
theorem fitY : Fit [lnY] := ⟨fun x hx => by rw [List.mem_singleton.1 hx]; decide, by decide, fun x hx => by rw [List.mem_singleton.1 hx]; decide, fun x hx y hy => by rw [List.mem_singleton.1 hx] at hy; cases hy⟩
theorem named_all (m : Nat) : ∀ f ∈ List.replicate m frX, staysB f = true := fun f hf => by rw [List.eq_of_mem_replicate hf]; rfl
/-- One line in a new row. -/
theorem new_line (w : World) (x : LineC) (hx : x.boxes = []) : LinesRd (· < (w.alloc (.cells #[.string x.text, .bool x.made, .int .i64 x.up, .int .i64 x.down, .slice none 0 0] 37)).heap.size) (.slice (some ⟨w.heap.size, 0, none⟩) [x].length 1) [x] (w.alloc (.cells #[.string x.text, .bool x.made, .int .i64 x.up, .int .i64 x.down, .slice none 0 0] 37)) := by
  refine one_rd (heap_alloc_new w _) ?_ (by simp)
  rw [hx]
  exact ⟨none, 0, rfl, Nat.zero_le _, 0, 0, fun h => absurd h (Nat.lt_irrefl _), fun i hi => absurd hi (Nat.not_lt_zero _)⟩

set_option maxRecDepth 100000 in
set_option maxHeartbeats 8000000 in
theorem deep_any (n : Int) (w : World) : Calls Tryd.prog 4 #[.int .i64 n] w (Makes (.bool true) w) := by
  obtain ⟨k, hk, hk60⟩ := mod60 n
  go_enter Tryd.func4, Tryd.ntmps4
  go_wp2_with fail
  refine (skNew_any w).mono ?_
  rintro e w1 ⟨b, rfl, hS1, hb1⟩
  have HS1 := Lib.hid (show ∃ v, SkAt w.heap.size (w.heap.size ≤ ·) b v (List.replicate (min 0 50) frX) w1 from ⟨_, hS1⟩)
  have HB1 := Lib.hid hb1
  clear hS1 hb1
  go_wp2_with fail
  simp only [hk]
  clear hk
  go_loopw [5, 6] (fun i _ wr => ∃ j : Nat, j ≤ k ∧ i = .int .i64 j ∧ Hid (∃ v, SkAt w.heap.size (w.heap.size ≤ ·) b v (List.replicate (min j 50) frX) wr) ∧ Hid (Below w.heap.size w wr)) (fun i _ _ => k - (intOf i).toNat)
  case atStart => exact ⟨0, by omega, rfl, HS1, HB1⟩
  case round =>
    obtain ⟨j, hj, rfl, hS, hb⟩ := hrel
    by_cases hlt : j < k
    · have hjz : (j : Int) < k := by omega
      have hjn : (0 : Int) ≤ j := by omega
      obtain ⟨v, hSv⟩ := hS.out
      have hal : Below wr.heap.size wr (wr.alloc (.cells #[.string lnX.text, .bool lnX.made, .int .i64 lnX.up, .int .i64 lnX.down, .slice none 0 0] 37)) := (Below.refl _ _).alloc (Nat.le_refl _) _
      have hup : upTo staysB (List.replicate (min j 50) frX) = List.replicate (min j 50) frX := upTo_all (named_all _)
      have HBa := Lib.hid (hb.out.trans (Below.mono hal hb.out.size))
      by_cases h50 : j < 50
      · have hM : Calls Tryd.prog 17 #[.pointer (some ⟨b, 0, none⟩), .string nmM, .slice (some ⟨wr.heap.size, 0, none⟩) 1 1, .slice none 0 0] (wr.alloc (.cells #[.string lnX.text, .bool lnX.made, .int .i64 lnX.up, .int .i64 lnX.down, .slice none 0 0] 37)) (PutP w.heap.size (w.heap.size ≤ ·) b 0 (List.replicate (min (j + 1) 50) frX) (wr.alloc (.cells #[.string lnX.text, .bool lnX.made, .int .i64 lnX.up, .int .i64 lnX.down, .slice none 0 0] 37))) := by
          have h := skMacro_ok (hSv.below hal) (fun q hq => Nat.le_trans HBa.out.size hq) nmM _ 1 [lnX] (new_line wr lnX rfl) fitX none 0 [] (nil_strs _) (by decide) canM goodX (by rw [hup, List.length_replicate]; omega)
          rw [hup] at h
          have e : List.replicate (min (j + 1) 50) frX = List.replicate (min j 50) frX ++ [frX] := by
            rw [show min (j + 1) 50 = min j 50 + 1 by omega, List.replicate_succ']
          rw [e]
          exact h
        have HM := Lib.hid hM
        have hjd : decide ((j : Int) < 50) = true := decide_eq_true (by omega)
        have hj50 : (j : Int) < 50 := by omega
        clear hM hSv hal hup hS HS1 hlt
        go_wp2_with fail
        refine (HM.out).mono ?_
        rintro e w4 ⟨rfl, v4, hS4, hb4, _⟩
        have HS4 := Lib.hid (show ∃ v, SkAt w.heap.size (w.heap.size ≤ ·) b v (List.replicate (min (j + 1) 50) frX) w4 from ⟨v4, hS4⟩)
        have HB4 := Lib.hid (HBa.out.trans hb4)
        clear hS4 hb4 HM
        go_wp2_with fail
        go_roundw
        case rel => exact ⟨j + 1, by omega, by go_num, HS4, HB4⟩
        case measure => simp only [intOf]; omega
      · have hM : Calls Tryd.prog 17 #[.pointer (some ⟨b, 0, none⟩), .string nmM, .slice (some ⟨wr.heap.size, 0, none⟩) 1 1, .slice none 0 0] (wr.alloc (.cells #[.string lnX.text, .bool lnX.made, .int .i64 lnX.up, .int .i64 lnX.down, .slice none 0 0] 37)) (PutP w.heap.size (w.heap.size ≤ ·) b 2 (List.replicate (min (j + 1) 50) frX) (wr.alloc (.cells #[.string lnX.text, .bool lnX.made, .int .i64 lnX.up, .int .i64 lnX.down, .slice none 0 0] 37))) := by
          have h := skMacro_full (hSv.below hal) (fun q hq => Nat.le_trans HBa.out.size hq) nmM _ 1 [lnX] (new_line wr lnX rfl) fitX none 0 [] (nil_strs _) (by decide) canM goodX (by rw [hup, List.length_replicate]; omega)
          rw [hup] at h
          rw [show min (j + 1) 50 = min j 50 by omega]
          exact h
        have HM := Lib.hid hM
        have hjd : decide ((j : Int) < 50) = false := decide_eq_false (by omega)
        have hj50 : ¬ ((j : Int) < 50) := by omega
        clear hM hSv hal hup hS HS1 hlt
        go_wp2_with fail
        refine (HM.out).mono ?_
        rintro e w4 ⟨rfl, v4, hS4, hb4, _⟩
        have HS4 := Lib.hid (show ∃ v, SkAt w.heap.size (w.heap.size ≤ ·) b v (List.replicate (min (j + 1) 50) frX) w4 from ⟨v4, hS4⟩)
        have HB4 := Lib.hid (HBa.out.trans hb4)
        clear hS4 hb4 HM
        go_wp2_with fail
        go_roundw
        case rel => exact ⟨j + 1, by omega, by go_num, HS4, HB4⟩
        case measure => simp only [intOf]; omega
    · obtain rfl : j = k := by omega
      obtain ⟨v, hSv⟩ := hS.out
      have HD := Lib.hid (skDepth_any hSv)
      rw [List.length_replicate] at HD
      by_cases h50 : 50 ≤ j
      · rw [show min j 50 = 50 by omega] at HD
        have hkz : (50 : Int) ≤ j := by omega
        clear hS HS1 hSv hlt
        go_wp2_with fail
        refine (HD.out).mono ?_
        rintro e w2 ⟨rfl, rfl⟩
        go_wp2_with fail
        all_goals
          refine (soSane_any _).mono ?_
          rintro e w3 ⟨rfl, hb3⟩
          go_wp2_with fail
          go_ret
          exact ⟨rfl, hb.out.trans (Below.mono hb3 hb.out.size)⟩
      · rw [show min j 50 = j by omega] at HD hSv
        have hkz : ¬ (50 : Int) ≤ j := by omega
        have hkz2 : ¬ (50 : Int) < j := by omega
        have HS2 := Lib.hid (show ∃ F v, SkAt w.heap.size (w.heap.size ≤ ·) b v F wr ∧ upTo staysB F = List.replicate j frX from ⟨_, v, hSv, upTo_all (named_all _)⟩)
        have HB2 := hb
        clear hS HS1 hSv hlt hb
        go_wp2_with fail
        refine (HD.out).mono ?_
        rintro e w2 ⟨rfl, rfl⟩
        go_wp2_with fail
        have hm : min (j : Int) 50 = j := by omega
        have hd : decide ((50 : Int) ≤ j) = false := decide_eq_false (by omega)
        simp only [hm, hd, bne_self_eq_false]
        clear hm hd
        obtain ⟨wo, hwo⟩ : ∃ wo, wo = wr := ⟨_, rfl⟩
        subst hwo
        go_loopw [7, 8, 9] (fun i _ _ wr => ∃ q : Nat, q ≤ 5 ∧ i = .int .i64 q ∧ Hid (∃ F v, SkAt w.heap.size (w.heap.size ≤ ·) b v F wr ∧ upTo staysB F = List.replicate j frX) ∧ Hid (Below w.heap.size w wr)) (fun i _ _ _ => 5 - (intOf i).toNat)
        case atStart => exact ⟨0, by omega, rfl, HS2, HB2⟩
        case round =>
          obtain ⟨q, hq, rfl, hS, hb⟩ := hrel
          by_cases hlt : q < 5
          · have hqz : (q : Int) < 5 := by omega
            obtain ⟨F, v, hSv, hup⟩ := hS.out
            have hal : Below wr.heap.size wr (wr.alloc (.cells #[.string lnY.text, .bool lnY.made, .int .i64 lnY.up, .int .i64 lnY.down, .slice none 0 0] 37)) := (Below.refl _ _).alloc (Nat.le_refl _) _
            have HBa := Lib.hid (hb.out.trans (Below.mono hal hb.out.size))
            have hW : Calls Tryd.prog 18 #[.pointer (some ⟨b, 0, none⟩), .slice (some ⟨wr.heap.size, 0, none⟩) 1 1] (wr.alloc (.cells #[.string lnY.text, .bool lnY.made, .int .i64 lnY.up, .int .i64 lnY.down, .slice none 0 0] 37)) (PutP w.heap.size (w.heap.size ≤ ·) b 0 (List.replicate j frX ++ [frY]) (wr.alloc (.cells #[.string lnY.text, .bool lnY.made, .int .i64 lnY.up, .int .i64 lnY.down, .slice none 0 0] 37))) := by
              have h := skWait_ok (hSv.below hal) (fun q hq => Nat.le_trans HBa.out.size hq) _ 1 [lnY] (new_line wr lnY rfl) fitY goodY (by rw [hup, List.length_replicate]; omega)
              rw [hup] at h
              exact h
            have HW := Lib.hid hW
            clear hW hSv hup hal hS HS2
            go_wp2_with fail
            refine (HW.out).mono ?_
            rintro e w4 ⟨rfl, v4, hS4, hb4, _⟩
            have hN : Calls Tryd.prog 19 #[.pointer (some ⟨b, 0, none⟩)] w4 (NextP w.heap.size (w.heap.size ≤ ·) b lnY (List.replicate j frX ++ [frY.at 1]) w4) := by
              have h := next_line hS4 (i := j) (f := frY) (x := lnY) (by rw [List.getElem?_append_right (by simp)]; simp) rfl (fun i f' hi h => by
                have := (List.getElem?_eq_some_iff.1 h).1
                simp at this
                omega)
              rw [List.take_append_of_le_length (by simp), List.take_of_length_le (by simp)] at h
              exact h
            have HN := Lib.hid hN
            have HB4 := Lib.hid (HBa.out.trans hb4)
            clear hS4 hb4 HW hN
            go_wp2_with fail
            refine (HN.out).mono ?_
            rintro e w5 ⟨bv, rfl, hx5, ⟨v5, hS5⟩, hb5, _⟩
            obtain ⟨y1, y2, rfl⟩ : ∃ y1 y2, bv = .slice y1 lnY.boxes.length y2 := by obtain ⟨_, _, rfl, _⟩ := hx5; exact ⟨_, _, rfl⟩
            have hal5 : Below w5.heap.size w5 (w5.alloc (.cells #[.string lnY.text, .bool lnY.made, .int .i64 lnY.up, .int .i64 lnY.down, .slice y1 lnY.boxes.length y2] 37)) := (Below.refl _ _).alloc (Nat.le_refl _) _
            have hS6 := hS5.below hal5
            have HD6 := Lib.hid (skDepth_any hS6)
            rw [List.length_append, List.length_replicate, List.length_singleton] at HD6
            have HS6 := Lib.hid (show ∃ F v, SkAt w.heap.size (w.heap.size ≤ ·) b v F (w5.alloc (.cells #[.string lnY.text, .bool lnY.made, .int .i64 lnY.up, .int .i64 lnY.down, .slice y1 lnY.boxes.length y2] 37)) ∧ upTo staysB F = List.replicate j frX from ⟨_, v5, hS6, upTo_drop (named_all _) rfl⟩)
            have hB5 := HB4.out.trans hb5
            have HB6 := Lib.hid (hB5.trans (Below.mono hal5 hB5.size))
            have hty : lnY.text = ⟨#[121]⟩ := rfl
            rw [hty] at HD6 HS6 HB6 ⊢
            clear hS5 hx5 hb5 hal5 hS6 hB5 HN hty
            go_wp2_with fail
            refine (HD6.out).mono ?_
            rintro e w6 ⟨rfl, rfl⟩
            go_wp2_with fail
            go_roundw
            case rel => exact ⟨q + 1, by omega, by go_num, HS6, HB6⟩
            case measure => simp only [intOf]; omega
          · obtain rfl : q = 5 := by omega
            go_wp2_with fail
            refine (soSane_any _).mono ?_
            rintro e w3 ⟨rfl, hb3⟩
            go_wp2_with fail
            go_ret
            exact ⟨rfl, hb.out.trans (Below.mono hb3 hb.out.size)⟩
end Go.Proofs.YtkocgedliakclaaDoor
