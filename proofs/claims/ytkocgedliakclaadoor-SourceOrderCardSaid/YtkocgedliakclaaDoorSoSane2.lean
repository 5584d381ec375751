/- The law's fixed example, walked. -/
import Derived.Test.YtkocgedliakclaaDoorSoSane
namespace Go.Proofs.YtkocgedliakclaaDoor
open Go.RowKit Go.PlainAid Go.Maps Go.Shelf

theorem last_one {f : FrC} : ∀ (j : Nat) f', 0 < j → [f][j]? = some f' → isUnreadB f' = false := fun j f' hj h => by
  have := (List.getElem?_eq_some_iff.1 h).1
  simp at this
  omega
theorem last_two {f g : FrC} (hg : isUnreadB g = false) : ∀ (j : Nat) f', 0 < j → [f, g][j]? = some f' → isUnreadB f' = false := fun j f' hj h => by
  have h1 := (List.getElem?_eq_some_iff.1 h).1
  simp at h1
  obtain rfl : j = 1 := by omega
  injection h with h
  rw [← h]; exact hg
theorem last_snd {f g : FrC} : ∀ (j : Nat) f', 1 < j → [f, g][j]? = some f' → isUnreadB f' = false := fun j f' hj h => by
  have := (List.getElem?_eq_some_iff.1 h).1
  simp at this
  omega
theorem text_a : ((⟨#[97]⟩ : ByteArray).toList == (⟨#[97]⟩ : ByteArray).toList) = true := by simp

section
variable {B b : Nat} {S : Nat → Prop} {v : Value} {F : List FrC} {w : World}
/-- A block that is made beside a stack: the stack leaves it. -/
theorem SkAt.aside (h : SkAt B S b v F w) : SkAt B (fun k => S k ∧ k ≠ w.heap.size) b v F w :=
  h.both.mono (fun k hk => ⟨hk.1, by have := hk.2; omega⟩) (fun k hk => h.lo k hk.1)
end

set_option maxRecDepth 100000 in
set_option maxHeartbeats 8000000 in
theorem soSane_any (w : World) : Calls Tryd.prog 8 #[] w (Makes (.bool true) w) := by
  go_enter Tryd.func8, Tryd.ntmps8
  go_wp2_with fail
  refine (skNew_any w).mono ?_
  rintro e w1 ⟨b, rfl, hS1, hb1⟩
  have hF : Calls Tryd.prog 23 #[.pointer (some ⟨b, 0, none⟩), .string nmF, .string txAB] w1 (PutP w.heap.size (w.heap.size ≤ ·) b 0 [frF] w1) := by
    have h := skFile_ok hS1 (fun k hk => Nat.le_trans hb1.size hk) nmF txAB (by decide) canF cntAB goodAB (by decide)
    rw [txAB_lines] at h
    exact h
  have HF := Lib.hid hF
  have HB1 := Lib.hid hb1
  clear hF hS1 hb1
  go_wp2_with fail
  refine (HF.out).mono ?_
  rintro e w2 ⟨rfl, v2, hS2, hb2, _⟩
  have HN := Lib.hid (next_line hS2 (i := 0) (f := frF) (x := lnA) rfl rfl last_one)
  have HB2 := Lib.hid (HB1.out.trans hb2)
  clear hS2 hb2 HF
  go_wp2_with fail
  refine (HN.out).mono ?_
  rintro e w3 ⟨bv1, rfl, hx1, ⟨v3, hS3⟩, hb3, _⟩
  obtain ⟨z1, z2, rfl⟩ : ∃ z1 z2, bv1 = .slice z1 lnA.boxes.length z2 := by obtain ⟨_, _, rfl, _⟩ := hx1; exact ⟨_, _, rfl⟩
  have HB3 := Lib.hid (HB2.out.trans hb3)
  obtain ⟨W3, hW3⟩ : ∃ W3, W3 = (w3.alloc (.cells #[.string lnA.text, .bool lnA.made, .int .i64 lnA.up, .int .i64 lnA.down, .slice z1 lnA.boxes.length z2] 37)).alloc (.cells #[.string ⟨#[99]⟩, .bool false, .int .i64 0, .int .i64 0, .slice none 0 0] 37) := ⟨_, rfl⟩
  have hs3 := HB3.out.size
  have hsz : W3.heap.size = w3.heap.size + 2 := by rw [hW3]; simp
  have hbW : Below w3.heap.size w3 W3 := by rw [hW3]; exact ((Below.refl _ _).alloc (Nat.le_refl _) _).alloc (by simp) _
  have hXa : W3.heap[w3.heap.size]? = some (.cells #[.string lnA.text, .bool lnA.made, .int .i64 lnA.up, .int .i64 lnA.down, .slice z1 lnA.boxes.length z2] 37 (0, 0)) := by
    rw [hW3, Below.heap_alloc _ _ _ (by simp)]; exact heap_alloc_new w3 _
  have hXc : W3.heap[w3.heap.size + 1]? = some (.cells #[.string lnCc.text, .bool lnCc.made, .int .i64 lnCc.up, .int .i64 lnCc.down, .slice none 0 0] 37 (0, 0)) := by
    rw [hW3]
    have := heap_alloc_new (w3.alloc (.cells #[.string lnA.text, .bool lnA.made, .int .i64 lnA.up, .int .i64 lnA.down, .slice z1 lnA.boxes.length z2] 37)) (.cells #[.string ⟨#[99]⟩, .bool false, .int .i64 0, .int .i64 0, .slice none 0 0] 37)
    rwa [World.size_alloc] at this
  have hA := hS3.aside.below hbW
  have hrd : LinesRd (· < W3.heap.size) (.slice (some ⟨w3.heap.size + 1, 0, none⟩) [lnCc].length 1) [lnCc] W3 := one_rd hXc ⟨none, 0, rfl, Nat.zero_le _, 0, 0, fun h => absurd h (Nat.lt_irrefl _), fun i hi => absurd hi (Nat.not_lt_zero _)⟩ (by omega)
  have hM : Calls Tryd.prog 17 #[.pointer (some ⟨b, 0, none⟩), .string nmM, .slice (some ⟨w3.heap.size + 1, 0, none⟩) 1 1, .slice none 0 0] W3 (PutP w.heap.size (fun k => w.heap.size ≤ k ∧ k ≠ w3.heap.size) b 0 [frF.at 1, frM] W3) := by
    have h := skMacro_ok hA (fun k hk => ⟨by omega, by omega⟩) nmM _ 1 [lnCc] hrd fit1 none 0 [] (nil_strs _) (by decide) canM goodC1 (by rw [show upTo staysB (List.take 0 [frF] ++ [frF.at (frF.next + 1)]) = [frF.at 1] from up1]; decide)
    rw [show upTo staysB (List.take 0 [frF] ++ [frF.at (frF.next + 1)]) = [frF.at 1] from up1] at h
    exact h
  have HM := Lib.hid hM
  have HW3 := Lib.hid hW3
  have HXa := Lib.hid hXa
  have HBW := Lib.hid (HB3.out.trans (Below.mono hbW hs3))
  clear hS3 hx1 hb3 HN hA hM hrd hXa hXc hbW hW3 hsz
  go_wp2_with fail
  rw [← HW3.out]
  refine (HM.out).mono ?_
  rintro e w4 ⟨rfl, v4, hS4, hb4, ho4⟩
  have hXl : w3.heap.size < W3.heap.size := (Array.getElem?_eq_some_iff.1 HXa.out).1
  have HN4 := Lib.hid (next_line hS4 (i := 1) (f := frM) (x := lnCc) rfl rfl last_snd)
  have HB4 := Lib.hid (HBW.out.trans hb4)
  have HXa4 := Lib.hid ((ho4 _ hXl (fun e => e.2 rfl)).trans HXa.out)
  have hs4 := hb4.size
  clear hS4 hb4 ho4 HM HW3 HXa
  go_wp2_with fail
  refine (HN4.out).mono ?_
  rintro e w5 ⟨bv5, rfl, hx5, ⟨v5, hS5⟩, hb5, ho5⟩
  obtain ⟨y1, y2, rfl⟩ : ∃ y1 y2, bv5 = .slice y1 lnCc.boxes.length y2 := by obtain ⟨_, _, rfl, _⟩ := hx5; exact ⟨_, _, rfl⟩
  have hXl4 : w3.heap.size < w4.heap.size := by omega
  have HXa5 := Lib.hid ((ho5 _ hXl4 (fun e => e.2 rfl)).trans HXa4.out)
  have HB5 := Lib.hid (HB4.out.trans hb5)
  have hs5 := hb5.size
  obtain ⟨W5, hW5⟩ : ∃ W5, W5 = w5.alloc (.cells #[.string lnCc.text, .bool lnCc.made, .int .i64 lnCc.up, .int .i64 lnCc.down, .slice y1 lnCc.boxes.length y2] 37) := ⟨_, rfl⟩
  have hbW5 : Below w5.heap.size w5 W5 := by rw [hW5]; exact (Below.refl _ _).alloc (Nat.le_refl _) _
  have hYc : W5.heap[w5.heap.size]? = some (.cells #[.string lnCc.text, .bool lnCc.made, .int .i64 lnCc.up, .int .i64 lnCc.down, .slice y1 lnCc.boxes.length y2] 37 (0, 0)) := by rw [hW5]; exact heap_alloc_new w5 _
  have hS6 := hS5.aside.below hbW5
  have HN6 := Lib.hid (next_line hS6 (i := 0) (f := frF.at 1) (x := lnB) rfl rfl (last_two rfl))
  have HW5 := Lib.hid hW5
  have HYc := Lib.hid hYc
  have hXl5 : w3.heap.size < w5.heap.size := by omega
  have HXa6 := Lib.hid ((hbW5.block _ hXl5).trans HXa5.out)
  have hs6 := hbW5.size
  have hw5s : w.heap.size ≤ w5.heap.size := HB5.out.size
  have HB6 := Lib.hid (HB5.out.trans (Below.mono hbW5 hw5s))
  clear hS5 hx5 hb5 ho5 hS6 hbW5 hYc hW5 HN4
  go_wp2_with fail
  rw [← HW5.out]
  refine (HN6.out).mono ?_
  rintro e w7 ⟨bv7, rfl, hx7, ⟨v7, hS7⟩, hb7, ho7⟩
  obtain ⟨x1, x2, rfl⟩ : ∃ x1 x2, bv7 = .slice x1 lnB.boxes.length x2 := by obtain ⟨_, _, rfl, _⟩ := hx7; exact ⟨_, _, rfl⟩
  have hYl : w5.heap.size < W5.heap.size := (Array.getElem?_eq_some_iff.1 HYc.out).1
  have hXa7 := (ho7 _ (Nat.lt_of_lt_of_le hXl5 hs6) (fun e => e.1.2 rfl)).trans HXa6.out
  have hYc7 := (ho7 _ hYl (fun e => e.2 rfl)).trans HYc.out
  have xa : w7.cell? ⟨w3.heap.size, 0, none⟩ = some (.string ⟨#[97]⟩) := by simp [World.cell?, hXa7, lnA]
  have yc : w7.cell? ⟨w5.heap.size, 0, none⟩ = some (.string ⟨#[99]⟩) := by simp [World.cell?, hYc7, lnCc]
  have hx7l : w3.heap.size < w7.heap.size := (Array.getElem?_eq_some_iff.1 hXa7).1
  have hy7l : w5.heap.size < w7.heap.size := (Array.getElem?_eq_some_iff.1 hYc7).1
  have HB7 := Lib.hid (HB6.out.trans hb7)
  have hs7 := HB7.out.size
  have hlb : lnB.text = ⟨#[98]⟩ := rfl
  rw [hlb]
  clear hx7 hS7 hb7 ho7 hXa7 hYc7 HN6 hlb
  go_wp2_with fail
  go_ret
  exact ⟨rfl, HB7.out.alloc hs7 _⟩
end Go.Proofs.YtkocgedliakclaaDoor
