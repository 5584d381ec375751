/- The document's reading of blanks, words and bytes. -/
import Derived.Test.YtjbaljibaejdgaaDoorRqSane
namespace Go.Proofs.YtjbaljibaejdgaaDoor
open Go.RowKit Go.PlainAid Go.Shelf

theorem blkN_cons_yes {c : UInt8} {r : List UInt8} (h : blk c = true) : blkN (c :: r) = 1 + blkN r := by
  unfold blkN; rw [List.takeWhile_cons_of_pos h, List.length_cons]; omega
theorem blkN_cons_no {c : UInt8} {r : List UInt8} (h : blk c = false) : blkN (c :: r) = 0 := by
  unfold blkN; rw [List.takeWhile_cons_of_neg (by simp [h])]; rfl
theorem wordN_cons_yes {c : UInt8} {r : List UInt8} (h : blk c = false) : wordN (c :: r) = 1 + wordN r := by
  unfold wordN; rw [List.takeWhile_cons_of_pos (by simp [h]), List.length_cons]; omega
theorem wordN_cons_no {c : UInt8} {r : List UInt8} (h : blk c = true) : wordN (c :: r) = 0 := by
  unfold wordN; rw [List.takeWhile_cons_of_neg (by simp [h])]; rfl

theorem rblank_any (c : Int) (w : World) : Calls Tryd.prog 23 #[.int .u8 c] w (Says (.bool (blkI c)) w) := by
  unfold blkI
  cases d1 : (c == 32) <;> cases d2 : (c == 9) <;>
    (go_enter Tryd.func23, Tryd.ntmps23; go_wp2_with fail; go_ret; exact ⟨rfl, rfl⟩)
set_option maxHeartbeats 2000000 in
theorem rletter_any (c : Int) (w : World) : Calls Tryd.prog 37 #[.int .u8 c] w (Says (.bool (letB c)) w) := by
  unfold letB
  cases d1 : decide (97 ≤ c) <;> cases d2 : decide (c ≤ 122) <;> cases d3 : decide (65 ≤ c) <;> cases d4 : decide (c ≤ 90) <;>
    (go_enter Tryd.func37, Tryd.ntmps37; go_wp2_with fail; go_ret; exact ⟨rfl, rfl⟩)
theorem rdigit_any (c : Int) (w : World) : Calls Tryd.prog 38 #[.int .u8 c] w (Says (.bool (digB c)) w) := by
  unfold digB
  cases d1 : decide (48 ≤ c) <;> cases d2 : decide (c ≤ 57) <;>
    (go_enter Tryd.func38, Tryd.ntmps38; go_wp2_with fail; go_ret; exact ⟨rfl, rfl⟩)

set_option maxRecDepth 100000 in
set_option maxHeartbeats 2000000 in
theorem skip_any (l : List UInt8) (k : Nat) (hk : k ≤ l.length) (hl : l.length ≤ 1000000) (w : World) : Calls Tryd.prog 22 #[.string (mk8 l), .int .i64 k] w (Says (.int .i64 ((k + blkN (l.drop k) : Nat))) w) := by
  obtain ⟨N, hN⟩ : ∃ N, k + blkN (l.drop k) = N := ⟨_, rfl⟩
  rw [hN]
  have HN := Lib.hid hN.symm
  have hgb := get_bt (mk8 l)
  have z1 : ((mk8 l).size : Int) = l.length := by rw [mk8_size]
  have z2 : (mk8 l).size = l.length := mk8_size l
  clear hN
  go_enter Tryd.func22, Tryd.ntmps22
  go_wp2_with fail
  go_loop [1] (fun i => ∃ j : Nat, j ≤ l.length ∧ i = .int .i64 j ∧ Hid (N = j + blkN (l.drop j))) (fun i => l.length - (intOf i).toNat)
  case atStart => exact ⟨k, hk, rfl, HN⟩
  case round =>
    obtain ⟨j, hj, rfl, hn⟩ := hrel
    by_cases hlt : j < l.length
    · obtain ⟨c, hc, hd⟩ := drop_cons hlt
      have hbt := bt_mk hc
      have HB := Lib.hid (rblank_any (bt (mk8 l) j) w)
      rw [hbt, blkI_u8, ← hbt] at HB
      have hjz : (j : Int) < l.length := by omega
      have hjs : j < (mk8 l).size := by omega
      have hn2 := hn.out
      rw [hd] at hn2
      cases hb : blk c with
      | true =>
        rw [hb] at HB
        have HS : Hid (N = (j + 1) + blkN (l.drop (j + 1))) := by show _ = _; rw [hn2, blkN_cons_yes hb]; omega
        clear hn hn2 hd hc hbt hb
        go_wp2_with fail
        refine HB.out.mono ?_
        rintro e w1 ⟨rfl, rfl⟩
        go_wp2_with fail
        go_round
        case rel => exact ⟨j + 1, by omega, by go_num, HS⟩
        case measure => simp [intOf]; omega
      | false =>
        rw [hb] at HB
        have HE : Hid (N = j) := by show _ = _; rw [hn2, blkN_cons_no hb]; omega
        clear hn hn2 hd hc hbt hb
        go_wp2_with fail
        refine HB.out.mono ?_
        rintro e w1 ⟨rfl, rfl⟩
        go_wp2_with fail
        go_ret
        exact ⟨by rw [HE.out]; rfl, rfl⟩
    · obtain rfl : j = l.length := by omega
      have HE : Hid (N = l.length) := by show _ = _; rw [hn.out, List.drop_length]; rfl
      clear hn
      go_wp2_with fail
      go_ret
      exact ⟨by rw [HE.out]; rfl, rfl⟩

set_option maxRecDepth 100000 in
set_option maxHeartbeats 2000000 in
theorem rword_any (l : List UInt8) (k : Nat) (hk : k ≤ l.length) (hl : l.length ≤ 1000000) (w : World) : Calls Tryd.prog 24 #[.string (mk8 l), .int .i64 k] w (Says (.int .i64 ((k + wordN (l.drop k) : Nat))) w) := by
  obtain ⟨N, hN⟩ : ∃ N, k + wordN (l.drop k) = N := ⟨_, rfl⟩
  rw [hN]
  have HN := Lib.hid hN.symm
  have hgb := get_bt (mk8 l)
  have z1 : ((mk8 l).size : Int) = l.length := by rw [mk8_size]
  have z2 : (mk8 l).size = l.length := mk8_size l
  clear hN
  go_enter Tryd.func24, Tryd.ntmps24
  go_wp2_with fail
  go_loop [1] (fun i => ∃ j : Nat, j ≤ l.length ∧ i = .int .i64 j ∧ Hid (N = j + wordN (l.drop j))) (fun i => l.length - (intOf i).toNat)
  case atStart => exact ⟨k, hk, rfl, HN⟩
  case round =>
    obtain ⟨j, hj, rfl, hn⟩ := hrel
    by_cases hlt : j < l.length
    · obtain ⟨c, hc, hd⟩ := drop_cons hlt
      have hbt := bt_mk hc
      have HB := Lib.hid (rblank_any (bt (mk8 l) j) w)
      rw [hbt, blkI_u8, ← hbt] at HB
      have hjz : (j : Int) < l.length := by omega
      have hjs : j < (mk8 l).size := by omega
      have hn2 := hn.out
      rw [hd] at hn2
      cases hb : blk c with
      | false =>
        rw [hb] at HB
        have HS : Hid (N = (j + 1) + wordN (l.drop (j + 1))) := by show _ = _; rw [hn2, wordN_cons_yes hb]; omega
        clear hn hn2 hd hc hbt hb
        go_wp2_with fail
        refine HB.out.mono ?_
        rintro e w1 ⟨rfl, rfl⟩
        go_wp2_with fail
        go_round
        case rel => exact ⟨j + 1, by omega, by go_num, HS⟩
        case measure => simp [intOf]; omega
      | true =>
        rw [hb] at HB
        have HE : Hid (N = j) := by show _ = _; rw [hn2, wordN_cons_no hb]; omega
        clear hn hn2 hd hc hbt hb
        go_wp2_with fail
        refine HB.out.mono ?_
        rintro e w1 ⟨rfl, rfl⟩
        go_wp2_with fail
        go_ret
        exact ⟨by rw [HE.out]; rfl, rfl⟩
    · obtain rfl : j = l.length := by omega
      have HE : Hid (N = l.length) := by show _ = _; rw [hn.out, List.drop_length]; rfl
      clear hn
      go_wp2_with fail
      go_ret
      exact ⟨by rw [HE.out]; rfl, rfl⟩

/-- How many bytes belong together, as the document asks it. -/
theorem togN_ask {l : List UInt8} {k : Nat} {c : UInt8} (hc : l[k]? = some c) : togN (l.drop k) = if c = 92 ∧ k + 1 < l.length then 2 else 1 := by
  obtain ⟨h1, h2⟩ := List.getElem?_eq_some_iff.1 hc
  have hd : l.drop k = c :: l.drop (k + 1) := by rw [List.drop_eq_getElem_cons h1, h2]
  have hl : (l.drop k).length = l.length - k := List.length_drop
  by_cases h : c = 92
  · subst h
    rw [togN_92 (by rw [hd]; rfl), hl]
    by_cases h3 : k + 1 < l.length
    · rw [if_pos ⟨rfl, h3⟩]; omega
    · rw [if_neg (fun h => h3 h.2)]; omega
  · rw [togN_no (by rw [hd]; rfl) h, if_neg (fun h2 => h h2.1)]
/-- What the tail of an argument is. -/
abbrev TailP (l : List UInt8) (k : Nat) (w : World) : Ending → World → Prop := Says (.tuple #[strV ((l.drop k).take (bareN (l.drop k))), .int .i64 ((k + bareN (l.drop k) : Nat))]) w

end Go.Proofs.YtjbaljibaejdgaaDoor
