/- The document's reading of blanks, words and bytes. -/
import Derived.Test.YtejffadjakajcaaDoorRqSane
namespace Go.Proofs.YtejffadjakajcaaDoor
open Go.RowKit Go.PlainAid Go.Shelf

theorem blkN_cons_yes {c : UInt8} {r : List UInt8} (h : blk c = true) : blkN (c :: r) = 1 + blkN r := by
  unfold blkN; rw [List.takeWhile_cons_of_pos h, List.length_cons]; omega
theorem blkN_cons_no {c : UInt8} {r : List UInt8} (h : blk c = false) : blkN (c :: r) = 0 := by
  unfold blkN; rw [List.takeWhile_cons_of_neg (by simp [h])]; rfl
theorem wordN_cons_yes {c : UInt8} {r : List UInt8} (h : blk c = false) : wordN (c :: r) = 1 + wordN r := by
  unfold wordN; rw [List.takeWhile_cons_of_pos (by simp [h]), List.length_cons]; omega
theorem wordN_cons_no {c : UInt8} {r : List UInt8} (h : blk c = true) : wordN (c :: r) = 0 := by
  unfold wordN; rw [List.takeWhile_cons_of_neg (by simp [h])]; rfl

theorem rblank_any (c : Int) (w : World) : Calls Tryd.prog 52 #[.int .u8 c] w (Says (.bool (blkI c)) w) := by
  unfold blkI
  cases d1 : (c == 32) <;> cases d2 : (c == 9) <;>
    (go_enter Tryd.func52, Tryd.ntmps52; go_wp2_with fail; go_ret; exact ⟨rfl, rfl⟩)
set_option maxHeartbeats 2000000 in
theorem rletter_any (c : Int) (w : World) : Calls Tryd.prog 68 #[.int .u8 c] w (Says (.bool (letB c)) w) := by
  unfold letB
  cases d1 : decide (97 ≤ c) <;> cases d2 : decide (c ≤ 122) <;> cases d3 : decide (65 ≤ c) <;> cases d4 : decide (c ≤ 90) <;>
    (go_enter Tryd.func68, Tryd.ntmps68; go_wp2_with fail; go_ret; exact ⟨rfl, rfl⟩)
theorem rdigit_any (c : Int) (w : World) : Calls Tryd.prog 69 #[.int .u8 c] w (Says (.bool (digB c)) w) := by
  unfold digB
  cases d1 : decide (48 ≤ c) <;> cases d2 : decide (c ≤ 57) <;>
    (go_enter Tryd.func69, Tryd.ntmps69; go_wp2_with fail; go_ret; exact ⟨rfl, rfl⟩)

set_option maxRecDepth 100000 in
set_option maxHeartbeats 2000000 in
theorem skip_any (l : List UInt8) (k : Nat) (hk : k ≤ l.length) (hl : l.length ≤ 1000000) (w : World) : Calls Tryd.prog 25 #[.string (mk8 l), .int .i64 k] w (Says (.int .i64 ((k + blkN (l.drop k) : Nat))) w) := by
  obtain ⟨N, hN⟩ : ∃ N, k + blkN (l.drop k) = N := ⟨_, rfl⟩
  rw [hN]
  have HN := Lib.hid hN.symm
  have hgb := get_bt (mk8 l)
  have z1 : ((mk8 l).size : Int) = l.length := by rw [mk8_size]
  have z2 : (mk8 l).size = l.length := mk8_size l
  clear hN
  go_enter Tryd.func25, Tryd.ntmps25
  go_wp2_with fail
  go_loop [1] (fun i => ∃ j : Nat, j ≤ l.length ∧ i = .int .i64 j ∧ Hid (N = j + blkN (l.drop j))) (fun i => l.length - (intOf i).toNat)
  case atStart => exact ⟨k, hk, rfl, HN⟩
  case round =>
    obtain ⟨j, hj, rfl, hn⟩ := hrel
    by_cases hlt : j < l.length
    · obtain ⟨c, hc, hd⟩ := drop_cons hlt
      have hbt := bt_mk hc
      have HB := Lib.hid (rblank_any (bt (mk8 l) j) w)
      rw [hbt, blkI_u8, ← hbt] at HB
      have hjz : (j : Int) < l.length := by omega
      have hjs : j < (mk8 l).size := by omega
      have hn2 := hn.out
      rw [hd] at hn2
      cases hb : blk c with
      | true =>
        rw [hb] at HB
        have HS : Hid (N = (j + 1) + blkN (l.drop (j + 1))) := by show _ = _; rw [hn2, blkN_cons_yes hb]; omega
        clear hn hn2 hd hc hbt hb
        go_wp2_with fail
        refine HB.out.mono ?_
        rintro e w1 ⟨rfl, rfl⟩
        go_wp2_with fail
        go_round
        case rel => exact ⟨j + 1, by omega, by go_num, HS⟩
        case measure => simp [intOf]; omega
      | false =>
        rw [hb] at HB
        have HE : Hid (N = j) := by show _ = _; rw [hn2, blkN_cons_no hb]; omega
        clear hn hn2 hd hc hbt hb
        go_wp2_with fail
        refine HB.out.mono ?_
        rintro e w1 ⟨rfl, rfl⟩
        go_wp2_with fail
        go_ret
        exact ⟨by rw [HE.out]; rfl, rfl⟩
    · obtain rfl : j = l.length := by omega
      have HE : Hid (N = l.length) := by show _ = _; rw [hn.out, List.drop_length]; rfl
      clear hn
      go_wp2_with fail
      go_ret
      exact ⟨by rw [HE.out]; rfl, rfl⟩

set_option maxRecDepth 100000 in
set_option maxHeartbeats 2000000 in
theorem rword_any (l : List UInt8) (k : Nat) (hk : k ≤ l.length) (hl : l.length ≤ 1000000) (w : World) : Calls Tryd.prog 42 #[.string (mk8 l), .int .i64 k] w (Says (.int .i64 ((k + wordN (l.drop k) : Nat))) w) := by
  obtain ⟨N, hN⟩ : ∃ N, k + wordN (l.drop k) = N := ⟨_, rfl⟩
  rw [hN]
  have HN := Lib.hid hN.symm
  have hgb := get_bt (mk8 l)
  have z1 : ((mk8 l).size : Int) = l.length := by rw [mk8_size]
  have z2 : (mk8 l).size = l.length := mk8_size l
  clear hN
  go_enter Tryd.func42, Tryd.ntmps42
  go_wp2_with fail
  go_loop [1] (fun i => ∃ j : Nat, j ≤ l.length ∧ i = .int .i64 j ∧ Hid (N = j + wordN (l.drop j))) (fun i => l.length - (intOf i).toNat)
  case atStart => exact ⟨k, hk, rfl, HN⟩
  case round =>
    obtain ⟨j, hj, rfl, hn⟩ := hrel
    by_cases hlt : j < l.length
    · obtain ⟨c, hc, hd⟩ := drop_cons hlt
      have hbt := bt_mk hc
      have HB := Lib.hid (rblank_any (bt (mk8 l) j) w)
      rw [hbt, blkI_u8, ← hbt] at HB
      have hjz : (j : Int) < l.length := by omega
      have hjs : j < (mk8 l).size := by omega
      have hn2 := hn.out
      rw [hd] at hn2
      cases hb : blk c with
      | false =>
        rw [hb] at HB
        have HS : Hid (N = (j + 1) + wordN (l.drop (j + 1))) := by show _ = _; rw [hn2, wordN_cons_yes hb]; omega
        clear hn hn2 hd hc hbt hb
        go_wp2_with fail
        refine HB.out.mono ?_
        rintro e w1 ⟨rfl, rfl⟩
        go_wp2_with fail
        go_round
        case rel => exact ⟨j + 1, by omega, by go_num, HS⟩
        case measure => simp [intOf]; omega
      | true =>
        rw [hb] at HB
        have HE : Hid (N = j) := by show _ = _; rw [hn2, wordN_cons_no hb]; omega
        clear hn hn2 hd hc hbt hb
        go_wp2_with fail
        refine HB.out.mono ?_
        rintro e w1 ⟨rfl, rfl⟩
        go_wp2_with fail
        go_ret
        exact ⟨by rw [HE.out]; rfl, rfl⟩
    · obtain rfl : j = l.length := by omega
      have HE : Hid (N = l.length) := by show _ = _; rw [hn.out, List.drop_length]; rfl
      clear hn
      go_wp2_with fail
      go_ret
      exact ⟨by rw [HE.out]; rfl, rfl⟩

/-- How many bytes belong together, as the document asks it. -/
theorem togN_ask {l : List UInt8} {k : Nat} {c : UInt8} (hc : l[k]? = some c) : togN (l.drop k) = if c = 92 ∧ k + 1 < l.length then 2 else 1 := by
  obtain ⟨h1, h2⟩ := List.getElem?_eq_some_iff.1 hc
  have hd : l.drop k = c :: l.drop (k + 1) := by rw [List.drop_eq_getElem_cons h1, h2]
  have hl : (l.drop k).length = l.length - k := List.length_drop
  by_cases h : c = 92
  · subst h
    rw [togN_92 (by rw [hd]; rfl), hl]
    by_cases h3 : k + 1 < l.length
    · rw [if_pos ⟨rfl, h3⟩]; omega
    · rw [if_neg (fun h => h3 h.2)]; omega
  · rw [togN_no (by rw [hd]; rfl) h, if_neg (fun h2 => h h2.1)]
/-- What the tail of an argument is. -/
abbrev TailP (l : List UInt8) (k : Nat) (w : World) : Ending → World → Prop := Says (.tuple #[strV ((l.drop k).take (bareN (l.drop k))), .int .i64 ((k + bareN (l.drop k) : Nat))]) w

set_option maxRecDepth 100000 in
set_option maxHeartbeats 4000000 in
theorem tail_any (l : List UInt8) (k : Nat) (hk : k ≤ l.length) (hl : l.length ≤ 1000000) (w : World) : Calls Tryd.prog 26 #[.string (mk8 l), .int .i64 k] w (TailP l k w) := by
  obtain ⟨R, hR⟩ : ∃ R, (l.drop k).take (bareN (l.drop k)) = R := ⟨_, rfl⟩
  obtain ⟨N, hN⟩ : ∃ N, k + bareN (l.drop k) = N := ⟨_, rfl⟩
  unfold TailP
  rw [hR, hN]
  have HN : Hid (N = k + bareN (l.drop k) ∧ R = [] ++ (l.drop k).take (bareN (l.drop k))) := ⟨hN.symm, hR.symm⟩
  have hgb := get_bt (mk8 l)
  have z1 : ((mk8 l).size : Int) = l.length := by rw [mk8_size]
  have z2 : (mk8 l).size = l.length := mk8_size l
  clear hN hR
  go_enter Tryd.func26, Tryd.ntmps26
  go_wp2_with fail
  go_loop [1, 6, 7] (fun i o _ => ∃ (j : Nat) (O : List UInt8), j ≤ l.length ∧ i = .int .i64 j ∧ o = strV O ∧ O.length ≤ j ∧ Hid (N = j + bareN (l.drop j) ∧ R = O ++ (l.drop j).take (bareN (l.drop j)))) (fun i _ _ => l.length - (intOf i).toNat)
  case atStart => exact ⟨k, [], hk, rfl, rfl, by simp, HN⟩
  case round =>
    obtain ⟨j, O, hj, rfl, rfl, hO, hn⟩ := hrel
    by_cases hlt : j < l.length
    · obtain ⟨c, hc, hd⟩ := drop_cons hlt
      have hbt := bt_mk hc
      have hhd : (l.drop j).head? = some c := by rw [hd]; rfl
      have HB := Lib.hid (rblank_any (bt (mk8 l) j) w)
      rw [hbt, blkI_u8, ← hbt] at HB
      have hjz : (j : Int) < l.length := by omega
      have hjs : j < (mk8 l).size := by omega
      obtain ⟨n1, n2⟩ := hn.out
      cases hb : blk c with
      | true =>
        rw [hb] at HB
        have h0 : bareN (l.drop j) = 0 := bareN_stop (fun x hx => by rw [hhd] at hx; injection hx with hx; rw [← hx]; exact hb)
        have HE : Hid (N = j ∧ R = O) := by show _ ∧ _; rw [n1, n2, h0]; simp
        clear hn n1 n2 hd hc hbt hb h0 hhd
        go_wp2_with fail
        refine HB.out.mono ?_
        rintro e w1 ⟨rfl, rfl⟩
        go_wp2_with fail
        go_ret2
        exact ⟨by rw [HE.out.1, HE.out.2]; rfl, rfl⟩
      | false =>
        rw [hb] at HB
        have hst := bareN_step hhd hb
        have htg := togN_ask hc
        rw [List.drop_drop] at hst
        have htk : (l.drop j).take (bareN (l.drop j)) = (l.drop j).take (togN (l.drop j)) ++ (l.drop (j + togN (l.drop j))).take (bareN (l.drop (j + togN (l.drop j)))) := by
          rw [hst, List.take_add, List.drop_drop]
        have HM := Lib.hid (fun n => ext_mid l j n)
        have HS : Hid (N = (j + togN (l.drop j)) + bareN (l.drop (j + togN (l.drop j))) ∧ R = (O ++ (l.drop j).take (togN (l.drop j))) ++ (l.drop (j + togN (l.drop j))).take (bareN (l.drop (j + togN (l.drop j))))) :=
          ⟨by omega, by rw [n2, htk, List.append_assoc]⟩
        by_cases h92 : c = 92 ∧ j + 1 < l.length
        · rw [if_pos h92] at htg
          have e1 : (bt (mk8 l) j == 92) = true := by rw [hbt, h92.1]; rfl
          have e2 : decide ((j : Int) + 1 < l.length) = true := decide_eq_true (by omega)
          rw [htg] at HS
          have hlen : ((l.drop j).take 2).length ≤ 2 := by rw [List.length_take]; omega
          have HA : Hid (mk8 O ++ (mk8 l).extract j (j + 2) = mk8 (O ++ (l.drop j).take 2)) := by show _ = _; rw [HM.out 2, mk8_app]
          have hfit : O.length + (min (j + 2) l.length - j) ≤ 2000000 := by omega
          have hj2 : (j : Int) + 2 ≤ l.length := by omega
          have hjn : j + 2 ≤ l.length := by omega
          clear hn n1 n2 hd hc hbt hb hhd hst htg htk HM h92
          go_wp2_with fail
          refine HB.out.mono ?_
          rintro e w1 ⟨rfl, rfl⟩
          go_wp2_with fail
          rw [HA.out]
          go_round
          case rel => exact ⟨j + 2, _, hjn, by go_num, rfl, by simp only [List.length_append]; omega, HS⟩
          case measure => simp [intOf]; omega
        · rw [if_neg h92] at htg
          rw [htg] at HS
          have hlen : ((l.drop j).take 1).length ≤ 1 := by rw [List.length_take]; omega
          have HA : Hid (mk8 O ++ (mk8 l).extract j (j + 1) = mk8 (O ++ (l.drop j).take 1)) := by show _ = _; rw [HM.out 1, mk8_app]
          have hfit : O.length + (min (j + 1) l.length - j) ≤ 2000000 := by omega
          have hj2 : (j : Int) + 1 ≤ l.length := by omega
          cases e1 : (bt (mk8 l) j == 92) with
          | true =>
            have hc92 : c = 92 := by rw [hbt] at e1; exact eq_of_beq ((u8_eq (k := 92)).symm.trans e1)
            have e2 : decide ((j : Int) + 1 < l.length) = false := decide_eq_false (by intro h; exact h92 ⟨hc92, by omega⟩)
            clear hn n1 n2 hd hc hbt hb hhd hst htg htk HM h92
            go_wp2_with fail
            refine HB.out.mono ?_
            rintro e w1 ⟨rfl, rfl⟩
            go_wp2_with fail
            rw [HA.out]
            go_round
            case rel => exact ⟨j + 1, _, by omega, by go_num, rfl, by simp only [List.length_append]; omega, HS⟩
            case measure => simp [intOf]; omega
          | false =>
            clear hn n1 n2 hd hc hbt hb hhd hst htg htk HM h92
            go_wp2_with fail
            refine HB.out.mono ?_
            rintro e w1 ⟨rfl, rfl⟩
            go_wp2_with fail
            rw [HA.out]
            go_round
            case rel => exact ⟨j + 1, _, by omega, by go_num, rfl, by simp only [List.length_append]; omega, HS⟩
            case measure => simp [intOf]; omega
    · obtain rfl : j = l.length := by omega
      have HE : Hid (N = l.length ∧ R = O) := by
        obtain ⟨n1, n2⟩ := hn.out
        show _ ∧ _
        rw [n1, n2, List.drop_length]
        simp [bareN]
      clear hn
      go_wp2_with fail
      go_ret2
      exact ⟨by rw [HE.out.1, HE.out.2]; rfl, rfl⟩
end Go.Proofs.YtejffadjakajcaaDoor
