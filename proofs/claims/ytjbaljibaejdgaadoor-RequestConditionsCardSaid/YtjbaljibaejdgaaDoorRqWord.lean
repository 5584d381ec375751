/- One argument, read. -/
import Derived.Test.YtjbaljibaejdgaaDoorRqBuild
import Derived.Test.YtjbaljibaejdgaaDoorRqCut
import Derived.Shelf.Strings.Prefix
namespace Go.Proofs.YtjbaljibaejdgaaDoor
open Go.RowKit Go.PlainAid Go.Shelf

theorem ext_tail (l : List UInt8) (k : Nat) : (mk8 l).extract k l.length = mk8 (l.drop k) := by rw [mk8_ext, List.take_length]
theorem ext_mid (l : List UInt8) (k n : Nat) : (mk8 l).extract k (k + n) = mk8 ((l.drop k).take n) := by rw [mk8_ext, List.drop_take]; congr 2; omega
theorem drop_cons {l : List UInt8} {k : Nat} (h : k < l.length) : ∃ c, l[k]? = some c ∧ l.drop k = c :: l.drop (k + 1) := ⟨l[k], List.getElem?_eq_getElem h, List.drop_eq_getElem_cons h⟩
theorem togN_92 {l : List UInt8} (h : l.head? = some 92) : togN l = min 2 l.length := by
  match l, h with
  | [x], h => obtain rfl : x = 92 := Option.some.inj h; rfl
  | x :: d :: r, h => obtain rfl : x = 92 := Option.some.inj h; simp [togN]
theorem togN_no {l : List UInt8} {c : UInt8} (h : l.head? = some c) (hc : c ≠ 92) : togN l = 1 := by
  unfold togN
  split
  · rename_i q; simp at h; exact absurd h.symm hc
  · rfl
theorem u8_eq {c k : UInt8} : (((c.toNat : Nat) : Int) == ((k.toNat : Nat) : Int)) = (c == k) := (u8_beq c k).symm

set_option maxRecDepth 100000 in
theorem together_any (l : List UInt8) (c : UInt8) (h : l.head? = some c) (w : World) : Calls Tryd.prog 63 #[.string (mk8 l)] w (Says (.int .i64 (togN l)) w) := by
  have hgb := get_bt (mk8 l)
  have z1 : ((mk8 l).size : Int) = l.length := by rw [mk8_size]
  have hl : 0 < l.length := by cases l with | nil => cases h | cons _ _ => simp
  have z2 : 0 < (mk8 l).size := by rw [mk8_size]; exact hl
  have hb : bt (mk8 l) 0 = c.toNat := bt_mk (by rw [← h]; cases l <;> rfl)
  by_cases hc : c = 92
  · subst hc
    have HT : Hid (min (2 : Int) l.length = togN l) := by show _ = _; rw [togN_92 h]; omega
    have hb : bt (mk8 l) 0 = 92 := hb
    go_enter Tryd.func63, Tryd.ntmps63
    go_wp2_with fail
    go_ret
    exact ⟨by rw [← HT.out]; rfl, rfl⟩
  · rw [togN_no h hc]
    have hne : (bt (mk8 l) 0 == 92) = false := by
      rw [hb]
      exact (u8_eq (k := 92)).trans (by simpa using hc)
    clear hb
    go_enter Tryd.func63, Tryd.ntmps63
    go_wp2_with fail
    go_ret
    exact ⟨rfl, rfl⟩

set_option maxRecDepth 100000 in
set_option maxHeartbeats 2000000 in
theorem bareSize_any (l : List UInt8) (hl : l.length ≤ 1000000) (w : World) : Calls Tryd.prog 51 #[.string (mk8 l)] w (Says (.int .i64 (bareN l)) w) := by
  have hgb := get_bt (mk8 l)
  have z1 : ((mk8 l).size : Int) = l.length := by rw [mk8_size]
  have z2 : (mk8 l).size = l.length := mk8_size l
  obtain ⟨N, hN⟩ : ∃ N, bareN l = N := ⟨_, rfl⟩
  have H0 : Hid (N = 0 + bareN (l.drop 0)) := by show _ = _; rw [List.drop_zero, hN, Nat.zero_add]
  rw [hN]
  clear hN
  go_enter Tryd.func51, Tryd.ntmps51
  go_wp2_with fail
  go_loop [3] (fun i => ∃ k : Nat, k ≤ l.length ∧ i = .int .i64 k ∧ Hid (N = k + bareN (l.drop k))) (fun i => l.length - (intOf i).toNat)
  case atStart => exact ⟨0, by omega, rfl, H0⟩
  case round =>
    obtain ⟨k, hk, rfl, hn⟩ := hrel
    by_cases hlt : k < l.length
    · obtain ⟨c, hc, hd⟩ := drop_cons hlt
      have hbt := bt_mk hc
      have hhd : (l.drop k).head? = some c := by rw [hd]; rfl
      have HB := Lib.hid (blank_any (bt (mk8 l) k) w)
      rw [hbt, blkI_u8, ← hbt] at HB
      have hkz : (k : Int) < l.length := by omega
      have hks : k < (mk8 l).size := by omega
      cases hbk : blk c with
      | true =>
        rw [hbk] at HB
        have HE : Hid (N = k) := by
          show _ = _
          rw [hn.out, bareN_stop (fun x hx => by rw [hhd] at hx; injection hx with hx; rw [← hx]; exact hbk), Nat.add_zero]
        clear hn hbk hd hhd hbt hc
        go_wp2_with fail
        refine HB.out.mono ?_
        rintro e w1 ⟨rfl, rfl⟩
        go_wp2_with fail
        go_ret
        exact ⟨by rw [HE.out]; rfl, rfl⟩
      | false =>
        rw [hbk] at HB
        have HT := Lib.hid (together_any (l.drop k) c hhd w)
        rw [← ext_tail] at HT
        obtain ⟨t1, t2⟩ := togN_le (l := l.drop k) (by rw [hd]; simp)
        rw [List.length_drop] at t2
        have HS : Hid (N = (k + togN (l.drop k)) + bareN (l.drop (k + togN (l.drop k)))) := by
          show _ = _
          have h2 := bareN_step hhd hbk
          rw [List.drop_drop] at h2
          have h3 := hn.out
          omega
        obtain ⟨t, ht⟩ : ∃ t, togN (l.drop k) = t := ⟨_, rfl⟩
        rw [ht] at HT HS t1 t2
        clear hn hbk hd hhd hbt hc ht
        go_wp2_with fail
        refine HB.out.mono ?_
        rintro e w1 ⟨rfl, rfl⟩
        go_wp2_with fail
        refine HT.out.mono ?_
        rintro e w1 ⟨rfl, rfl⟩
        go_wp2_with fail
        go_round
        case rel => exact ⟨k + t, by omega, by go_num, HS⟩
        case measure => simp [intOf]; omega
    · obtain rfl : k = l.length := by omega
      have HE : Hid (N = l.length) := by show _ = _; have := hn.out; rw [List.drop_length] at this; exact this
      clear hn
      go_wp2_with fail
      go_ret
      exact ⟨by rw [HE.out]; rfl, rfl⟩
end Go.Proofs.YtjbaljibaejdgaaDoor
