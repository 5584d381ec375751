/- What stands in quotes, read; the argument at the front. -/
import Derived.Test.YtjbaljibaejdgaaDoorRqWord
namespace Go.Proofs.YtjbaljibaejdgaaDoor
open Go.RowKit Go.PlainAid Go.Shelf

theorem quot_nil : quotL [] = ([], 0) := rfl
theorem quot_dd (r : List UInt8) : quotL (34 :: 34 :: r) = (34 :: (quotL r).1, 2 + (quotL r).2) := by conv => lhs; unfold quotL; simp
theorem quot_close {m : List UInt8} (h : m.head? ≠ some 34) : quotL (34 :: m) = ([], 1) := by
  match m, h with
  | [], _ => simp [quotL]
  | d :: r, h => have : d ≠ 34 := fun e => h (by rw [e]; rfl); conv => lhs; unfold quotL; simp [this]
theorem quot_step {m : List UInt8} {c : UInt8} (h : m.head? = some c) (hc : c ≠ 34) : quotL m = (m.take (togN m) ++ (quotL (m.drop (togN m))).1, togN m + (quotL (m.drop (togN m))).2) := by
  match m, h with
  | [x], h =>
    obtain rfl : x = c := Option.some.inj h
    have h1 : togN [x] = 1 := by unfold togN; split <;> simp_all
    rw [h1]
    simp [quotL, hc]
  | x :: d :: r, h =>
    obtain rfl : x = c := Option.some.inj h
    by_cases e : x = 92
    · subst e
      have h1 : togN (92 :: d :: r) = 2 := rfl
      rw [h1]
      conv => lhs; unfold quotL
      simp
    · rw [togN_no rfl e]
      conv => lhs; unfold quotL
      simp [hc, e]
theorem pre_two {m : List UInt8} : Lib.hasPrefix m [34, 34] = true → ∃ r, m = 34 :: 34 :: r := by
  intro h
  unfold Lib.hasPrefix at h
  match m, h with
  | [], h => simp at h
  | [x], h => simp at h
  | x :: y :: r, h =>
    simp at h
    exact ⟨r, by rw [← h.1, ← h.2]⟩
theorem pre_not {m : List UInt8} (h : Lib.hasPrefix (34 :: m) [34, 34] = false) : m.head? ≠ some 34 := by
  intro e
  match m, e with
  | x :: r, e =>
    obtain rfl : x = 34 := Option.some.inj e
    simp [Lib.hasPrefix] at h
theorem hasPre_any (l : List UInt8) (w : World) : Calls Tryd.prog 60 #[.string (mk8 l), .string ⟨#[34, 34]⟩] w (Says (.bool (Lib.hasPrefix l [34, 34])) w) :=
  (Any.strings_HasPrefix Tryd.prefixL (mk8 l) ⟨#[34, 34]⟩ w).mono fun _ _ h => ⟨h.1, h.2.symm⟩

/-- Read so far behind the quote at the front. -/
structure QAt (B : Nat) (r acc : List UInt8) (k : Nat) (W w : World) : Prop where
  eq : quotL r = (acc ++ (quotL (r.drop (k - 1))).1, (k - 1) + (quotL (r.drop (k - 1))).2)
  len : acc.length ≤ k
  own : IsB B B acc w
  bel : Below B W w
theorem drop_behind (q : UInt8) (r : List UInt8) {k : Nat} (h : 1 ≤ k) : (q :: r).drop k = r.drop (k - 1) := by
  obtain ⟨j, rfl⟩ : ∃ j, k = j + 1 := ⟨k - 1, by omega⟩
  simp

set_option maxRecDepth 100000 in
set_option maxHeartbeats 4000000 in
theorem quoted_any (q : UInt8) (r : List UInt8) (hl : (q :: r).length ≤ 1000000) (w : World) :
    Calls Tryd.prog 50 #[.string (mk8 (q :: r))] w (Makes (.tuple #[.string (mk8 (quotL r).1), .int .i64 ((1 + (quotL r).2 : Nat))]) w) := by
  obtain ⟨l, hL⟩ : ∃ l, q :: r = l := ⟨_, rfl⟩
  have hlen : l.length = r.length + 1 := by rw [← hL]; rfl
  have HD : Hid (∀ k, 1 ≤ k → l.drop k = r.drop (k - 1)) := fun k hk => by rw [← hL]; exact drop_behind q r hk
  have HLen := Lib.hid hlen
  rw [hL] at hl ⊢
  clear hL hlen
  have hgb := get_bt (mk8 l)
  have z1 : ((mk8 l).size : Int) = l.length := by rw [mk8_size]
  have z2 : (mk8 l).size = l.length := mk8_size l
  have hb0 : Below w.heap.size w (w.alloc (.cells #[.pointer none, .slice none 0 0] 75)) := (Below.refl _ _).alloc (Nat.le_refl _) _
  have H0 : Hid (QAt w.heap.size r [] 1 w (w.alloc (.cells #[.pointer none, .slice none 0 0] 75))) :=
    ⟨by simp, by simp, isB_new w, hb0⟩
  clear hb0
  go_enter Tryd.func50, Tryd.ntmps50
  go_wp2_with fail
  go_loopw [3] (fun i wr => ∃ (k : Nat) (acc : List UInt8), 1 ≤ k ∧ k ≤ l.length ∧ i = .int .i64 k ∧ Hid (QAt w.heap.size r acc k w wr)) (fun i _ => l.length - (intOf i).toNat)
  case atStart => exact ⟨1, [], by omega, by rw [HLen.out]; omega, rfl, H0⟩
  case round =>
    obtain ⟨k, acc, hk1, hk, rfl, hq⟩ := hrel
    by_cases hlt : k < l.length
    · obtain ⟨c, hc, hd⟩ := drop_cons hlt
      have hbt := bt_mk hc
      have hhd : (l.drop k).head? = some c := by rw [hd]; rfl
      have HP := Lib.hid (hasPre_any (l.drop k) wr)
      rw [← ext_tail] at HP
      have hkz : (k : Int) < l.length := by omega
      have hks : k < (mk8 l).size := by omega
      have hacc : acc.length + 3 ≤ 140737488355328 := by have := hq.out.len; omega
      have hBs := hq.out.bel.size
      cases hp : Lib.hasPrefix (l.drop k) [34, 34] with
      | true =>
        rw [hp] at HP
        obtain ⟨r', hr'⟩ := pre_two hp
        have hlen2 : k + 2 ≤ l.length := by
          have := congrArg List.length hr'
          rw [List.length_drop] at this
          simp at this
          omega
        have HW := Lib.hid (writeByte_at w.heap.size w.heap.size acc 34 wr hq.out.own (by omega) hBs)
        have HN : Hid (∀ w', IsB w.heap.size w.heap.size (acc ++ [34]) w' → Below w.heap.size wr w' → QAt w.heap.size r (acc ++ [34]) (k + 2) w w') := fun w' h1 h2 => by
          refine ⟨?_, ?_, h1, hq.out.bel.trans h2⟩
          · rw [hq.out.eq, ← HD.out k hk1, hr', quot_dd]
            have : r.drop (k + 2 - 1) = r' := by
              have h3 := congrArg (List.drop 2) hr'
              rw [List.drop_drop] at h3
              rw [← HD.out (k + 2) (by omega)]
              exact h3
            rw [this]
            refine Prod.ext ?_ ?_
            · simp
            · show _ + (2 + _) = _; omega
          · have := hq.out.len; simp; omega
        clear hp hq hd hhd hbt hc hr'
        go_wp2_with fail
        refine HP.out.mono ?_
        rintro e w1 ⟨rfl, rfl⟩
        go_wp2_with fail
        refine HW.out.mono ?_
        rintro e w1 ⟨rfl, h1, h2⟩
        have HQ := Lib.hid (HN.out w1 h1 h2)
        clear h1 h2
        go_wp2_with fail
        go_roundw
        case rel => exact ⟨k + 2, _, by omega, by omega, by go_num, HQ⟩
        case measure => simp only [intOf]; omega
      | false =>
        rw [hp] at HP
        by_cases hc34 : c = 34
        · subst hc34
          have hne : (bt (mk8 l) k == 34) = true := by rw [hbt]; rfl
          have HE : Hid (quotL r = (acc, k)) := by
            show _ = _
            rw [hd] at hp
            rw [hq.out.eq, ← HD.out k hk1, hd, quot_close (pre_not hp)]
            refine Prod.ext (by simp) ?_
            show k - 1 + 1 = k
            omega
          have HS := Lib.hid (string_at w.heap.size w.heap.size acc wr hq.out.own hBs)
          have HB := Lib.hid hq.out.bel
          clear hp hq hd hhd hbt hc
          go_wp2_with fail
          refine HP.out.mono ?_
          rintro e w1 ⟨rfl, rfl⟩
          go_wp2_with fail
          refine HS.out.mono ?_
          rintro e w1 ⟨rfl, h2⟩
          go_wp2_with fail
          go_ret2
          refine ⟨?_, HB.out.trans h2⟩
          rw [HE.out, show ((1 + (acc, k).2 : Nat) : Int) = (k : Int) + 1 from by show ((1 + k : Nat) : Int) = _; omega]
          rfl
        · have hne : (bt (mk8 l) k == 34) = false := by rw [hbt]; exact (u8_eq (k := 34)).trans (by simpa using hc34)
          have HT := Lib.hid (together_any (l.drop k) c hhd wr)
          rw [← ext_tail] at HT
          obtain ⟨t1, t2⟩ := togN_le (l := l.drop k) (by rw [hd]; simp)
          rw [List.length_drop] at t2
          obtain ⟨t, ht⟩ : ∃ t, togN (l.drop k) = t := ⟨_, rfl⟩
          have HW := Lib.hid (write_at w.heap.size w.heap.size acc ((l.drop k).take t) wr hq.out.own (by
            have : ((l.drop k).take t).length ≤ l.length := by rw [List.length_take, List.length_drop]; omega
            have := hq.out.len
            omega) hBs)
          rw [← ext_mid] at HW
          have HN : Hid (∀ w', IsB w.heap.size w.heap.size (acc ++ (l.drop k).take t) w' → Below w.heap.size wr w' → QAt w.heap.size r (acc ++ (l.drop k).take t) (k + t) w w') := fun w' h1 h2 => by
            refine ⟨?_, ?_, h1, hq.out.bel.trans h2⟩
            · rw [hq.out.eq, ← HD.out k hk1, quot_step hhd hc34, ht, ← HD.out (k + t) (by omega), List.drop_drop]
              refine Prod.ext ?_ ?_
              · simp
              · show _ + (t + _) = _; omega
            · have h3 := hq.out.len
              have h4 : ((l.drop k).take t).length ≤ t := by rw [List.length_take]; omega
              simp only [List.length_append]; omega
          rw [ht] at HT t1 t2
          have hktz : (k : Int) + t ≤ l.length := by omega
          clear hp hq hd hhd hbt hc ht
          go_wp2_with fail
          refine HP.out.mono ?_
          rintro e w1 ⟨rfl, rfl⟩
          go_wp2_with fail
          refine HT.out.mono ?_
          rintro e w1 ⟨rfl, rfl⟩
          go_wp2_with fail
          refine HW.out.mono ?_
          rintro e w1 ⟨rfl, h1, h2⟩
          have HQ := Lib.hid (HN.out w1 h1 h2)
          clear h1 h2
          go_wp2_with fail
          go_roundw
          case rel => exact ⟨k + t, _, by omega, by omega, by go_num, HQ⟩
          case measure => simp only [intOf]; omega
    · obtain rfl : k = l.length := by omega
      have HE : Hid (quotL r = (acc, l.length - 1)) := by
        show _ = _
        have h1 := hq.out.eq
        rw [← HD.out l.length hk1, List.drop_length, quot_nil] at h1
        rw [h1]
        exact Prod.ext (by simp) rfl
      have HS := Lib.hid (string_at w.heap.size w.heap.size acc wr hq.out.own hq.out.bel.size)
      have HB := Lib.hid hq.out.bel
      clear hq
      go_wp2_with fail
      refine HS.out.mono ?_
      rintro e w1 ⟨rfl, h2⟩
      go_wp2_with fail
      go_ret2
      refine ⟨?_, HB.out.trans h2⟩
      rw [HE.out, show ((1 + (acc, l.length - 1).2 : Nat) : Int) = (l.length : Int) from by show ((1 + (l.length - 1) : Nat) : Int) = _; omega]
      rfl

set_option maxRecDepth 100000 in
set_option maxHeartbeats 2000000 in
theorem first_any (l : List UInt8) (hl : l.length ≤ 1000000) (hn : l ≠ []) (w : World) :
    Calls Tryd.prog 36 #[.string (mk8 l)] w (Makes (.tuple #[.string (mk8 (firstL l).1), .int .i64 (firstL l).2]) w) := by
  obtain ⟨c, r, rfl⟩ : ∃ c r, l = c :: r := by cases l with | nil => exact absurd rfl hn | cons c r => exact ⟨c, r, rfl⟩
  clear hn
  have hbt : bt (mk8 (c :: r)) 0 = c.toNat := bt_mk rfl
  by_cases hc : c = 34
  · subst hc
    have hf : firstL (34 :: r) = ((quotL r).1 ++ (r.drop (quotL r).2).take (bareN (r.drop (quotL r).2)), 1 + (quotL r).2 + bareN (r.drop (quotL r).2)) := by conv => lhs; unfold firstL; simp
    have HQ := Lib.hid (quoted_any 34 r hl w)
    obtain ⟨q1, q2⟩ := quotL_le r
    rw [hf]
    obtain ⟨⟨p, n⟩, hq⟩ : ∃ x, quotL r = x := ⟨_, rfl⟩
    rw [hq] at HQ q1 q2 ⊢
    have q1 : n ≤ r.length := q1
    have q2 : p.length ≤ n := q2
    have hlr : (34 :: r).length = r.length + 1 := rfl
    have hdr : (34 :: r).drop (1 + n) = r.drop n := by rw [Nat.add_comm]; rfl
    have HS := Lib.hid (fun w' => bareSize_any ((34 :: r).drop (1 + n)) (by rw [List.length_drop]; omega) w')
    have hbn := bareN_le ((34 :: r).drop (1 + n))
    rw [hdr] at hbn
    rw [List.length_drop] at hbn
    have HM := Lib.hid (ext_mid (34 :: r) (1 + n) (bareN ((34 :: r).drop (1 + n))))
    rw [← ext_tail] at HS
    rw [hdr] at HS HM
    obtain ⟨m, hm⟩ : ∃ m, bareN (r.drop n) = m := ⟨_, rfl⟩
    show Calls _ _ _ _ (Makes (.tuple #[.string (mk8 (p ++ (r.drop n).take (bareN (r.drop n)))), .int .i64 ((1 + n + bareN (r.drop n) : Nat))]) w)
    rw [hm] at HS HM hbn ⊢
    have HM2 : Hid (mk8 p ++ (mk8 (34 :: r)).extract (1 + n) (1 + n + m) = mk8 (p ++ (r.drop n).take m)) := by
      show _ = _
      rw [HM.out]
      exact mk8_app _ _
    obtain ⟨l, hL⟩ : ∃ l, 34 :: r = l := ⟨_, rfl⟩
    rw [hL] at HQ HS HM HM2 hbt hlr hl ⊢
    have hgb := get_bt (mk8 l)
    have hbt : bt (mk8 l) 0 = 34 := hbt
    have z1 : ((mk8 l).size : Int) = l.length := by rw [mk8_size]
    have z2 : (mk8 l).size = l.length := mk8_size l
    have z3 : 0 < (mk8 l).size := by omega
    obtain ⟨N, hN⟩ : ∃ N : Nat, 1 + n = N := ⟨_, rfl⟩
    have zp : p.length + (min (N + m) l.length - N) ≤ 3000000 := by omega
    have z4 : (N : Int) ≤ l.length := by omega
    have z5 : (N : Int) + m ≤ l.length := by omega
    have HQ : Hid (Calls Tryd.prog 50 #[.string (mk8 l)] w (Makes (.tuple #[.string (mk8 p), .int .i64 (N : Nat)]) w)) := by rw [← hN]; exact HQ.out
    rw [hN] at HS HM HM2
    have HR : Hid (((1 + n + m : Nat) : Int) = (N : Int) + m) := by show _ = _; omega
    clear hq q1 q2 hm hL hdr hN hbn hlr HM
    go_enter Tryd.func36, Tryd.ntmps36
    go_wp2_with fail
    refine HQ.out.mono ?_
    rintro e w1 ⟨rfl, h1⟩
    go_wp2_with fail
    refine (HS.out w1).mono ?_
    rintro e w2 ⟨rfl, rfl⟩
    go_wp2_with fail
    go_ret2
    refine ⟨?_, h1⟩
    rw [HR.out, ← HM2.out]
    rfl
  · have hf : firstL (c :: r) = ((c :: r).take (bareN (c :: r)), bareN (c :: r)) := by conv => lhs; unfold firstL; simp [hc]
    rw [hf]
    have hne : (bt (mk8 (c :: r)) 0 == 34) = false := by rw [hbt]; exact (u8_eq (k := 34)).trans (by simpa using hc)
    have hbn := bareN_le (c :: r)
    have hpos : 0 < (c :: r).length := by simp
    have HS := Lib.hid (fun w' => bareSize_any ((c :: r).drop 0) hl w')
    rw [← ext_tail, List.drop_zero] at HS
    obtain ⟨l, hL⟩ : ∃ l, c :: r = l := ⟨_, rfl⟩
    rw [hL] at HS hne hbn hl hpos ⊢
    have HM := Lib.hid (ext_mid l 0 (bareN l))
    rw [List.drop_zero] at HM
    obtain ⟨m, hm⟩ : ∃ m, bareN l = m := ⟨_, rfl⟩
    rw [hm] at HS HM hbn ⊢
    have hgb := get_bt (mk8 l)
    have z1 : ((mk8 l).size : Int) = l.length := by rw [mk8_size]
    have z2 : (mk8 l).size = l.length := mk8_size l
    have z3 : 0 < (mk8 l).size := by omega
    have z4 : (m : Int) ≤ l.length := by omega
    have zp : min m l.length ≤ 3000000 := by omega
    have HE : Hid ((⟨#[]⟩ : ByteArray) ++ (mk8 l).extract 0 m = mk8 (l.take m)) := by
      show _ = _
      have := HM.out
      rw [Nat.zero_add] at this
      rw [this]
      exact mk8_app [] _
    clear hm hL hbt hbn hpos HM
    go_enter Tryd.func36, Tryd.ntmps36
    go_wp2_with fail
    refine (HS.out w).mono ?_
    rintro e w2 ⟨rfl, rfl⟩
    go_wp2_with fail
    go_ret2
    refine ⟨?_, Below.refl _ _⟩
    show _ = Ending.returned (.tuple #[.string (mk8 (l.take m)), .int .i64 m])
    rw [← HE.out]
    rfl
end Go.Proofs.YtjbaljibaejdgaaDoor
