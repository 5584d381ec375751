/- The document's Words. -/
import Derived.Test.YtejffadjakajcaaDoorRqRef
import Derived.Deep.DeepCutAuto
namespace Go.Proofs.YtejffadjakajcaaDoor
open Go.RowKit Go.PlainAid Go.Shelf

/-- An argument that begins with a quote, read so far: where, and what has come out. -/
structure QuoAt (r : List UInt8) (l : List UInt8) (p k : Nat) (O : List UInt8) : Prop where
  eq : quotL r = (O ++ (quotL (l.drop k)).1, (k - p) + (quotL (l.drop k)).2)
  low : p ≤ k
  few : O.length ≤ k - p
theorem quo_start (l : List UInt8) (p : Nat) : QuoAt (l.drop p) l p p [] := ⟨by simp, Nat.le_refl _, by simp⟩
theorem quo_nil {m : List UInt8} (h : m = []) : quotL m = ([], 0) := by subst h; rfl
/-- A quote that ends, one that is doubled, another piece. -/
theorem QuoAt.ends {r l O : List UInt8} {p k : Nat} (h : QuoAt r l p k O) {m : List UInt8} (hd : l.drop k = 34 :: m) (hm : m.head? ≠ some 34) : quotL r = (O, k + 1 - p) := by
  have := h.low
  rw [h.eq, hd, quot_close hm]
  exact Prod.ext (by simp) (by show k - p + 1 = k + 1 - p; omega)
theorem QuoAt.out {r l O : List UInt8} {p k : Nat} (h : QuoAt r l p k O) (hd : l.drop k = []) : quotL r = (O, k - p) := by
  rw [h.eq, quo_nil hd]
  exact Prod.ext (by simp) (by simp)
theorem QuoAt.twice {r l O : List UInt8} {p k : Nat} (h : QuoAt r l p k O) {m : List UInt8} (hd : l.drop k = 34 :: 34 :: m) : QuoAt r l p (k + 2) (O ++ [34]) := by
  have hl := h.low
  have h2 : l.drop (k + 2) = m := by rw [← List.drop_drop, hd]; rfl
  refine ⟨?_, by omega, by have := h.few; simp; omega⟩
  rw [h.eq, hd, quot_dd, h2]
  exact Prod.ext (by simp) (by show k - p + (2 + _) = k + 2 - p + _; omega)
theorem QuoAt.piece {r l O : List UInt8} {p k : Nat} (h : QuoAt r l p k O) {c : UInt8} (hh : (l.drop k).head? = some c) (hc : c ≠ 34) {n : Nat} (hn : togN (l.drop k) = n) : QuoAt r l p (k + n) (O ++ (l.drop k).take n) := by
  have hl := h.low
  refine ⟨?_, by omega, ?_⟩
  · rw [h.eq, quot_step hh hc, hn, List.drop_drop]
    exact Prod.ext (by simp) (by show k - p + (n + _) = k + n - p + _; omega)
  · have := h.few
    rw [List.length_append, List.length_take]
    omega
/-- Where an argument that begins at k ends, and what it is. -/
theorem first_plain {m : List UInt8} {c : UInt8} (h : m.head? = some c) (hc : c ≠ 34) : firstL m = (m.take (bareN m), bareN m) := by
  match m, h with
  | x :: r, h =>
    obtain rfl : x = c := Option.some.inj h
    conv => lhs; unfold firstL
    simp [hc]
theorem first_quote {r : List UInt8} : firstL (34 :: r) = ((quotL r).1 ++ (r.drop (quotL r).2).take (bareN (r.drop (quotL r).2)), 1 + (quotL r).2 + bareN (r.drop (quotL r).2)) := by
  conv => lhs; unfold firstL
  simp
/-- Behind the quoted part, at place q. -/
theorem first_at {l O : List UInt8} {k q : Nat} (hd : l.drop k = 34 :: l.drop (k + 1)) (hq : quotL (l.drop (k + 1)) = (O, q - (k + 1))) (hkq : k + 1 ≤ q) : firstL (l.drop k) = (O ++ (l.drop q).take (bareN (l.drop q)), q + bareN (l.drop q) - k) := by
  rw [hd, first_quote, hq]
  have e : (l.drop (k + 1)).drop (q - (k + 1)) = l.drop q := by rw [List.drop_drop]; congr 1; omega
  rw [show ((O, q - (k + 1)) : List UInt8 × Nat).2 = q - (k + 1) from rfl, e]
  exact Prod.ext rfl (by show 1 + (q - (k + 1)) + _ = _; omega)

/-- The words so far; the place is behind blanks. -/
structure RwAt (W : World) (l : List UInt8) (k : Nat) (v : Value) (J : List (List UInt8)) (w : World) : Prop where
  eq : ∀ ws, Wds (l.drop k) ws → Wds l (J ++ ws)
  trim : (l.drop k).dropWhile blk = l.drop k
  few : J.length ≤ k
  own : w.ownsRow W.heap.size 9 1 v J.length (J.map strV)
  bel : Below W.heap.size W w
theorem skip_trim (l : List UInt8) (k : Nat) : l.drop (k + blkN (l.drop k)) = (l.drop k).dropWhile blk := by rw [blkN_drop, List.drop_drop]
theorem RwAt.next {W w w' : World} {l : List UInt8} {k q : Nat} {v v' : Value} {J : List (List UInt8)} {word : List UInt8} (h : RwAt W l k v J w) (hf : firstL (l.drop k) = (word, q - k)) (hn : l.drop k ≠ []) (hkq : k + 1 ≤ q)
    (h1 : w'.ownsRow W.heap.size 9 1 v' (J.length + 1) (J.map strV ++ [strV word])) (h2 : Below W.heap.size w w') : RwAt W l (q + blkN (l.drop q)) v' (J ++ [word]) w' := by
  refine ⟨fun ws hw => ?_, ?_, ?_, by rw [List.length_append, List.map_append]; exact h1, h.bel.trans h2⟩
  · rw [skip_trim] at hw
    have e : (l.drop k).drop (firstL (l.drop k)).2 = l.drop q := by rw [hf, List.drop_drop]; congr 1; show k + (q - k) = q; omega
    have := h.eq _ (.more h.trim hn (by rw [e]; exact wds_trim rfl (trim_twice _) hw))
    rw [hf] at this
    rw [List.append_assoc]
    exact this
  · rw [skip_trim, trim_twice]
  · have := h.few
    simp
    omega
theorem RwAt.ends {W w : World} {l : List UInt8} {k : Nat} {v : Value} {J : List (List UInt8)} (h : RwAt W l k v J w) (hd : l.drop k = []) : Wds l J := by
  have := h.eq [] (.done (by rw [hd]; rfl))
  rw [List.append_nil] at this
  exact this

set_option maxRecDepth 100000 in
set_option maxHeartbeats 8000000 in
theorem rwords_any (l : List UInt8) (hl : l.length ≤ 90000) (W : World) : Calls Tryd.prog 14 #[.string (mk8 l)] W (WordsP l W) := by
  have HS0 := Lib.hid (skip_any l 0 (by omega) (by omega) W)
  rw [List.drop_zero, Nat.zero_add] at HS0
  have hb0 := blkN_le l
  have H0 : Hid (RwAt W l (blkN l) (.slice none 0 0) [] W) := ⟨fun ws h => by rw [← blkN_drop] at h; exact wds_trim rfl (trim_twice _) h, by rw [← blkN_drop, trim_twice], by simp, World.ownsRow_nil _ _ _ _, Below.refl _ _⟩
  obtain ⟨n, hn⟩ : ∃ n, blkN l = n := ⟨_, rfl⟩
  rw [hn] at HS0 hb0 H0
  have hgb := get_bt (mk8 l)
  have z1 : ((mk8 l).size : Int) = l.length := by rw [mk8_size]
  have z2 : (mk8 l).size = l.length := mk8_size l
  clear hn
  go_enter Tryd.func14, Tryd.ntmps14
  go_wp2_with fail
  refine HS0.out.mono ?_
  rintro e w1 ⟨rfl, rfl⟩
  go_wp2_with fail
  go_loopw [3, 4] (fun v i wr => ∃ (k : Nat) (J : List (List UInt8)), k ≤ l.length ∧ i = .int .i64 k ∧ Hid (RwAt W l k v J wr)) (fun _ i _ => l.length - (intOf i).toNat)
  case atStart => exact ⟨n, [], hb0, rfl, H0⟩
  case round =>
    obtain ⟨k, J, hk, rfl, hat⟩ := hrel
    by_cases hlt : k < l.length
    · obtain ⟨c, hc, hd⟩ := drop_cons hlt
      have hbt := bt_mk hc
      have hkz : (k : Int) < l.length := by omega
      have hks0 : k < (mk8 l).size := by omega
      have hcb : blk c = false := head_dropW (p := blk) (l := l.drop k) (by rw [hat.out.trim, hd]; rfl)
      have hnn : l.drop k ≠ [] := by rw [hd]; simp
      by_cases h34 : c = 34
      · subst h34
        have e1 : (bt (mk8 l) k == 34) = true := by rw [hbt]; rfl
        have HQ0 : Hid (QuoAt (l.drop (k + 1)) l (k + 1) (k + 1) []) := quo_start l (k + 1)
        have HD := Lib.hid hd
        have HNN := Lib.hid hnn
        clear hbt hc hcb hd hnn
        go_wp2_with fail
        clear e1
        go_loop [4, 5, 6] (fun i o _ => ∃ (j : Nat) (O : List UInt8), k + 1 ≤ j ∧ j ≤ l.length ∧ i = .int .i64 j ∧ o = strV O ∧ Hid (QuoAt (l.drop (k + 1)) l (k + 1) j O)) (fun i _ _ => l.length - (intOf i).toNat)
        case atStart => exact ⟨k + 1, [], by omega, by omega, by go_num, rfl, HQ0⟩
        case round =>
          obtain ⟨j, O, hj1, hj, rfl, rfl, hqo⟩ := hrel
          have hOl : O.length ≤ l.length := by have := hqo.out.few; omega
          by_cases hjl : j < l.length
          · obtain ⟨x, hx, hdx⟩ := drop_cons hjl
            have hbx := bt_mk hx
            have hjz : (j : Int) < l.length := by omega
            have hjs : j < (mk8 l).size := by omega
            by_cases hx34 : x = 34
            · subst hx34
              have e1 : (bt (mk8 l) j == 34) = true := by rw [hbx]; rfl
              by_cases hlast : j + 1 = l.length
              · have e2 : ((j : Int) + 1 == l.length) = true := by simp; omega
                have hq1 : j + 1 ≤ l.length := by omega
                have hfirst := first_at HD.out (hqo.out.ends hdx (by rw [hlast, List.drop_length]; simp)) (show k + 1 ≤ j + 1 by omega)
                have hgt0 : k + 1 ≤ j + 1 + bareN (l.drop (j + 1)) := by omega
                have hnn := HNN.out
                clear hqo hx hdx hbx hlast
                go_upto_region 17 with fail
                have hbn := bareN_le (l.drop (j + 1))
                rw [List.length_drop] at hbn
                have HTl := Lib.hid (fun w => tail_any l (j + 1) hq1 (by omega) w)
                have HSk := Lib.hid (fun w => skip_any l ((j + 1) + bareN (l.drop (j + 1))) (by omega) (by omega) w)
                have hbk := blkN_le (l.drop ((j + 1) + bareN (l.drop (j + 1))))
                rw [List.length_drop] at hbk
                have hgt : k + 1 ≤ (j + 1) + bareN (l.drop (j + 1)) := hgt0
                have HNx : Hid (∀ v' w', w'.ownsRow W.heap.size 9 1 v' (J.length + 1) (J.map strV ++ [strV (O ++ (l.drop (j + 1)).take (bareN (l.drop (j + 1))))]) → Below W.heap.size wr w' → RwAt W l ((j + 1) + bareN (l.drop (j + 1)) + blkN (l.drop ((j + 1) + bareN (l.drop (j + 1))))) v' (J ++ [O ++ (l.drop (j + 1)).take (bareN (l.drop (j + 1)))]) w') := fun v' w' h1 h2 => hat.out.next hfirst hnn hgt h1 h2
                have HA := Lib.hid (mk8_app O ((l.drop (j + 1)).take (bareN (l.drop (j + 1)))))
                have htl : ((l.drop (j + 1)).take (bareN (l.drop (j + 1)))).length ≤ bareN (l.drop (j + 1)) := by rw [List.length_take]; omega
                obtain ⟨t, ht⟩ : ∃ t, (l.drop (j + 1)).take (bareN (l.drop (j + 1))) = t := ⟨_, rfl⟩
                obtain ⟨b, hb⟩ : ∃ b, bareN (l.drop (j + 1)) = b := ⟨_, rfl⟩
                unfold TailP at HTl
                rw [ht] at HTl HNx HA htl
                rw [hb] at HTl HNx HSk hbn hbk hgt htl
                obtain ⟨s, hs⟩ : ∃ s, (j + 1) + b + blkN (l.drop ((j + 1) + b)) = s := ⟨_, rfl⟩
                rw [hs] at HNx HSk
                have hsl : s ≤ l.length := by omega
                have hks : k < s := by omega
                have hfit : O.length + t.length ≤ 200000 := by first | omega | (simp; omega)
                have HQB : Hid ((((j + 1) + b : Nat) : Int) = ((j + 1) : Int) + b) := by show _ = _; omega
                obtain ⟨qb, hqb⟩ : ∃ qb, (j + 1) + b = qb := ⟨_, rfl⟩
                rw [hqb] at HTl HSk
                have HOwn := Lib.hid hat.out.own
                have HBel := Lib.hid hat.out.bel
                have hjl : J.length + 1 ≤ 100000 := by have := hat.out.few; omega
                clear hat hfirst hnn hgt0 hgt ht hb hs hqb HQB
                go_wp2_with fail
                refine (HTl.out _).mono ?_
                rintro e w1 ⟨rfl, rfl⟩
                go_upto_region 18 with fail
                go_wp2_with (at_builtin; refine wpList_word rfl (.tmp 79) (.tmp 83) rfl rfl (s := mk8 O ++ mk8 t) rfl ⟨wr.heap.size, 0, none⟩ rfl (cell_new _ _ _) (HOwn.out.alloc _) hjl (by have := HBel.out.size; simp; omega) ?_; intro v' w' h1 h2; rw [HA.out] at h1; have HA2 := Lib.hid (HNx.out v' w' h1 (((Below.refl W.heap.size wr).alloc HBel.out.size _).trans h2)); clear h1 h2)
                refine (HSk.out w').mono ?_
                rintro e w2 ⟨rfl, rfl⟩
                go_wp2_with fail
                go_roundw
                case rel => exact ⟨s, _, hsl, rfl, HA2⟩
                case measure => simp only [intOf]; omega
              · obtain ⟨y, hy, hdy⟩ := drop_cons (show j + 1 < l.length by omega)
                have hby := bt_mk hy
                have e2 : ((j : Int) + 1 == l.length) = false := by rw [beq_eq_false_iff_ne]; omega
                have hjs2 : j + 1 < (mk8 l).size := by omega
                have hjz2 : (j : Int) + 1 < l.length := by omega
                by_cases hy34 : y = 34
                · subst hy34
                  have e3 : (bt (mk8 l) (j + 1) != 34) = false := by rw [hby]; rfl
                  have HQ2 : Hid (QuoAt (l.drop (k + 1)) l (k + 1) (j + 2) (O ++ [34])) := hqo.out.twice (by rw [hdx, hdy])
                  have HA : Hid (mk8 O ++ (mk8 l).extract (j + 1) (j + 1 + 1) = mk8 (O ++ [34])) := by
                    show _ = _
                    rw [ext_mid l (j + 1) 1, hdy, mk8_app]
                    rfl
                  have hfit : O.length + (min (j + 1 + 1) l.length - (j + 1)) ≤ 2000000 := by omega
                  clear hqo hx hdx hbx hlast hy hdy hby
                  go_wp2_with fail
                  rw [HA.out]
                  go_round
                  case rel => exact ⟨j + 2, _, by omega, by omega, by go_num, rfl, HQ2⟩
                  case measure => simp [intOf]; omega
                · have e3 : (bt (mk8 l) (j + 1) != 34) = true := by
                    have e0 : (bt (mk8 l) (j + 1) == 34) = false := by rw [hby]; exact (u8_eq (k := 34)).trans (by simpa using hy34)
                    rw [bne, e0]; rfl
                  have hq1 : j + 1 ≤ l.length := by omega
                  have hfirst := first_at HD.out (hqo.out.ends hdx (by rw [hdy]; simpa using hy34)) (show k + 1 ≤ j + 1 by omega)
                  have hgt0 : k + 1 ≤ j + 1 + bareN (l.drop (j + 1)) := by omega
                  have hnn := HNN.out
                  clear hqo hx hdx hbx hlast hy hdy hby
                  go_upto_region 17 with fail
                  have hbn := bareN_le (l.drop (j + 1))
                  rw [List.length_drop] at hbn
                  have HTl := Lib.hid (fun w => tail_any l (j + 1) hq1 (by omega) w)
                  have HSk := Lib.hid (fun w => skip_any l ((j + 1) + bareN (l.drop (j + 1))) (by omega) (by omega) w)
                  have hbk := blkN_le (l.drop ((j + 1) + bareN (l.drop (j + 1))))
                  rw [List.length_drop] at hbk
                  have hgt : k + 1 ≤ (j + 1) + bareN (l.drop (j + 1)) := hgt0
                  have HNx : Hid (∀ v' w', w'.ownsRow W.heap.size 9 1 v' (J.length + 1) (J.map strV ++ [strV (O ++ (l.drop (j + 1)).take (bareN (l.drop (j + 1))))]) → Below W.heap.size wr w' → RwAt W l ((j + 1) + bareN (l.drop (j + 1)) + blkN (l.drop ((j + 1) + bareN (l.drop (j + 1))))) v' (J ++ [O ++ (l.drop (j + 1)).take (bareN (l.drop (j + 1)))]) w') := fun v' w' h1 h2 => hat.out.next hfirst hnn hgt h1 h2
                  have HA := Lib.hid (mk8_app O ((l.drop (j + 1)).take (bareN (l.drop (j + 1)))))
                  have htl : ((l.drop (j + 1)).take (bareN (l.drop (j + 1)))).length ≤ bareN (l.drop (j + 1)) := by rw [List.length_take]; omega
                  obtain ⟨t, ht⟩ : ∃ t, (l.drop (j + 1)).take (bareN (l.drop (j + 1))) = t := ⟨_, rfl⟩
                  obtain ⟨b, hb⟩ : ∃ b, bareN (l.drop (j + 1)) = b := ⟨_, rfl⟩
                  unfold TailP at HTl
                  rw [ht] at HTl HNx HA htl
                  rw [hb] at HTl HNx HSk hbn hbk hgt htl
                  obtain ⟨s, hs⟩ : ∃ s, (j + 1) + b + blkN (l.drop ((j + 1) + b)) = s := ⟨_, rfl⟩
                  rw [hs] at HNx HSk
                  have hsl : s ≤ l.length := by omega
                  have hks : k < s := by omega
                  have hfit : O.length + t.length ≤ 200000 := by first | omega | (simp; omega)
                  have HQB : Hid ((((j + 1) + b : Nat) : Int) = ((j + 1) : Int) + b) := by show _ = _; omega
                  obtain ⟨qb, hqb⟩ : ∃ qb, (j + 1) + b = qb := ⟨_, rfl⟩
                  rw [hqb] at HTl HSk
                  have HOwn := Lib.hid hat.out.own
                  have HBel := Lib.hid hat.out.bel
                  have hjl : J.length + 1 ≤ 100000 := by have := hat.out.few; omega
                  clear hat hfirst hnn hgt0 hgt ht hb hs hqb HQB
                  go_wp2_with fail
                  refine (HTl.out _).mono ?_
                  rintro e w1 ⟨rfl, rfl⟩
                  go_upto_region 18 with fail
                  go_wp2_with (at_builtin; refine wpList_word rfl (.tmp 79) (.tmp 83) rfl rfl (s := mk8 O ++ mk8 t) rfl ⟨wr.heap.size, 0, none⟩ rfl (cell_new _ _ _) (HOwn.out.alloc _) hjl (by have := HBel.out.size; simp; omega) ?_; intro v' w' h1 h2; rw [HA.out] at h1; have HA2 := Lib.hid (HNx.out v' w' h1 (((Below.refl W.heap.size wr).alloc HBel.out.size _).trans h2)); clear h1 h2)
                  refine (HSk.out w').mono ?_
                  rintro e w2 ⟨rfl, rfl⟩
                  go_wp2_with fail
                  go_roundw
                  case rel => exact ⟨s, _, hsl, rfl, HA2⟩
                  case measure => simp only [intOf]; omega
            · have e1 : (bt (mk8 l) j == 34) = false := by rw [hbx]; exact (u8_eq (k := 34)).trans (by simpa using hx34)
              have htg := togN_ask hx
              have hhd : (l.drop j).head? = some x := by rw [hdx]; rfl
              by_cases h92 : x = 92 ∧ j + 1 < l.length
              · rw [if_pos h92] at htg
                have e2 : (bt (mk8 l) j == 92) = true := by rw [hbx, h92.1]; rfl
                have e3 : decide ((j : Int) + 1 < l.length) = true := decide_eq_true (by omega)
                have HQ2 : Hid (QuoAt (l.drop (k + 1)) l (k + 1) (j + 2) (O ++ (l.drop j).take 2)) := hqo.out.piece hhd hx34 htg
                have HA : Hid (mk8 O ++ (mk8 l).extract j (j + 2) = mk8 (O ++ (l.drop j).take 2)) := by show _ = _; rw [ext_mid, mk8_app]
                have hfit : O.length + (min (j + 2) l.length - j) ≤ 2000000 := by omega
                have hjn : j + 2 ≤ l.length := by omega
                have hjnz : (j : Int) + 2 ≤ l.length := by omega
                clear hqo hx hdx hbx htg hhd h92
                go_wp2_with fail
                rw [HA.out]
                go_round
                case rel => exact ⟨j + 2, _, by omega, hjn, by go_num, rfl, HQ2⟩
                case measure => simp [intOf]; omega
              · rw [if_neg h92] at htg
                have HQ2 : Hid (QuoAt (l.drop (k + 1)) l (k + 1) (j + 1) (O ++ (l.drop j).take 1)) := hqo.out.piece hhd hx34 htg
                have HA : Hid (mk8 O ++ (mk8 l).extract j (j + 1) = mk8 (O ++ (l.drop j).take 1)) := by show _ = _; rw [ext_mid, mk8_app]
                have hfit : O.length + (min (j + 1) l.length - j) ≤ 2000000 := by omega
                have hjnz : (j : Int) + 1 ≤ l.length := by omega
                cases e2 : (bt (mk8 l) j == 92)
                case' true =>
                  have hc92 : x = 92 := by rw [hbx] at e2; exact eq_of_beq ((u8_eq (k := 92)).symm.trans e2)
                  have e3 : decide ((j : Int) + 1 < l.length) = false := decide_eq_false (by intro h; exact h92 ⟨hc92, by omega⟩)
                all_goals
                  clear hqo hx hdx hbx htg hhd h92
                  go_wp2_with fail
                  rw [HA.out]
                  go_round
                  case rel => exact ⟨j + 1, _, by omega, by omega, by go_num, rfl, HQ2⟩
                  case measure => simp [intOf]; omega
          · obtain rfl : j = l.length := by omega
            have hjz : ¬ (l.length : Int) < l.length := by omega
            have hq1 : l.length ≤ l.length := Nat.le_refl _
            have hfirst := first_at HD.out (hqo.out.out (List.drop_length)) hj1
            have hgt0 : k + 1 ≤ l.length + bareN (l.drop l.length) := by omega
            have hnn := HNN.out
            clear hqo
            go_upto_region 17 with fail
            have hbn := bareN_le (l.drop l.length)
            rw [List.length_drop] at hbn
            have HTl := Lib.hid (fun w => tail_any l l.length hq1 (by omega) w)
            have HSk := Lib.hid (fun w => skip_any l (l.length + bareN (l.drop l.length)) (by omega) (by omega) w)
            have hbk := blkN_le (l.drop (l.length + bareN (l.drop l.length)))
            rw [List.length_drop] at hbk
            have hgt : k + 1 ≤ l.length + bareN (l.drop l.length) := hgt0
            have HNx : Hid (∀ v' w', w'.ownsRow W.heap.size 9 1 v' (J.length + 1) (J.map strV ++ [strV (O ++ (l.drop l.length).take (bareN (l.drop l.length)))]) → Below W.heap.size wr w' → RwAt W l (l.length + bareN (l.drop l.length) + blkN (l.drop (l.length + bareN (l.drop l.length)))) v' (J ++ [O ++ (l.drop l.length).take (bareN (l.drop l.length))]) w') := fun v' w' h1 h2 => hat.out.next hfirst hnn hgt h1 h2
            have HA := Lib.hid (mk8_app O ((l.drop l.length).take (bareN (l.drop l.length))))
            have htl : ((l.drop l.length).take (bareN (l.drop l.length))).length ≤ bareN (l.drop l.length) := by rw [List.length_take]; omega
            obtain ⟨t, ht⟩ : ∃ t, (l.drop l.length).take (bareN (l.drop l.length)) = t := ⟨_, rfl⟩
            obtain ⟨b, hb⟩ : ∃ b, bareN (l.drop l.length) = b := ⟨_, rfl⟩
            unfold TailP at HTl
            rw [ht] at HTl HNx HA htl
            rw [hb] at HTl HNx HSk hbn hbk hgt htl
            obtain ⟨s, hs⟩ : ∃ s, l.length + b + blkN (l.drop (l.length + b)) = s := ⟨_, rfl⟩
            rw [hs] at HNx HSk
            have hsl : s ≤ l.length := by omega
            have hks : k < s := by omega
            have hfit : O.length + t.length ≤ 200000 := by first | omega | (simp; omega)
            have HQB : Hid (((l.length + b : Nat) : Int) = (l.length : Int) + b) := by show _ = _; omega
            obtain ⟨qb, hqb⟩ : ∃ qb, l.length + b = qb := ⟨_, rfl⟩
            rw [hqb] at HTl HSk
            have HOwn := Lib.hid hat.out.own
            have HBel := Lib.hid hat.out.bel
            have hjl : J.length + 1 ≤ 100000 := by have := hat.out.few; omega
            clear hat hfirst hnn hgt0 hgt ht hb hs hqb HQB
            go_wp2_with fail
            refine (HTl.out _).mono ?_
            rintro e w1 ⟨rfl, rfl⟩
            go_upto_region 18 with fail
            go_wp2_with (at_builtin; refine wpList_word rfl (.tmp 79) (.tmp 83) rfl rfl (s := mk8 O ++ mk8 t) rfl ⟨wr.heap.size, 0, none⟩ rfl (cell_new _ _ _) (HOwn.out.alloc _) hjl (by have := HBel.out.size; simp; omega) ?_; intro v' w' h1 h2; rw [HA.out] at h1; have HA2 := Lib.hid (HNx.out v' w' h1 (((Below.refl W.heap.size wr).alloc HBel.out.size _).trans h2)); clear h1 h2)
            refine (HSk.out w').mono ?_
            rintro e w2 ⟨rfl, rfl⟩
            go_wp2_with fail
            go_roundw
            case rel => exact ⟨s, _, hsl, rfl, HA2⟩
            case measure => simp only [intOf]; omega
      · have e1 : (bt (mk8 l) k == 34) = false := by rw [hbt]; exact (u8_eq (k := 34)).trans (by simpa using h34)
        have hhd : (l.drop k).head? = some c := by rw [hd]; rfl
        have hq1 : k ≤ l.length := hk
        have hfirst : firstL (l.drop k) = (([] : List UInt8) ++ (l.drop k).take (bareN (l.drop k)), k + bareN (l.drop k) - k) := by
          rw [first_plain hhd h34]
          exact Prod.ext (by simp) (by show _ = k + _ - k; omega)
        have hgt0 : k + 1 ≤ k + bareN (l.drop k) := by
          have h1 := bareN_step hhd hcb
          have h2 := (togN_le hnn).1
          omega
        clear hbt hc hcb hd hhd
        go_upto_region 17 with fail
        have hbn := bareN_le (l.drop k)
        rw [List.length_drop] at hbn
        have HTl := Lib.hid (fun w => tail_any l k hq1 (by omega) w)
        have HSk := Lib.hid (fun w => skip_any l (k + bareN (l.drop k)) (by omega) (by omega) w)
        have hbk := blkN_le (l.drop (k + bareN (l.drop k)))
        rw [List.length_drop] at hbk
        have hgt : k + 1 ≤ k + bareN (l.drop k) := hgt0
        have HNx : Hid (∀ v' w', w'.ownsRow W.heap.size 9 1 v' (J.length + 1) (J.map strV ++ [strV (([] : List UInt8) ++ (l.drop k).take (bareN (l.drop k)))]) → Below W.heap.size wr w' → RwAt W l (k + bareN (l.drop k) + blkN (l.drop (k + bareN (l.drop k)))) v' (J ++ [([] : List UInt8) ++ (l.drop k).take (bareN (l.drop k))]) w') := fun v' w' h1 h2 => hat.out.next hfirst hnn hgt h1 h2
        have HA := Lib.hid (mk8_app ([] : List UInt8) ((l.drop k).take (bareN (l.drop k))))
        have htl : ((l.drop k).take (bareN (l.drop k))).length ≤ bareN (l.drop k) := by rw [List.length_take]; omega
        obtain ⟨t, ht⟩ : ∃ t, (l.drop k).take (bareN (l.drop k)) = t := ⟨_, rfl⟩
        obtain ⟨b, hb⟩ : ∃ b, bareN (l.drop k) = b := ⟨_, rfl⟩
        unfold TailP at HTl
        rw [ht] at HTl HNx HA htl
        rw [hb] at HTl HNx HSk hbn hbk hgt htl
        obtain ⟨s, hs⟩ : ∃ s, k + b + blkN (l.drop (k + b)) = s := ⟨_, rfl⟩
        rw [hs] at HNx HSk
        have hsl : s ≤ l.length := by omega
        have hks : k < s := by omega
        have hfit : ([] : List UInt8).length + t.length ≤ 200000 := by first | omega | (simp; omega)
        have HQB : Hid (((k + b : Nat) : Int) = (k : Int) + b) := by show _ = _; omega
        obtain ⟨qb, hqb⟩ : ∃ qb, k + b = qb := ⟨_, rfl⟩
        rw [hqb] at HTl HSk
        have HOwn := Lib.hid hat.out.own
        have HBel := Lib.hid hat.out.bel
        have hjl : J.length + 1 ≤ 100000 := by have := hat.out.few; omega
        clear hat hfirst hnn hgt0 hgt ht hb hs hqb HQB
        go_wp2_with fail
        refine (HTl.out _).mono ?_
        rintro e w1 ⟨rfl, rfl⟩
        go_upto_region 18 with fail
        go_wp2_with (at_builtin; refine wpList_word rfl (.tmp 79) (.tmp 83) rfl rfl (s := mk8 ([] : List UInt8) ++ mk8 t) rfl ⟨wr.heap.size, 0, none⟩ rfl (cell_new _ _ _) (HOwn.out.alloc _) hjl (by have := HBel.out.size; simp; omega) ?_; intro v' w' h1 h2; rw [HA.out] at h1; have HA2 := Lib.hid (HNx.out v' w' h1 (((Below.refl W.heap.size wr).alloc HBel.out.size _).trans h2)); clear h1 h2)
        refine (HSk.out w').mono ?_
        rintro e w2 ⟨rfl, rfl⟩
        go_wp2_with fail
        go_roundw
        case rel => exact ⟨s, _, hsl, rfl, HA2⟩
        case measure => simp only [intOf]; omega
    · obtain rfl : k = l.length := by omega
      have HWd := Lib.hid (hat.out.ends (List.drop_length))
      have hfew := hat.out.few
      go_wp2_with fail
      go_ret
      exact ⟨_, J, rfl, HWd.out, hfew, hat.out.own, hat.out.bel⟩
end Go.Proofs.YtejffadjakajcaaDoor
