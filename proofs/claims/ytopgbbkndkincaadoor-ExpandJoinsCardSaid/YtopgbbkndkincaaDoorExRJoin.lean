/- The document's Join. -/
import Derived.Test.YtopgbbkndkincaaDoorExJoin
namespace Go.Proofs.YtopgbbkndkincaaDoor
open Go.RowKit Go.PlainAid

/-- Joined so far; acc has been joined ahead of line q. -/
structure RjIn (W0 : World) (L : List (List UInt8)) (q : Nat) (v : Value) (J : List (List UInt8)) (acc : List UInt8) (W : World) : Prop where
  eq : J ++ jn acc (L.drop q) = jn [] L
  ev : tc acc % 2 = 0
  row : W.ownsRow W0.heap.size 9 1 v J.length (J.map strV)
  bel : Below W0.heap.size W0 W
  few : acc.length + tot (L.drop q) ≤ 4000
section
variable {W0 W W1 : World} {L J : List (List UInt8)} {q : Nat} {v v' : Value} {acc l : List UInt8}
theorem RjIn.below (h : RjIn W0 L q v J acc W) (hb : Below W.heap.size W W1) : RjIn W0 L q v J acc W1 :=
  ⟨h.eq, h.ev, owns_of_block h.row fun g e => hb.block g (h.row.lt g e).2, h.bel.trans (hb.mono h.bel.size), h.few⟩
theorem RjIn.odd (h : RjIn W0 L q v J acc W) : oddL (acc ++ l) = oddL l := odd_app h.ev
/-- The line goes on. -/
theorem RjIn.goes (h : RjIn W0 L q v J acc W) (hl : L[q]? = some l) (ho : oddL l = true) (hq : q + 1 < L.length) : RjIn W0 L (q + 1) v J (acc ++ l).dropLast W := by
  have hd := drop_at hl
  obtain ⟨c1, c2⟩ := odd_cut (l := acc ++ l) (by rw [h.odd]; exact ho)
  have hne := (odd_cut ho).2
  have e : (acc ++ l).dropLast = acc ++ l.dropLast := List.dropLast_append_of_ne_nil hne
  refine ⟨?_, c1, h.row, h.bel, ?_⟩
  · rw [e, ← h.eq, hd, jn_go ho (by
      intro e
      have := congrArg List.length e
      simp at this
      omega)]
  · have := h.few
    rw [hd, tot_cons] at this
    have h4 : l.dropLast.length ≤ l.length := by simp
    rw [e, List.length_append]
    omega
/-- The line ends. -/
theorem RjIn.ends (h : RjIn W0 L q v J acc W) (hl : L[q]? = some l) (ho : oddL l = false ∨ L.length ≤ q + 1)
    (h1 : W1.ownsRow W0.heap.size 9 1 v' (J.length + 1) (J.map strV ++ [strV (acc ++ l)])) (h2 : (W.alloc (.cells #[strV (acc ++ l)] 9)).grownBy W1 v.ownBlock) : RjIn W0 L (q + 1) v' (J ++ [acc ++ l]) [] W1 := by
  have hd := drop_at hl
  have hb : Below W.heap.size W (W.alloc (.cells #[strV (acc ++ l)] 9)) := (Below.refl _ _).alloc (Nat.le_refl _) _
  refine ⟨?_, rfl, ?_, ?_, ?_⟩
  · rw [← h.eq, hd, jn_end (by
      rcases ho with ho | ho
      · exact .inl ho
      · exact .inr (List.drop_eq_nil_of_le ho))]
    simp
  · rw [List.length_append, List.map_append]
    exact h1
  · refine h.bel.trans ⟨h2.os, h2.tape, h2.output, Nat.le_trans (by simp) h2.size, fun g hg => ?_⟩
    rw [h2.block g (by have := h.bel.size; simp; omega) (fun e => by have := (h.row.lt g e.symm).1; omega)]
    exact hb.block g (Nat.lt_of_lt_of_le hg h.bel.size)
  · have := h.few
    rw [hd, tot_cons] at this
    simp
    omega
end
theorem line_of {ls : List ByteArray} {q : Nat} {s : ByteArray} (h : ls[q]? = some s) : (bytesOf ls)[q]? = some s.data.toList := by
  show (ls.map _)[q]? = _
  rw [List.getElem?_map, h]
  rfl
set_option maxRecDepth 100000 in
set_option maxHeartbeats 4000000 in
theorem rjoin_any (ao : Option Addr) (ls : List ByteArray) (cap : Nat) (W : World) (h : Strs ao ls W) (hn : ls.length ≤ 40) (ht : tot (bytesOf ls) ≤ 4000) : Calls Tryd.prog 9 #[.slice ao ls.length cap] W (JoinP (bytesOf ls) W) := by
  have HH := Lib.hid h
  have HT := Lib.hid ht
  clear h ht
  go_enter Tryd.func9, Tryd.ntmps9
  go_wp2_with fail
  go_loopw [3, 4] (fun v i wr => ∃ k J, k ≤ ls.length ∧ i = .int .i64 (k : Nat) ∧ Hid (RjIn W (bytesOf ls) k v J [] wr)) (fun _ i _ => ls.length - (intOf i).toNat)
  case atStart => exact ⟨0, [], by omega, rfl, ⟨rfl, rfl, World.ownsRow_nil _ _ _ _, Below.refl _ _, (by rw [List.drop_zero, List.length_nil, Nat.zero_add]; exact HT.out)⟩⟩
  case round =>
    obtain ⟨k, J, hk, rfl, hat⟩ := hrel
    by_cases hlt : k < ls.length
    · obtain ⟨s0, hs⟩ : ∃ s0, ls[k]? = some s0 := ⟨_, List.getElem?_eq_getElem hlt⟩
      obtain ⟨b, off, rfl, hbl, hcell⟩ := (HH.out.below hat.out.bel).at hs
      have HJ := Lib.hid hat.out
      have HS0 := Lib.hid hs
      have hkz : (k : Int) < ls.length := by omega
      have hk0 : (0 : Int) ≤ k := by omega
      clear hs hat
      go_wp2_with fail
      clear hcell
      go_loopw [4, 5] (fun i sv w2 => ∃ (q : Nat) (acc : List UInt8) (s t : ByteArray), k ≤ q ∧ q < ls.length ∧ i = .int .i64 q ∧ sv = .string t ∧ Hid (t = mk8 (acc ++ s.data.toList) ∧ ls[q]? = some s ∧ RjIn W (bytesOf ls) q u3 J acc w2)) (fun i _ _ => ls.length - (intOf i).toNat)
      case atStart => exact ⟨k, [], s0, s0, by omega, hlt, rfl, rfl, by rw [List.nil_append, mk8_of], HS0.out, HJ.out⟩
      case round =>
        obtain ⟨q, acc, s, t, hkq, hq, rfl, rfl, hin⟩ := hrel
        have htz : t.size = acc.length + s.size := by rw [hin.out.1, mk8_size, List.length_append, ← Lib.size_eq]
        have hfew : acc.length + s.size ≤ 4000 := by
          have := hin.out.2.2.few
          rw [drop_at (line_of hin.out.2.1), tot_cons, ← Lib.size_eq] at this
          omega
        have HOD : Hid (oddL t.data.toList = oddL s.data.toList) := by
          show oddL t.data.toList = _
          rw [hin.out.1]
          exact hin.out.2.2.odd
        have HO := Lib.hid (odd_any t (by omega))
        rw [HOD.out] at HO
        have hqz : (q : Int) < ls.length := by omega
        have hq0 : (0 : Int) ≤ q := by omega
        cases ho : oddL s.data.toList with
        | true =>
          rw [ho] at HO
          by_cases hq1 : q + 1 < ls.length
          · obtain ⟨s1, hs1⟩ : ∃ s1, ls[q + 1]? = some s1 := ⟨_, List.getElem?_eq_getElem hq1⟩
            have hgo := hin.out.2.2.goes (line_of hin.out.2.1) ho (by simpa using hq1)
            have hcell := ((HH.out.below hgo.bel).at hs1)
            obtain ⟨b2, off2, e2, _, hcell⟩ := hcell
            injection e2 with e2
            injection e2 with e2 e3
            subst e2 e3
            have ht1 : 1 ≤ t.size := by
              have h1 := (odd_cut ho).2
              have : 1 ≤ s.size := by rw [Lib.size_eq]; exact List.length_pos_iff.2 h1
              omega
            have HNEW : Hid (t.extract 0 (t.size - 1) ++ s1 = mk8 ((acc ++ s.data.toList).dropLast ++ s1.data.toList)) := by
              show t.extract 0 (t.size - 1) ++ s1 = _
              have e1 : t.data.toList.dropLast = (acc ++ s.data.toList).dropLast := by rw [hin.out.1]
              rw [mk8_cut, e1, ← mk8_app (acc ++ s.data.toList).dropLast s1.data.toList, mk8_of s1]
            have hf1 : (t.size - 1) + s1.size ≤ 4000 := by
              have := hgo.few
              rw [drop_at (line_of hs1), tot_cons, ← Lib.size_eq] at this
              rw [List.length_dropLast, List.length_append, ← Lib.size_eq] at this
              omega
            have ht1z : (1 : Int) ≤ t.size := by omega
            have hq1z : (q : Int) + 1 < ls.length := by omega
            have HG := Lib.hid hgo
            have HS1 := Lib.hid hs1
            clear hgo hs1 ho hin HOD htz
            go_wp2_with fail
            refine (HO.out _).mono ?_
            rintro e w3 ⟨rfl, rfl⟩
            go_wp2_with fail
            go_quiet (fail)
            go_wp2_with fail
            go_roundw
            case rel => exact ⟨q + 1, _, s1, _, by omega, hq1, by go_num, rfl, HNEW.out, HS1.out, HG.out.below (below_drewN (Below.refl _ _) _)⟩
            case measure => simp only [intOf]; omega
          · have HENDS : Hid (∀ v' w', w'.ownsRow W.heap.size 9 1 v' (J.length + 1) (J.map strV ++ [.string t]) → (wr.alloc (.cells #[.string t] 9)).grownBy w' u3.ownBlock → RjIn W (bytesOf ls) (q + 1) v' (J ++ [acc ++ s.data.toList]) [] w') := fun v' w' h1 h2 => by
              rw [hin.out.1] at h1 h2
              exact hin.out.2.2.ends (line_of hin.out.2.1) (.inr (by simp; omega)) h1 h2
            have hjl : J.length + 1 ≤ 100000 := by
              have h1 := congrArg List.length hin.out.2.2.eq
              have h2 := jn_length [] (bytesOf ls)
              rw [List.length_append] at h1
              simp at h2
              omega
            have HROW := Lib.hid hin.out.2.2.row
            have hB : W.heap.size ≤ wr.heap.size := hin.out.2.2.bel.size
            clear ho hin HOD htz
            go_wp2_with fail
            refine (HO.out _).mono ?_
            rintro e w3 ⟨rfl, rfl⟩
            go_wp2_with (at_builtin; refine wpList_line rfl (.tmp 37) (.tmp 39) rfl rfl (s := t) rfl ⟨wr.heap.size, 0, none⟩ rfl (cell_new _ _ _) (HROW.out.alloc _) hjl (by simp; omega) ?_; intro v' w' h1 h2 _; have HA := Lib.hid (HENDS.out v' w' h1 h2); clear h1 h2)
            go_roundw
            case rel => exact ⟨q + 1, _, by omega, by go_num, HA⟩
            case measure => simp only [intOf]; omega
        | false =>
          rw [ho] at HO
          have HENDS : Hid (∀ v' w', w'.ownsRow W.heap.size 9 1 v' (J.length + 1) (J.map strV ++ [.string t]) → (wr.alloc (.cells #[.string t] 9)).grownBy w' u3.ownBlock → RjIn W (bytesOf ls) (q + 1) v' (J ++ [acc ++ s.data.toList]) [] w') := fun v' w' h1 h2 => by
            rw [hin.out.1] at h1 h2
            exact hin.out.2.2.ends (line_of hin.out.2.1) (.inl ho) h1 h2
          have hjl : J.length + 1 ≤ 100000 := by
            have h1 := congrArg List.length hin.out.2.2.eq
            have h2 := jn_length [] (bytesOf ls)
            rw [List.length_append] at h1
            simp at h2
            omega
          have HROW := Lib.hid hin.out.2.2.row
          have hB : W.heap.size ≤ wr.heap.size := hin.out.2.2.bel.size
          clear ho hin HOD htz
          go_wp2_with fail
          refine (HO.out _).mono ?_
          rintro e w3 ⟨rfl, rfl⟩
          go_wp2_with (at_builtin; refine wpList_line rfl (.tmp 37) (.tmp 39) rfl rfl (s := t) rfl ⟨wr.heap.size, 0, none⟩ rfl (cell_new _ _ _) (HROW.out.alloc _) hjl (by simp; omega) ?_; intro v' w' h1 h2 _; have HA := Lib.hid (HENDS.out v' w' h1 h2); clear h1 h2)
          go_roundw
          case rel => exact ⟨q + 1, _, by omega, by go_num, HA⟩
          case measure => simp only [intOf]; omega
    · obtain rfl : k = ls.length := by omega
      have HE : Hid (J = jn [] (bytesOf ls)) := by
        have := hat.out.eq
        rw [List.drop_eq_nil_of_le (by simp)] at this
        rw [jn, List.append_nil] at this
        exact this
      go_wp2_with fail
      go_ret
      exact ⟨_, rfl, by rw [← HE.out]; exact hat.out.row, hat.out.bel⟩
end Go.Proofs.YtopgbbkndkincaaDoor
