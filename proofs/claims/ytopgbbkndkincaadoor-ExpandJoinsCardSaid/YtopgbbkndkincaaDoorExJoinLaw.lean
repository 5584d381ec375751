/- ExpandJoins, walked. -/
import Derived.Test.YtopgbbkndkincaaDoorExRJoin
import Derived.Test.YtopgbbkndkincaaDoorExSane
namespace Go.Proofs.YtopgbbkndkincaaDoor
open Go.RowKit Go.PlainAid

theorem own_strs {B : Nat} {v : Value} {J : List (List UInt8)} {W : World} (h : W.ownsRow B 9 1 v J.length (J.map strV)) : ∃ ao c, v = .slice ao J.length c ∧ Strs ao (J.map mk8) W := by
  rcases h.2 with ⟨h1, h2⟩ | ⟨g, c, cur, h1, h2, h3, _⟩
  · have : J = [] := List.eq_nil_of_length_eq_zero h2
    subst this
    exact ⟨none, 0, h1, 0, 0, fun h => absurd h (by simp), fun i s hs => by simp at hs⟩
  · refine ⟨_, c, h1, g, 0, fun _ => ⟨rfl, (Array.getElem?_eq_some_iff.1 h3).1⟩, fun i s hs => ?_⟩
    subst h1
    have hi : i < J.length := by have := (List.getElem?_eq_some_iff.1 hs).1; simpa using this
    have := h.cellAt i (by omega)
    rw [Nat.zero_add, this]
    rw [List.getElem?_map] at hs ⊢
    cases hj : J[i]? with
    | none => rw [hj] at hs; cases hs
    | some l =>
      rw [hj] at hs
      simp only [Option.map_some, Option.some.injEq] at hs ⊢
      exact congrArg Value.string hs

set_option maxRecDepth 100000 in
set_option maxHeartbeats 2000000 in
theorem list_any (ao1 ao2 : Option Addr) (X : List ByteArray) (c1 c2 : Nat) (W : World) (h1 : Strs ao1 X W) (h2 : Strs ao2 X W) (hn : X.length ≤ 100000) :
    Calls Tryd.prog 7 #[.slice ao1 X.length c1, .slice ao2 X.length c2] W (Makes (.bool true) W) := by
  have H1 := Lib.hid h1
  have H2 := Lib.hid h2
  clear h1 h2
  go_enter Tryd.func7, Tryd.ntmps7
  go_wp2_with fail
  go_loopw [5] (fun i wr => ∃ k : Nat, k ≤ X.length ∧ i = .int .i64 k ∧ Hid (Below W.heap.size W wr)) (fun i _ => X.length - (intOf i).toNat)
  case atStart => exact ⟨0, by omega, rfl, Below.refl _ _⟩
  case round =>
    obtain ⟨k, hk, rfl, hb⟩ := hrel
    by_cases hlt : k < X.length
    · obtain ⟨s, hs⟩ : ∃ s, X[k]? = some s := ⟨_, List.getElem?_eq_getElem hlt⟩
      obtain ⟨b1, o1, rfl, _, j1⟩ := (H1.out.below hb.out).at hs
      obtain ⟨b2, o2, rfl, _, j2⟩ := (H2.out.below hb.out).at hs
      have hkz : (k : Int) < X.length := by omega
      have hk0 : (0 : Int) ≤ k := by omega
      have hq : (s.toList == s.toList) = true := beq_self_eq_true _
      have hq2 : (s.toList != s.toList) = false := by simp
      have HB := Lib.hid (below_drewN hb.out)
      clear hs
      go_wp2_with fail
      go_quiet (fail)
      go_wp2_with fail
      go_roundw
      case rel => exact ⟨k + 1, by omega, by go_num, HB.out _⟩
      case measure => simp only [intOf]; omega
    · obtain rfl : k = X.length := by omega
      go_wp2_with fail
      go_ret
      exact ⟨rfl, hb.out⟩

/-- The bytes of the first lines. -/
def totTo (ls : List ByteArray) (k : Nat) : Int := (tot (bytesOf (ls.take k)) : Nat)
theorem totTo_succ {ls : List ByteArray} {k : Nat} {s : ByteArray} (h : ls[k]? = some s) : totTo ls (k + 1) = totTo ls k + s.size := by
  unfold totTo
  obtain ⟨h1, h2⟩ := List.getElem?_eq_some_iff.1 h
  rw [List.take_succ_eq_append_getElem h1, h2]
  have : tot (bytesOf (ls.take k ++ [s])) = tot (bytesOf (ls.take k)) + s.size := by
    unfold tot bytesOf
    rw [List.map_append, List.map_append, List.sum_append]
    show _ + (s.data.toList.length + 0) = _
    rw [Nat.add_zero, ← Lib.size_eq]
  rw [this]
  omega
theorem totTo_le {ls : List ByteArray} (hb : ∀ s ∈ ls, s.size ≤ 140737488355328) : ∀ k, totTo ls k ≤ k * 140737488355328
  | 0 => by simp [totTo, tot, bytesOf]
  | k + 1 => by
    have ih := totTo_le hb k
    cases hs : ls[k]? with
    | none =>
      have : ls.take (k + 1) = ls.take k := by
        have := List.getElem?_eq_none_iff.1 hs
        rw [List.take_of_length_le (by omega), List.take_of_length_le this]
      unfold totTo at ih ⊢
      rw [this]
      omega
    | some s =>
      rw [totTo_succ hs]
      have := hb s (List.mem_of_getElem? hs)
      omega
set_option maxRecDepth 100000 in
set_option maxHeartbeats 4000000 in
theorem law_joins (ao : Option Addr) (ls : List ByteArray) (cap : Nat) (W : World) (h : Strs ao ls W) (hb : ∀ s ∈ ls, s.size ≤ 140737488355328) (hl : ls.length ≤ 9223372036854775807) :
    Calls Tryd.prog 3 #[.slice ao ls.length cap] W (Makes (.bool true) W) := by
  have HS := Lib.hid sane_any
  have HH := Lib.hid h
  have HTL := Lib.hid (totTo_le hb)
  have HBD := Lib.hid hb
  clear h hb
  by_cases h40 : 40 < ls.length
  · go_enter Tryd.func3, Tryd.ntmps3
    go_wp2_with fail
    refine (HS.out _).mono ?_
    rintro e W3 ⟨rfl, hb⟩
    have HB2 := Lib.hid hb
    clear hb
    go_wp2_with fail
    go_ret
    exact ⟨rfl, HB2.out⟩
  · go_enter Tryd.func3, Tryd.ntmps3
    go_wp2_with fail
    go_loop [3, 4] (fun nv i => ∃ (k : Nat) (z : Int), k ≤ ls.length ∧ i = .int .i64 k ∧ nv = .int .i64 z ∧ Hid (z = totTo ls k)) (fun _ i => ls.length - (intOf i).toNat)
    case atStart => exact ⟨0, 0, by omega, rfl, rfl, rfl⟩
    case round =>
      obtain ⟨k, z, hk, rfl, rfl, hz⟩ := hrel
      have z0 : 0 ≤ z := by rw [hz.out]; unfold totTo; omega
      by_cases hlt : k < ls.length
      · obtain ⟨s, hs⟩ : ∃ s, ls[k]? = some s := ⟨_, List.getElem?_eq_getElem hlt⟩
        obtain ⟨b, off, rfl, hbl, hcell⟩ := HH.out.at hs
        have hsz := HBD.out s (List.mem_of_getElem? hs)
        have hzk := HTL.out k
        rw [← hz.out] at hzk
        have hfit : z + (s.size : Int) ≤ 9223372036854775807 := by omega
        have hfit0 : 0 ≤ z + (s.size : Int) := by omega
        have HZ : Hid (z + (s.size : Int) = totTo ls (k + 1)) := by
          show z + (s.size : Int) = _
          rw [totTo_succ hs, hz.out]
        have hkz : (k : Int) < ls.length := by omega
        have hk0 : (0 : Int) ≤ k := by omega
        clear hs hsz hzk hz
        go_wp2_with fail
        go_round
        case rel => exact ⟨k + 1, _, by omega, by go_num, rfl, HZ⟩
        case measure => simp only [intOf]; omega
      · obtain rfl : k = ls.length := by omega
        by_cases h4 : 4000 < z
        · go_wp2_with fail
          refine (HS.out _).mono ?_
          rintro e W3 ⟨rfl, hb⟩
          have HB2 := Lib.hid hb
          clear hb
          go_wp2_with fail
          go_ret
          exact ⟨rfl, HB2.out⟩
        · have ht : tot (bytesOf ls) ≤ 4000 := by
            have := hz.out
            unfold totTo at this
            rw [List.take_length] at this
            omega
          have HJ := Lib.hid (join_any ao ls cap W HH.out (by omega) ht)
          have HT := Lib.hid ht
          clear ht hz
          go_wp2_with fail
          refine HJ.out.mono ?_
          rintro e W1 ⟨v1, rfl, hr1, hb1⟩
          have HR1 := Lib.hid hr1
          have HB1 := Lib.hid hb1
          have HR := Lib.hid (rjoin_any ao ls cap W1 (HH.out.below hb1) (by omega) HT.out)
          clear hr1 hb1
          go_wp2_with fail
          refine HR.out.mono ?_
          rintro e W2 ⟨v2, rfl, hr2, hb2⟩
          obtain ⟨a1, c1, rfl, hs1⟩ := own_strs (owns_of_block HR1.out fun g e => hb2.block g (HR1.out.lt g e).2)
          obtain ⟨a2, c2, rfl, hs2⟩ := own_strs hr2
          have hjl : ((jn [] (bytesOf ls)).map mk8).length = (jn [] (bytesOf ls)).length := by simp
          have HLI := Lib.hid (list_any a1 a2 _ c1 c2 W2 hs1 hs2 (by
            rw [hjl]
            have := jn_length [] (bytesOf ls)
            simp at this
            omega))
          rw [hjl] at HLI
          have HB2 := Lib.hid (HB1.out.trans (hb2.mono HB1.out.size))
          clear hr2 hb2 hs1 hs2 hjl
          go_wp2_with fail
          refine HLI.out.mono ?_
          rintro e W3 ⟨rfl, hb3⟩
          have HB3 := Lib.hid (HB2.out.trans (hb3.mono HB2.out.size))
          clear hb3
          go_wp2_with fail
          refine (HS.out _).mono ?_
          rintro e W5 ⟨rfl, hb5⟩
          have HB5 := Lib.hid (HB3.out.trans (hb5.mono HB3.out.size))
          clear hb5
          go_wp2_with fail
          go_ret
          exact ⟨rfl, HB5.out⟩
end Go.Proofs.YtopgbbkndkincaaDoor
