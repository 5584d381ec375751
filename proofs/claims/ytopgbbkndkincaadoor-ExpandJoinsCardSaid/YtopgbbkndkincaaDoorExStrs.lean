/- Lines that came in; a row of lines; which lines go on. -/
import Derived.Test.YtopgbbkndkincaaDoorExJoinPure
import Derived.Test.YtopgbbkndkincaaDoorExLay3
import Derived.Test.YtopgbbkndkincaaDoorExRow
import Derived.SliceStrings
namespace Go.Proofs.YtopgbbkndkincaaDoor
open Go.RowKit Go.PlainAid Go.Shelf

/-- Lines that lie one behind the other. -/
def Strs (ao : Option Addr) (ls : List ByteArray) (w : World) : Prop := ∃ b off, (0 < ls.length → ao = some ⟨b, off, none⟩ ∧ b < w.heap.size) ∧ ∀ (i : Nat) s, ls[i]? = some s → w.cell? ⟨b, off + i, none⟩ = some (.string s)
theorem Strs.below {ao : Option Addr} {ls : List ByteArray} {w w' : World} (h : Strs ao ls w) (hb : Below w.heap.size w w') : Strs ao ls w' := by
  obtain ⟨b, off, h1, h2⟩ := h
  refine ⟨b, off, fun hl => ⟨(h1 hl).1, Nat.lt_of_lt_of_le (h1 hl).2 hb.size⟩, fun i s hs => ?_⟩
  have hl : 0 < ls.length := by have := (List.getElem?_eq_some_iff.1 hs).1; omega
  rw [hb.cell (p := ⟨b, off + i, none⟩) (h1 hl).2]
  exact h2 i s hs
theorem Strs.at {ao : Option Addr} {ls : List ByteArray} {w : World} (h : Strs ao ls w) {i : Nat} {s : ByteArray} (hs : ls[i]? = some s) : ∃ b off, ao = some ⟨b, off, none⟩ ∧ b < w.heap.size ∧ w.cell? ⟨b, off + i, none⟩ = some (.string s) := by
  obtain ⟨b, off, h1, h2⟩ := h
  have hl : 0 < ls.length := by have := (List.getElem?_eq_some_iff.1 hs).1; omega
  exact ⟨b, off, (h1 hl).1, (h1 hl).2, h2 i s hs⟩

theorem str_info : (Tryd.prog.info? 9).map (fun i => (i.zero, i.size, i.bytes)) = some (some (.string ⟨#[]⟩), 1, 16) := by kernel_rfl
/-- One line is put behind the others: in their own row, or in a new one. -/
theorem app_line {B n : Nat} {v : Value} {xs : List Value} {s : ByteArray} {W : World} (hown : W.ownsRow B 9 1 v n xs) (ad : Addr) (hnews : W.cell? ad = some (.string s)) (hn : n + 1 ≤ 100000) (hB : B ≤ W.heap.size) :
    ∃ v' w', (Builtin.append_ #[22, 22] 22 #[v, .slice (some ad) 1 1]).run Tryd.prog W = .ok v' w' ∧ w'.ownsRow B 9 1 v' (n + 1) (xs ++ [.string s]) ∧ W.grownBy w' v.ownBlock ∧
      (v'.ownBlock = v.ownBlock ∨ v'.ownBlock = some W.heap.size) := by
  obtain ⟨i0, hi, hz0, hz1, hz2⟩ := info_parts str_info
  have hone : ∀ u ∈ [Value.string s], u.oneCell' = true := fun u hu => by simp at hu; subst hu; rfl
  have hadd : ∀ j u, [Value.string s][j]? = some u → W.cell? (ad.add j) = some u := fun j u hj => by
    rcases j with _ | j
    · simp at hj
      subst hj
      have : ad.add 0 = ad := by obtain ⟨b, o, sp⟩ := ad; cases sp <;> simp [Addr.add]
      rw [this]; exact hnews
    · simp at hj
  obtain ⟨v', w', hr, h3, h4, _⟩ := run_append_own (P := Tryd.prog) W B 22 22 9 i0 _ 1 16 Tryd.underlying22 hi hz0 hz1 hz2 rfl (by omega) v n xs hown ad 1 1 [.string s] rfl hadd hone (by unfold maxLen; omega) (by omega) hB
  refine ⟨v', w', hr, h3, h4, ?_⟩
  have hl' : [Value.string s].length = 1 * i0.size := by rw [hz1]; rfl
  rcases hown.2 with ⟨rfl, rfl⟩ | ⟨g, cap, cur, rfl, h5, h6, h7, h8, h9, h10⟩
  · right
    have := run_append_nil (P := Tryd.prog) W 22 22 9 i0 _ Tryd.underlying22 hi hz0 ad 1 1 [.string s] hl' hadd (by omega) (by omega) (by rw [hz2]; omega)
    exact (congrArg Value.ownBlock (run_val (hr.symm.trans this))).trans rfl
  · by_cases hroom : n + 1 ≤ cap
    · left
      have := run_append_room (P := Tryd.prog) W 22 22 9 i0 Tryd.underlying22 hi g n cap cur h6 ad 1 1 [.string s] hl' hadd hone hroom (by rw [hz1, h9]; simp; omega)
      exact (congrArg Value.ownBlock (run_val (hr.symm.trans this))).trans rfl
    · right
      have := run_append_grow (P := Tryd.prog) W 22 22 9 i0 _ Tryd.underlying22 hi hz0 ⟨g, 0, none⟩ n cap xs (by rw [hown.1, hz1]) (hown.cells (g := g) rfl) ad 1 1 [.string s] hl' hadd (by omega) (by omega) (growslice_fits (by omega) (by rw [hz2]; omega))
      exact (congrArg Value.ownBlock (run_val (hr.symm.trans this))).trans rfl
theorem wpList_line {W : World} {ops : Array Oper} {rest : List Oper} {o : Oper} {a : Act} {Q : Exit → Act → World → Prop} (hgd : o.guard = none) (sl x : Operand)
    (ho : o.op = .call { callee := .builtin .append, args := #[sl, x], argTypes := #[22, 22] }) (hty : o.type = 22)
    {B n : Nat} {v : Value} {xs : List Value} {s : ByteArray} (hs : a.eval sl = v) (ad : Addr) (hx : a.eval x = .slice (some ad) 1 1) (hnews : W.cell? ad = some (.string s)) (hown : W.ownsRow B 9 1 v n xs) (hn : n + 1 ≤ 100000) (hB : B ≤ W.heap.size)
    (h : ∀ v' w', w'.ownsRow B 9 1 v' (n + 1) (xs ++ [.string s]) → W.grownBy w' v.ownBlock → (v'.ownBlock = v.ownBlock ∨ v'.ownBlock = some W.heap.size) → wpList Tryd.prog ops Q rest (a.put o.dst v') w') : wpList Tryd.prog ops Q (o :: rest) a W := by
  obtain ⟨v', w', hrun, h1, h2, h3⟩ := app_line hown ad hnews hn hB
  refine wpList_plain hgd fun K hK => ?_
  unfold Oper.wp
  simp [execOp, ho, hty, resolve, invoke, builtin, hs, hx, hrun, Result.andThen]
  exact hK _ _ (h v' w' h1 h2 h3)

set_option maxHeartbeats 1000000 in
theorem goesOn_any (s : ByteArray) (hs : s.size ≤ 9223372036854775807) (w : World) : Calls Tryd.prog 17 #[.string s] w (Says (.bool (oddL s.data.toList)) w) := by
  have HT := Lib.hid (Any.strings_TrimRight_one Tryd.trimL s 92 (by decide) w hs)
  have h1 := tc_le s.data.toList
  have h2 := tc_trim s.data.toList
  rw [← Lib.size_eq] at h1 h2
  obtain ⟨t, ht⟩ : ∃ t : ByteArray, (⟨(Lib.trimRightB s.data.toList 92).toArray⟩ : ByteArray) = t := ⟨_, rfl⟩
  have h3 : t.size = s.size - tc s.data.toList := by rw [← h2, ← ht, Lib.size_eq]
  rw [ht] at HT
  have hle : t.size ≤ s.size := by omega
  have HO : Hid (oddL s.data.toList = (((s.size : Int) - t.size) % 2 == 1)) := by
    have e : (s.size : Int) - t.size = (tc s.data.toList : Nat) := by omega
    show oddL s.data.toList = _
    rw [e]
    unfold oddL
    rw [Bool.eq_iff_iff, beq_iff_eq, beq_iff_eq]
    omega
  clear h1 h2 h3 ht
  go_enter Tryd.func17, Tryd.ntmps17
  go_wp2_with fail
  refine HT.out.mono ?_
  rintro e w1 ⟨rfl, hw⟩
  subst w1
  go_wp2_with fail
  go_ret
  exact ⟨by rw [HO.out]; rfl, rfl⟩

set_option maxRecDepth 100000 in
set_option maxHeartbeats 1000000 in
theorem odd_any (s : ByteArray) (hs : s.size ≤ 9223372036854775807) (w : World) : Calls Tryd.prog 18 #[.string s] w (Says (.bool (oddL s.data.toList)) w) := by
  have hgb := get_bt s
  have hl : s.data.toList.length = s.size := (Lib.size_eq s).symm
  have HL := Lib.hid hl
  clear hl
  go_enter Tryd.func18, Tryd.ntmps18
  go_wp2_with fail
  go_loop [3] (fun i => ∃ k : Nat, k ≤ s.size ∧ i = .int .i64 k ∧ Hid (∀ j, j < k → s.data.toList.reverse[j]? = some 92)) (fun i => s.size - (intOf i).toNat)
  case atStart => exact ⟨0, by omega, rfl, fun j hj => absurd hj (Nat.not_lt_zero _)⟩
  case round =>
    obtain ⟨k, hk, rfl, hn⟩ := hrel
    have fin : (k = s.data.toList.reverse.length ∨ ∃ c, s.data.toList.reverse[k]? = some c ∧ c ≠ 92) → oddL s.data.toList = ((k : Int) % 2 == 1) := fun h => by
      have := tc_stop hn.out h
      unfold oddL tc
      rw [this, Bool.eq_iff_iff, beq_iff_eq, beq_iff_eq]
      omega
    have FIN := Lib.hid fin
    clear fin
    by_cases hlt : k < s.size
    · have hix : s.size - 1 - k < s.size := by omega
      have hi1 : ((s.size : Int) - 1 - k) = (s.size - 1 - k : Nat) := by omega
      have hrev : s.data.toList.reverse[k]? = some (s[s.size - 1 - k]'hix) := by
        rw [List.getElem?_reverse (by rw [HL.out]; exact hlt), HL.out, List.getElem?_eq_getElem (by rw [HL.out]; exact hix)]
        rfl
      have hbt : bt s (s.size - 1 - k) = ((s[s.size - 1 - k]'hix).toNat : Int) := (hgb _ hix).symm
      by_cases hb : (s[s.size - 1 - k]'hix) = 92
      · have hbb : (bt s (s.size - 1 - k) == 92) = true := by rw [hbt, hb]; rfl
        have hne : Hid (∀ j, j < k + 1 → s.data.toList.reverse[j]? = some 92) := fun j hj => by
          by_cases e : j = k
          · rw [e, hrev, hb]
          · exact hn.out j (by omega)
        obtain ⟨m, hm⟩ : ∃ m, s.size - 1 - k = m := ⟨_, rfl⟩
        rw [hm] at hi1 hbb hix
        clear hrev hbt hb hn hm FIN
        go_wp2_with fail
        go_round
        case rel => exact ⟨k + 1, by omega, by go_num, hne⟩
        case measure => simp [intOf]; omega
      · have hbb : (bt s (s.size - 1 - k) == 92) = false := by
          rw [hbt, beq_eq_false_iff_ne]
          intro e
          exact hb (by apply UInt8.toNat_inj.1; exact Int.ofNat_inj.1 e)
        have HF := Lib.hid (FIN.out (.inr ⟨_, hrev, hb⟩))
        obtain ⟨m, hm⟩ : ∃ m, s.size - 1 - k = m := ⟨_, rfl⟩
        rw [hm] at hi1 hbb hix
        clear hrev hbt hb hn hm FIN
        go_wp2_with fail
        go_ret
        exact ⟨by rw [HF.out]; rfl, rfl⟩
    · have HF := Lib.hid (FIN.out (.inl (by rw [List.length_reverse, HL.out]; omega)))
      clear hn FIN
      go_wp2_with fail
      go_ret
      exact ⟨by rw [HF.out]; rfl, rfl⟩
end Go.Proofs.YtopgbbkndkincaaDoor
