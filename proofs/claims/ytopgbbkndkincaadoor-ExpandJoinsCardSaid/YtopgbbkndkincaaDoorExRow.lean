/- The row of bytes that has come out: a string is put behind it. What a piece that stays looks like; what fits. -/
import Derived.Test.YtopgbbkndkincaaDoorExAsk
namespace Go.Proofs.YtopgbbkndkincaaDoor
open Go.RowKit Go.PlainAid Go.Lib

theorem byte_info : (Tryd.prog.info? 5).map (fun i => (i.zero, i.size, i.bytes)) = some (some (.int .u8 0), 1, 1) := by kernel_rfl

theorem owns_of_block {B e size n : Nat} {v : Value} {xs : List Value} {W W1 : World} (h : W.ownsRow B e size v n xs) (hk : ∀ k, v.ownBlock = some k → W1.heap[k]? = W.heap[k]?) : W1.ownsRow B e size v n xs := by
  refine ⟨h.1, ?_⟩
  rcases h.2 with ⟨h1, h2⟩ | ⟨g, cap, cur, rfl, h2, h3, h4⟩
  · exact .inl ⟨h1, h2⟩
  · exact .inr ⟨g, cap, cur, rfl, h2, (hk g rfl).trans h3, h4⟩

theorem run_val {α : Type} {a b : α} {w1 w2 : World} (h : (Result.ok a w1 : Result α) = .ok b w2) : a = b := by injection h
/-- Where what is appended to comes to lie: in its own row, or in a new one. -/
theorem app_str {B n : Nat} {v : Value} {xs : List Value} {W : World} (hown : W.ownsRow B 5 1 v n xs) (s : ByteArray) (hn : n + s.size ≤ 100000) (hB : B ≤ W.heap.size) :
    ∃ v' w', (Builtin.append_ #[40, 9] 40 #[v, .string s]).run Tryd.prog W = .ok v' w' ∧ w'.ownsRow B 5 1 v' (n + s.size) (xs ++ strCells s) ∧ W.grownBy w' v.ownBlock ∧
      (v'.ownBlock = v.ownBlock ∨ v'.ownBlock = some W.heap.size) := by
  obtain ⟨i0, hi, hz0, hz1, hz2⟩ := info_parts byte_info
  obtain ⟨v', w', hr, h1, h2, h3⟩ := run_append_own_string (P := Tryd.prog) W B 40 9 40 5 i0 Tryd.underlying40 Tryd.underlying9 hi hz0 hz1 hz2 v n xs hown s (by unfold maxLen; omega) (by omega) hB
  refine ⟨v', w', hr, h1, h2, ?_⟩
  rcases hown.2 with ⟨rfl, rfl⟩ | ⟨g, cap, cur, rfl, h4, h5, h6, h7, h8, h9⟩
  · rcases Nat.eq_zero_or_pos s.size with hz | hz
    · left; rw [h3.2 ⟨rfl, hz⟩]
    · right
      have := run_append_nil_string (P := Tryd.prog) W 40 9 40 5 i0 _ Tryd.underlying40 Tryd.underlying9 hi hz0 s hz (by omega) (by rw [hz2]; omega)
      exact (congrArg Value.ownBlock (run_val (hr.symm.trans this))).trans rfl
  · by_cases hroom : n + s.size ≤ cap
    · left
      have := run_append_room_string (P := Tryd.prog) W 40 9 40 5 i0 Tryd.underlying40 Tryd.underlying9 hi hz1 g n cap cur h5 s hroom (by omega)
      exact (congrArg Value.ownBlock (run_val (hr.symm.trans this))).trans rfl
    · right
      have := run_append_grow_string (P := Tryd.prog) W 40 9 40 5 i0 _ Tryd.underlying40 Tryd.underlying9 hi hz0 ⟨g, 0, none⟩ n cap xs (by rw [hown.1, hz1]) (hown.cells (g := g) rfl) s (by omega) (by omega) (growslice_fits (by omega) (by rw [hz2]; omega))
      exact (congrArg Value.ownBlock (run_val (hr.symm.trans this))).trans rfl

theorem wpList_str {W : World} {ops : Array Oper} {rest : List Oper} {o : Oper} {a : Act} {Q : Exit → Act → World → Prop} (hgd : o.guard = none) (sl x : Operand)
    (ho : o.op = .call { callee := .builtin .append, args := #[sl, x], argTypes := #[40, 9] }) (hty : o.type = 40)
    {B n : Nat} {v : Value} {xs : List Value} (hs : a.eval sl = v) (s : ByteArray) (hx : a.eval x = .string s) (hown : W.ownsRow B 5 1 v n xs) (hn : n + s.size ≤ 100000) (hB : B ≤ W.heap.size)
    (h : ∀ v' w', w'.ownsRow B 5 1 v' (n + s.size) (xs ++ strCells s) → W.grownBy w' v.ownBlock → (v'.ownBlock = v.ownBlock ∨ v'.ownBlock = some W.heap.size) → wpList Tryd.prog ops Q rest (a.put o.dst v') w') : wpList Tryd.prog ops Q (o :: rest) a W := by
  obtain ⟨v', w', hrun, h1, h2, h3⟩ := app_str hown s hn hB
  refine wpList_plain hgd fun K hK => ?_
  unfold Oper.wp
  simp [execOp, ho, hty, resolve, invoke, builtin, hs, hx, hrun, Result.andThen]
  exact hK _ _ (h v' w' h1 h2 h3)

section
variable {A : Asker} {x : Nat} {cm : Bool} {a b : Nat} {W0 W W1 : World} {v v' : Value} {t u : ByteArray}
theorem Row.keep {B : Nat} (h : Row A x B v t W) (i : In A x cm b W W1) : Row A x B v t W1 := by
  refine ⟨owns_of_block h.own fun k hk => (i.block k (h.lt k hk).2 (h.apart k hk).2 (h.apart k hk).1).1, fun k hk => ⟨(i.block k (h.lt k hk).2 (h.apart k hk).2 (h.apart k hk).1).2, (h.apart k hk).2⟩⟩
theorem Row.below {B : Nat} (h : Row A x B v t W) (i : In A x cm a W0 W) (hb : Below W.heap.size W W1) : Row A x B v t W1 := h.keep (i.again.below hb)
theorem strCells_app (t u : ByteArray) : strCells (t ++ u) = strCells t ++ strCells u := by
  unfold strCells
  rw [ByteArray.data_append, Array.toList_append, List.map_append]
/-- Behind an append. -/
theorem Row.grown (h : Row A x W0.heap.size v t W) (i : In A x cm a W0 W) (h1 : W1.ownsRow W0.heap.size 5 1 v' (t.size + u.size) (strCells t ++ strCells u)) (h2 : W.grownBy W1 v.ownBlock) (h3 : v'.ownBlock = v.ownBlock ∨ v'.ownBlock = some W.heap.size) :
    Row A x W0.heap.size v' (t ++ u) W1 ∧ In A x cm a W0 W1 := by
  have hi : In A x cm a W0 W1 := i.step h2.os h2.tape h2.output h2.size
    (h2.block x i.lt (fun e => (h.apart x e.symm).2 rfl))
    (fun k hk => h2.block k (A.own a W k i.st hk) (fun e => (h.apart k e.symm).1 hk))
    (fun k hk => h2.block k (Nat.lt_of_lt_of_le hk i.size) (fun e => by have := (h.lt k e.symm).1; omega))
  refine ⟨⟨?_, fun k hk => ?_⟩, hi⟩
  · rw [ByteArray.size_append, strCells_app]; exact h1
  · have hfr := (A.frame a W W1 i.st h2.size (fun k hk => h2.block k (A.own a W k i.st hk) (fun e => (h.apart k e.symm).1 hk))).2
    rcases h3 with h3 | h3
    · rw [h3] at hk
      exact ⟨fun e => (h.apart k hk).1 ((hfr k).1 e), (h.apart k hk).2⟩
    · rw [h3] at hk
      injection hk with hk
      have hx := i.lt
      refine ⟨fun e => ?_, by omega⟩
      have := A.own a W k i.st ((hfr k).1 e)
      omega
theorem Row.nil (B : Nat) : Row A x B (.slice none 0 0) ⟨#[]⟩ W := ⟨World.ownsRow_nil _ _ _ _, fun k hk => by cases hk⟩
end

set_option maxHeartbeats 1000000 in
theorem fit_any (a b : Int) (h0 : 0 ≤ a) (h1 : 0 ≤ b) (h : a + b ≤ 8000) (w : World) : Calls Tryd.prog 35 #[.int .i64 a, .int .i64 b] w (Says (.tuple #[]) w) := by
  go_enter Tryd.func35, Tryd.ntmps35
  go_wp2_with fail
  go_end0
  exact ⟨rfl, rfl⟩

theorem writM_no {t : ByteArray} : writM false t = t := rfl
theorem writM_a {t : ByteArray} (h : (t.toList == [92, 92]) = true) : writM true t = t.extract 1 t.size := by unfold writM; rw [h]; rfl
theorem writM_b {t : ByteArray} (h : (t.toList == [92, 46]) = true) : writM true t = t.extract 1 t.size := by unfold writM; rw [h, Bool.or_true]; rfl
theorem writM_c {t : ByteArray} (h : (t.toList == [92, 92]) = false) (h2 : (t.toList == [92, 46]) = false) : writM true t = t := by unfold writM; rw [h, h2]; rfl
set_option maxHeartbeats 1000000 in
theorem written_any {x : Nat} (cm : Bool) (t : ByteArray) (w : World) (hc : w.cell? ⟨x, 1, none⟩ = some (.bool cm)) : Calls Tryd.prog 33 #[.pointer (some ⟨x, 0, none⟩), .string t] w (Says (.string (writM cm t)) w) := by
  cases cm with
  | false =>
    rw [writM_no]
    go_enter Tryd.func33, Tryd.ntmps33
    go_wp2_with fail
    go_ret
    exact ⟨rfl, rfl⟩
  | true =>
    have size_of : ∀ {l : List UInt8} (_ : (t.toList == l) = true), t.size = l.length := fun {l} h => by
      have := eq_of_beq h
      rw [Lib.toList_data] at this
      rw [Lib.size_eq, this]
    cases h1 : (t.toList == [92, 92]) with
    | true =>
      rw [writM_a h1]
      have hz : 1 ≤ t.size := by rw [size_of h1]; decide
      go_enter Tryd.func33, Tryd.ntmps33
      go_wp2_with fail
      go_ret
      exact ⟨by rw [show t.size = t.toList.length from by rw [Lib.toList_data, Lib.size_eq]]; rfl, rfl⟩
    | false =>
      cases h2 : (t.toList == [92, 46]) with
      | true =>
        rw [writM_b h2]
        have hz : 1 ≤ t.size := by rw [size_of h2]; decide
        go_enter Tryd.func33, Tryd.ntmps33
        go_wp2_with fail
        go_ret
        exact ⟨by rw [show t.size = t.toList.length from by rw [Lib.toList_data, Lib.size_eq]]; rfl, rfl⟩
      | false =>
        rw [writM_c h1 h2]
        go_enter Tryd.func33, Tryd.ntmps33
        go_wp2_with fail
        go_ret
        exact ⟨rfl, rfl⟩
end Go.Proofs.YtopgbbkndkincaaDoor
