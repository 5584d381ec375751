/- A store that is none: nil, or one that New did not make. -/
import Derived.Test.YtghpcfodjacdpaaStLay2
import Derived.Test.YtghpcfodjacdpaaStOps
namespace Go.Proofs.Ytghpcfodjacdpaa
open Go.RowKit Go.PlainAid Go.Maps Go.Sort Go.Shelf

/-- A receiver that is no store. -/
def NoneAt (v : Value) (w : World) : Prop := v = .pointer none ∨ ∃ b, v = .pointer (some ⟨b, 0, none⟩) ∧ b < w.heap.size ∧ w.cell? ⟨b, 0, none⟩ = some (.map none)
theorem NoneAt.below {v : Value} {w w' : World} (h : NoneAt v w) (hb : Below w.heap.size w w') : NoneAt v w' := by
  rcases h with h | ⟨b, h1, h2, h3⟩
  · exact .inl h
  · exact .inr ⟨b, h1, Nat.lt_of_lt_of_le h2 hb.size, by rw [hb.cell (p := ⟨b, 0, none⟩) h2]; exact h3⟩

theorem none_isNone {v : Value} {w : World} (h : NoneAt v w) : Calls Try.prog 46 #[v] w (Says (.bool true) w) := by
  have hm : ∀ w, (binOp .eql 48 (.map none) (.map none)).run Try.prog w = .ok (.bool true) w := fun _ => by kernel_rfl
  rcases h with rfl | ⟨b, rfl, h2, h3⟩
  · go_enter Try.func46, Try.ntmps46
    go_wp2_with fail
    go_ret
    exact ⟨rfl, rfl⟩
  · go_enter Try.func46, Try.ntmps46
    go_wp2_with fail
    go_ret
    exact ⟨rfl, rfl⟩
theorem none_refusal {v : Value} {w : World} (h : NoneAt v w) (s : ByteArray) (c : Bool) : Calls Try.prog 29 #[v, .string s, .bool c] w (Says (.int .i64 1) w) := by
  have HN := Lib.hid (none_isNone h)
  clear h
  go_enter Try.func29, Try.ntmps29
  go_wp2_with fail
  refine (HN.out).mono ?_
  rintro e w1 ⟨rfl, rfl⟩
  go_wp2_with fail
  go_ret
  exact ⟨rfl, rfl⟩
theorem none_find {v : Value} {w : World} (h : NoneAt v w) (s : ByteArray) : Calls Try.prog 33 #[v, .string s] w (Says (.tuple #[.pointer none, .int .i64 1]) w) := by
  have HN := Lib.hid (none_isNone h)
  clear h
  go_enter Try.func33, Try.ntmps33
  go_wp2_with fail
  refine (HN.out).mono ?_
  rintro e w1 ⟨rfl, rfl⟩
  go_wp2_with fail
  go_ret2
  exact ⟨rfl, rfl⟩
theorem none_text {v : Value} {w : World} (h : NoneAt v w) (s : ByteArray) : Calls Try.prog 13 #[v, .string s] w (Says (.tuple #[.string ⟨#[]⟩, .int .i64 1]) w) := by
  have HN := Lib.hid (none_find h s)
  clear h
  go_enter Try.func13, Try.ntmps13
  go_wp2_with fail
  refine (HN.out).mono ?_
  rintro e w1 ⟨rfl, rfl⟩
  go_wp2_with fail
  go_ret2
  exact ⟨rfl, rfl⟩
theorem none_lines {v : Value} {w : World} (h : NoneAt v w) (s : ByteArray) : Calls Try.prog 17 #[v, .string s] w (Says (.tuple #[.slice none 0 0, .int .i64 1]) w) := by
  have HN := Lib.hid (none_find h s)
  clear h
  go_enter Try.func17, Try.ntmps17
  go_wp2_with fail
  refine (HN.out).mono ?_
  rintro e w1 ⟨rfl, rfl⟩
  go_wp2_with fail
  go_ret2
  exact ⟨rfl, rfl⟩
theorem none_length {v : Value} {w : World} (h : NoneAt v w) (s : ByteArray) : Calls Try.prog 25 #[v, .string s] w (Says (.tuple #[.int .i64 0, .int .i64 1]) w) := by
  have HN := Lib.hid (none_find h s)
  clear h
  go_enter Try.func25, Try.ntmps25
  go_wp2_with fail
  refine (HN.out).mono ?_
  rintro e w1 ⟨rfl, rfl⟩
  go_wp2_with fail
  go_ret2
  exact ⟨rfl, rfl⟩
set_option maxRecDepth 100000 in
theorem none_copy {v : Value} {w : World} (h : NoneAt v w) : Calls Try.prog 27 #[v] w (Says (.pointer none) w) := by
  have HN := Lib.hid (none_isNone h)
  clear h
  go_enter Try.func27, Try.ntmps27
  go_wp2_with fail
  refine (HN.out).mono ?_
  rintro e w1 ⟨rfl, rfl⟩
  go_wp2_with fail
  go_ret
  exact ⟨rfl, rfl⟩
theorem none_rename {v : Value} {w : World} (h : NoneAt v w) (s t : ByteArray) : Calls Try.prog 28 #[v, .string s, .string t] w (Says (.int .i64 1) w) := by
  have HN := Lib.hid (none_find h s)
  clear h
  go_enter Try.func28, Try.ntmps28
  go_wp2_with fail
  refine (HN.out).mono ?_
  rintro e w1 ⟨rfl, rfl⟩
  go_wp2_with fail
  go_ret
  exact ⟨rfl, rfl⟩
theorem none_alias {v : Value} {w : World} (h : NoneAt v w) (s t : ByteArray) : Calls Try.prog 20 #[v, .string s, .string t] w (Says (.int .i64 1) w) := by
  have HN := Lib.hid (none_find h t)
  clear h
  go_enter Try.func20, Try.ntmps20
  go_wp2_with fail
  refine (HN.out).mono ?_
  rintro e w1 ⟨rfl, rfl⟩
  go_wp2_with fail
  go_ret
  exact ⟨rfl, rfl⟩
theorem none_chop {v : Value} {w : World} (h : NoneAt v w) (s : ByteArray) : Calls Try.prog 40 #[v, .string s] w (Says (.int .i64 1) w) := by
  have HN := Lib.hid (none_find h s)
  clear h
  go_enter Try.func40, Try.ntmps40
  go_wp2_with fail
  refine (HN.out).mono ?_
  rintro e w1 ⟨rfl, rfl⟩
  go_wp2_with fail
  go_ret
  exact ⟨rfl, rfl⟩
theorem none_part {v : Value} {w : World} (h : NoneAt v w) (s : ByteArray) (p q : Int) : Calls Try.prog 24 #[v, .string s, .int .i64 p, .int .i64 q] w (Says (.int .i64 1) w) := by
  have HN := Lib.hid (none_find h s)
  clear h
  go_enter Try.func24, Try.ntmps24
  go_wp2_with fail
  refine (HN.out).mono ?_
  rintro e w1 ⟨rfl, rfl⟩
  go_wp2_with fail
  go_ret
  exact ⟨rfl, rfl⟩
theorem none_remove {v : Value} {w : World} (h : NoneAt v w) (s : ByteArray) : Calls Try.prog 23 #[v, .string s] w (Says (.int .i64 1) w) := by
  have HN := Lib.hid (none_refusal h s true)
  clear h
  go_enter Try.func23, Try.ntmps23
  go_wp2_with fail
  refine (HN.out).mono ?_
  rintro e w1 ⟨rfl, rfl⟩
  go_wp2_with fail
  go_ret
  exact ⟨rfl, rfl⟩
set_option maxRecDepth 100000 in
theorem none_define {v : Value} {w : World} (h : NoneAt v w) (s t : ByteArray) : Calls Try.prog 11 #[v, .string s, .string t] w (Says (.int .i64 1) w) := by
  have HT := Lib.hid (isText_any t w)
  have HN := Lib.hid (none_refusal h s (textB t))
  clear h
  go_enter Try.func11, Try.ntmps11
  go_wp2_with fail
  refine (HT.out).mono ?_
  rintro e w1 ⟨rfl, rfl⟩
  go_wp2_with fail
  refine (HN.out).mono ?_
  rintro e w1 ⟨rfl, rfl⟩
  go_wp2_with fail
  go_ret
  exact ⟨rfl, rfl⟩
set_option maxRecDepth 100000 in
theorem none_append {v : Value} {w : World} (h : NoneAt v w) (s t : ByteArray) : Calls Try.prog 12 #[v, .string s, .string t] w (Says (.int .i64 1) w) := by
  have HT := Lib.hid (isText_any t w)
  have HN := Lib.hid (none_refusal h s (textB t))
  clear h
  go_enter Try.func12, Try.ntmps12
  go_wp2_with fail
  refine (HT.out).mono ?_
  rintro e w1 ⟨rfl, rfl⟩
  go_wp2_with fail
  refine (HN.out).mono ?_
  rintro e w1 ⟨rfl, rfl⟩
  go_wp2_with fail
  go_ret
  exact ⟨rfl, rfl⟩

theorem none_at {b : Nat} {w : World} (hb : b < w.heap.size) (h3 : w.cell? ⟨b, 0, none⟩ = some (.map none)) (s : ByteArray) (hs : s.size ≤ maxLen) :
    Calls Try.prog 32 #[.pointer (some ⟨b, 0, none⟩), .string s] w (Makes (.agg #[.int .i64 0, .string ⟨#[]⟩, .slice none 0 0]) w) := by
  have h1 := fun W => Maps.look_nil (P := Try.prog) (w := W) (t := 48) true str_keyed Try.underlying48 (zero_run W) (key_of s hs)
  simp only [ptrV, Option.map_none] at h1
  have hc1 : (w.alloc (.cells #[.int .i64 0, .string ⟨#[]⟩, .slice none 0 0] 61)).cell? ⟨b, 0, none⟩ = some (.map none) := by
    rw [((Below.refl w.heap.size w).alloc (Nat.le_refl _) _).cell (p := ⟨b, 0, none⟩) hb]; exact h3
  go_enter Try.func32, Try.ntmps32
  go_wp2
  simp [bodyPost, results, Try.results32, go_sem]
  exact ⟨rfl, (Below.refl _ _).alloc (Nat.le_refl _) _⟩
theorem field_kind (a b c : Value) (w : World) : (Instr.field 61 (.agg #[a, b, c]) 0).run Try.prog w = .ok a w := by kernel_rfl
theorem none_kind {v : Value} {w : World} (h : NoneAt v w) (s : ByteArray) (hs : s.size ≤ maxLen) : Calls Try.prog 22 #[v, .string s] w (Makes (.int .i64 0) w) := by
  rcases h with rfl | ⟨b, rfl, h2, h3⟩
  · go_enter Try.func22, Try.ntmps22
    go_wp2_with fail
    go_ret
    exact ⟨rfl, Below.refl _ _⟩
  · have HA := Lib.hid (none_at h2 h3 s hs)
    have hfd := field_kind
    clear h2 h3
    go_enter Try.func22, Try.ntmps22
    go_wp2_with fail
    refine (HA.out).mono ?_
    rintro e w1 ⟨rfl, hb⟩
    go_wp2_with fail
    go_ret
    exact ⟨rfl, hb⟩

theorem sorts_at (m : Nat) : AnyZ.SortsIn Try.prog Try.sortedL_ren Fence.wide m :=
  ⟨fun blk off cap ss W hH hblk hsz => callsIn_wide.2 (AnyM.slices_Sort_string Try.sortL blk off cap ss W hH hblk hsz),
   fun p cap W => callsIn_wide.2 (AnyM.slices_Sort_string_none Try.sortL p cap W)⟩
theorem keys_at (mb : Option Nat) (W : World) : CallsIn Fence.wide 5 Try.prog 45 #[.map mb] W fun e w' => e = .returned (.func (.func 58) #[] #[.pointer (some ⟨W.heap.size, 0, none⟩)]) ∧ w' = W.alloc (.cells #[.map mb] 48) :=
  AnyZ.keys_in Try.keysL Fence.wide 5 trivial rfl mb W
set_option maxHeartbeats 1000000 in
theorem sorted_none (w : World) : CallsIn Fence.wide 5 Try.prog 44 #[.func (.func 58) #[] #[.pointer (some ⟨w.heap.size, 0, none⟩)]] (w.alloc (.cells #[.map none] 48))
      fun e w' => e = .returned (.slice none 0 0) ∧ Below (w.alloc (.cells #[.map none] 48)).heap.size (w.alloc (.cells #[.map none] 48)) w' := by
  have hseq : SeqGives Fence.wide 2 Try.prog 58 #[.pointer (some ⟨w.heap.size, 0, none⟩)] encStr (fun ss : List (List UInt8) => ss = []) 0 (w.alloc (.cells #[.map none] 48)) :=
    AnyZ.keys_gives_nil (ρ := Try.keysL_ren) { Try.keysL with } Fence.wide _ trivial rfl w.heap.size _ (by simp) (by simp)
  refine (AnyZ.sorted_in Try.sortedL Fence.wide 5 trivial trivial trivial trivial rfl (by omega) (sorts_at _) (enters_of Try.func57 (by kernel_rfl) rfl) 58 #[.pointer (some ⟨w.heap.size, 0, none⟩)] trivial (enters_of Try.func58 (by kernel_rfl) rfl) _ _ (by omega) (by omega) _ hseq).mono ?_
  rintro e w' ⟨v, ss, rfl, rfl, _, hn, hb⟩
  exact ⟨by rw [hn.2 rfl], hb⟩
set_option maxHeartbeats 1000000 in
theorem none_names {v : Value} {w : World} (h : NoneAt v w) : Calls Try.prog 26 #[v] w (Makes (.slice none 0 0) w) := by
  rcases h with rfl | ⟨b, rfl, h2, h3⟩
  · go_enter Try.func26, Try.ntmps26
    go_wp2_with fail
    go_ret
    exact ⟨rfl, Below.refl _ _⟩
  · refine (callsIn_wide (n := 6)).1 ?_
    have hfK : Fence.wide.fn 45 := trivial
    have hfS : Fence.wide.fn 44 := trivial
    refine callsIn_of_wp Try.func26 rfl trivial ?_ rfl
    simp only [Try.ntmps26, List.size_toArray, List.length_cons, List.length_nil, Nat.reduceAdd, Nat.reduceSub, Array.replicate_succ, Array.replicate_zero, List.push_toArray, List.append_toArray, List.nil_append, List.cons_append]
    gi_wp2_with (first
      | (gi_at_call 45; refine (keys_at _ _).mono ?_; rintro e w' ⟨rfl, rfl⟩)
      | (gi_at_call 44; refine (sorted_none w).mono ?_; rintro e w' ⟨rfl, hb⟩))
    go_ret
    exact ⟨rfl, ((Below.refl _ w).alloc (Nat.le_refl _) _).trans (hb.mono (by simp))⟩
end Go.Proofs.Ytghpcfodjacdpaa
