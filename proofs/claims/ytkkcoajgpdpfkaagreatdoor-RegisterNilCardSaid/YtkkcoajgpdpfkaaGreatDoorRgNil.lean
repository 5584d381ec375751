/- A nil book. -/
import Derived.Test.YtkkcoajgpdpfkaaGreatDoorRgForm
import Derived.Test.YtkkcoajgpdpfkaaGreatDoorRgSet
namespace Go.Proofs.YtkkcoajgpdpfkaaGreatDoor
open Go.RowKit Go.PlainAid Go.Maps Go.Shelf

abbrev RetV (v : Value) (w : World) (e : Ending) (w' : World) : Prop := e = .returned v ∧ Below w.heap.size w w'

theorem nameError_nil (s : ByteArray) (w : World) : Calls Tryz.prog 35 #[.pointer none, .string s] w fun e w' => e = .returned (.int .i64 1) ∧ w = w' := by
  go_enter Tryz.func35, Tryz.ntmps35
  go_wp2
  go_ret
  exact ⟨rfl, rfl⟩

theorem change_nil (s : ByteArray) (c : Int) (f : Value) (w : World) : Calls Tryz.prog 37 #[.pointer none, .string s, .int .i64 c, f] w (RetV (.int .i64 1) w) := by
  go_enter Tryz.func37, Tryz.ntmps37
  go_wp2_with fail
  refine (nameError_nil s _).mono ?_
  rintro e w1 ⟨rfl, rfl⟩
  go_wp2_with fail
  go_ret
  exact ⟨rfl, Below.refl _ _⟩

theorem value_nil (s : ByteArray) (w : World) : Calls Tryz.prog 13 #[.pointer none, .string s] w (RetV (.tuple #[.int .i64 0, .int .i64 1]) w) := by
  go_enter Tryz.func13, Tryz.ntmps13
  go_wp2_with fail
  refine (nameError_nil s _).mono ?_
  rintro e w1 ⟨rfl, rfl⟩
  go_wp2_with fail
  go_ret2
  exact ⟨rfl, Below.refl _ _⟩

theorem text_nil (s : ByteArray) (w : World) : Calls Tryz.prog 14 #[.pointer none, .string s] w (RetV (.tuple #[.string ⟨#[]⟩, .int .i64 1]) w) := by
  go_enter Tryz.func14, Tryz.ntmps14
  go_wp2_with fail
  refine (nameError_nil s _).mono ?_
  rintro e w1 ⟨rfl, rfl⟩
  go_wp2_with fail
  go_ret2
  exact ⟨rfl, Below.refl _ _⟩

theorem formatOf_nil (s : ByteArray) (w : World) : Calls Tryz.prog 15 #[.pointer none, .string s] w (RetV (.tuple #[.string ⟨#[]⟩, .int .i64 1]) w) := by
  go_enter Tryz.func15, Tryz.ntmps15
  go_wp2_with fail
  refine (nameError_nil s _).mono ?_
  rintro e w1 ⟨rfl, rfl⟩
  go_wp2_with fail
  go_ret2
  exact ⟨rfl, Below.refl _ _⟩

theorem move_nil (s : ByteArray) (up : Bool) (w : World) : Calls Tryz.prog 16 #[.pointer none, .string s, .bool up] w (RetV (.tuple #[.int .i64 0, .int .i64 1]) w) := by
  go_enter Tryz.func16, Tryz.ntmps16
  go_wp2_with fail
  refine (nameError_nil s _).mono ?_
  rintro e w1 ⟨rfl, rfl⟩
  go_wp2_with fail
  go_ret2
  exact ⟨rfl, Below.refl _ _⟩

theorem remove_nil (s : ByteArray) (w : World) : Calls Tryz.prog 20 #[.pointer none, .string s] w (RetV (.int .i64 1) w) := by
  go_enter Tryz.func20, Tryz.ntmps20
  go_wp2_with fail
  refine (nameError_nil s _).mono ?_
  rintro e w1 ⟨rfl, rfl⟩
  go_wp2_with fail
  go_ret
  exact ⟨rfl, Below.refl _ _⟩

theorem has_nil (s : ByteArray) (w : World) : Calls Tryz.prog 22 #[.pointer none, .string s] w (RetV (.bool false) w) := by
  go_enter Tryz.func22, Tryz.ntmps22
  go_wp2_with fail
  go_ret
  exact ⟨rfl, Below.refl _ _⟩
theorem names_nil (w : World) : Calls Tryz.prog 23 #[.pointer none] w (RetV (.slice none 0 0) w) := by
  go_enter Tryz.func23, Tryz.ntmps23
  go_wp2_with fail
  go_ret
  exact ⟨rfl, Below.refl _ _⟩
theorem copy_nil (w : World) : Calls Tryz.prog 11 #[.pointer none] w (RetV (.pointer none) w) := by
  go_enter Tryz.func11, Tryz.ntmps11
  go_wp2_with fail
  go_ret
  exact ⟨rfl, Below.refl _ _⟩

set_option maxRecDepth 100000 in
theorem set_nil (s : ByteArray) (v : Int) (w : World) : Calls Tryz.prog 17 #[.pointer none, .string s, .int .i64 v] w (RetV (.int .i64 1) w) := by
  have hmf : ∀ (fn : Fn) (first cap : Array Value) (w : World), (Instr.makeFunc fn first cap).run Tryz.prog w = .ok (.func fn first cap) w := fun _ _ _ _ => rfl
  have HR := Lib.hid (rangeError_any v)
  go_enter Tryz.func17, Tryz.ntmps17
  go_wp2_with fail
  refine (HR.out _).mono ?_
  rintro e w1 ⟨rfl, rfl⟩
  go_wp2_with fail
  refine (change_nil s _ _ _).mono ?_
  rintro e w2 ⟨rfl, hb⟩
  go_wp2_with fail
  go_ret
  exact ⟨rfl, ((Below.refl _ _).alloc (Nat.le_refl _) _).trans (hb.mono (by simp))⟩

set_option maxRecDepth 100000 in
theorem step_nil (s : ByteArray) (v : Int) (w : World) : Calls Tryz.prog 18 #[.pointer none, .string s, .int .i64 v] w (RetV (.int .i64 1) w) := by
  have hmf : ∀ (fn : Fn) (first cap : Array Value) (w : World), (Instr.makeFunc fn first cap).run Tryz.prog w = .ok (.func fn first cap) w := fun _ _ _ _ => rfl
  have HR := Lib.hid (rangeError_any v)
  go_enter Tryz.func18, Tryz.ntmps18
  go_wp2_with fail
  refine (HR.out _).mono ?_
  rintro e w1 ⟨rfl, rfl⟩
  go_wp2_with fail
  refine (change_nil s _ _ _).mono ?_
  rintro e w2 ⟨rfl, hb⟩
  go_wp2_with fail
  go_ret
  exact ⟨rfl, ((Below.refl _ _).alloc (Nat.le_refl _) _).trans (hb.mono (by simp))⟩

set_option maxRecDepth 100000 in
theorem format_nil (s f : ByteArray) (hf : f.size ≤ 9223372036854775807) (w : World) : Calls Tryz.prog 19 #[.pointer none, .string s, .string f] w (RetV (.int .i64 1) w) := by
  have hmf : ∀ (fn : Fn) (first cap : Array Value) (w : World), (Instr.makeFunc fn first cap).run Tryz.prog w = .ok (.func fn first cap) w := fun _ _ _ _ => rfl
  have HR := Lib.hid (formError_any f hf)
  have hal : Below w.heap.size w (w.alloc (.cells #[.string f] 9)) := (Below.refl _ _).alloc (Nat.le_refl _) _
  go_enter Tryz.func19, Tryz.ntmps19
  go_wp2_with fail
  refine (HR.out _).mono ?_
  rintro e w1 ⟨rfl, hb1⟩
  have hk1 := hal.trans (hb1.mono hal.size)
  go_wp2_with fail
  refine (change_nil s _ _ _).mono ?_
  rintro e w2 ⟨rfl, hb⟩
  go_wp2_with fail
  go_ret
  exact ⟨rfl, hk1.trans (hb.mono hk1.size)⟩

set_option maxRecDepth 100000 in
theorem rename_nil (s f : ByteArray) (w : World) : Calls Tryz.prog 21 #[.pointer none, .string s, .string f] w (RetV (.int .i64 1) w) := by
  go_enter Tryz.func21, Tryz.ntmps21
  go_wp2_with fail
  go_loop [15] (fun i => i = .int .i64 0) (fun _ => 0)
  case atStart => rfl
  case round =>
    subst hrel
    go_wp2_with fail
    refine (nameError_nil s _).mono ?_
    rintro e w1 ⟨rfl, rfl⟩
    go_wp2_with fail
    go_ret
    exact ⟨rfl, (Below.refl _ _).alloc (Nat.le_refl _) _⟩

set_option maxRecDepth 100000 in
set_option maxHeartbeats 2000000 in
theorem nil_any (s f : ByteArray) (n : Int) (hf : f.size ≤ 9223372036854775807) (w : World) : Calls Tryz.prog 5 #[.string s, .string f, .int .i64 n] w (RetV (.bool true) w) := by
  have HF := Lib.hid hf
  clear hf
  go_enter Tryz.func5, Tryz.ntmps5
  go_wp2_with fail
  refine (value_nil s _).mono ?_
  rintro e w1 ⟨rfl, hb⟩
  go_wp2_with fail
  refine (text_nil s _).mono ?_
  rintro e w2 ⟨rfl, hb2⟩
  replace hb := hb.trans (hb2.mono hb.size); clear hb2
  go_wp2_with fail
  refine (formatOf_nil s _).mono ?_
  rintro e w3 ⟨rfl, hb2⟩
  replace hb := hb.trans (hb2.mono hb.size); clear hb2
  go_wp2_with fail
  refine (move_nil s _ _).mono ?_
  rintro e w4 ⟨rfl, hb2⟩
  replace hb := hb.trans (hb2.mono hb.size); clear hb2
  go_wp2_with fail
  refine (set_nil s _ _).mono ?_
  rintro e w5 ⟨rfl, hb2⟩
  replace hb := hb.trans (hb2.mono hb.size); clear hb2
  go_wp2_with fail
  refine (step_nil s _ _).mono ?_
  rintro e w6 ⟨rfl, hb2⟩
  replace hb := hb.trans (hb2.mono hb.size); clear hb2
  go_wp2_with fail
  refine (format_nil s f HF.out _).mono ?_
  rintro e w7 ⟨rfl, hb2⟩
  replace hb := hb.trans (hb2.mono hb.size); clear hb2
  go_wp2_with fail
  refine (remove_nil s _).mono ?_
  rintro e w8 ⟨rfl, hb2⟩
  replace hb := hb.trans (hb2.mono hb.size); clear hb2
  go_wp2_with fail
  refine (rename_nil s f _).mono ?_
  rintro e w9 ⟨rfl, hb2⟩
  replace hb := hb.trans (hb2.mono hb.size); clear hb2
  go_wp2_with fail
  refine (has_nil s _).mono ?_
  rintro e w10 ⟨rfl, hb2⟩
  replace hb := hb.trans (hb2.mono hb.size); clear hb2
  go_wp2_with fail
  refine (names_nil _).mono ?_
  rintro e w11 ⟨rfl, hb2⟩
  replace hb := hb.trans (hb2.mono hb.size); clear hb2
  go_wp2_with fail
  refine (copy_nil _).mono ?_
  rintro e w12 ⟨rfl, hb2⟩
  replace hb := hb.trans (hb2.mono hb.size); clear hb2
  go_wp2_with fail
  refine (sane_any _).mono ?_
  rintro e w13 ⟨rfl, rfl⟩
  go_wp2_with fail
  go_ret
  exact ⟨rfl, hb⟩
end Go.Proofs.YtkkcoajgpdpfkaaGreatDoor
