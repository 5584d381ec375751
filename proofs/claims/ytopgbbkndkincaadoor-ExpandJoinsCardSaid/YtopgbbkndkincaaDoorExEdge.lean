/- Expand: what is thrown and caught at its edge. -/
import Derived.Test.YtopgbbkndkincaaDoorExLoop
namespace Go.Proofs.YtopgbbkndkincaaDoor
open Go.RowKit Go.PlainAid Go.Shelf

theorem assert_limit (w : World) : (Instr.typeAssert (.iface 46 (.agg #[])) 20 46 true).run Tryd.prog w = .ok (.tuple #[.agg #[], .bool true]) w := by kernel_rfl
theorem eql_limit (w : World) : (binOp .eql 20 (.iface 46 (.agg #[])) .nilIface).run Tryd.prog w = .ok (.bool false) w := by kernel_rfl
theorem eql_none (w : World) : (binOp .eql 20 .nilIface .nilIface).run Tryd.prog w = .ok (.bool true) w := by kernel_rfl

set_option maxRecDepth 100000 in
theorem catch_thrown (p : Addr) (x : Int) (older : List PanicEntry) (w : World) (hc : w.cell? p = some (.int .i64 x)) (hz : w.frozen? p = false) :
    CallsD Tryd.prog 21 #[.pointer (some p)] (.panicking ({ v := .iface 46 (.agg #[]), recovered := false } :: older)) w fun e u' w' =>
      e = .returned (.tuple #[]) ∧ u' = .panicking ({ v := .iface 46 (.agg #[]), recovered := true } :: older) ∧ w' = w.setCell p (.int .i64 2) := by
  refine callsD_of_wpS Tryd.func21 rfl fun c₀ cs hu => ?_
  apply wpS_seq
  apply wpS_region
  simp [wpOpsS, go_sem, recoverD, hu, Tryd.ntmps21, Exit.thenS]
  refine wpS_of_wp ?_
  rw [show (#[Value.pointer (some p)] ++ (Array.replicate 5 undef).setIfInBounds 0 (Value.iface 46 (Value.agg #[]))) = #[Value.pointer (some p), Value.iface 46 (Value.agg #[]), undef, undef, undef, undef] from rfl]
  clear hu
  have hta := assert_limit
  have hel := eql_limit
  go_wp2
  simp [bodyPostS, results, Tryd.results21, go_sem]

theorem catch_idle (p : Addr) (w : World) :
    CallsD Tryd.prog 21 #[.pointer (some p)] .returning w fun e u' w' => e = .returned (.tuple #[]) ∧ u' = .returning ∧ w' = w := by
  refine callsD_of_wpS Tryd.func21 rfl fun c₀ cs hu => ?_
  apply wpS_seq
  apply wpS_region
  simp [wpOpsS, go_sem, recoverD, hu, Tryd.ntmps21, Exit.thenS]
  refine wpS_of_wp ?_
  rw [show (#[Value.pointer (some p)] ++ (Array.replicate 5 undef).setIfInBounds 0 Value.nilIface) = #[Value.pointer (some p), Value.nilIface, undef, undef, undef, undef] from rfl]
  have hel := eql_none
  go_wp2
  cases c₀
  simp_all [bodyPostS, results, Tryd.results21]

/-- Is a text a line? -/
def lineB (s : ByteArray) : Bool := decide (s.size ≤ 2000) && !decide (0 ≤ Lib.indexByte s.data.toList 10)
theorem lineB_size {s : ByteArray} (h : lineB s = true) : s.size ≤ 2000 := by
  simp only [lineB, Bool.and_eq_true, decide_eq_true_eq] at h
  exact h.1
theorem isLine_any (s : ByteArray) (w : World) : Calls Tryd.prog 19 #[.string s] w (Says (.bool (lineB s)) w) := by
  by_cases h : s.size ≤ 2000
  · have HC := Lib.hid (Any.strings_Contains_one Tryd.containsL s 10 w)
    rw [show lineB s = !decide (0 ≤ Lib.indexByte s.data.toList 10) from by unfold lineB; rw [decide_eq_true h, Bool.true_and]]
    obtain ⟨c, hc⟩ : ∃ c, decide (0 ≤ Lib.indexByte s.data.toList 10) = c := ⟨_, rfl⟩
    rw [hc] at HC ⊢
    clear hc
    go_enter Tryd.func19, Tryd.ntmps19
    go_wp2_with fail
    refine (HC.out).mono ?_
    rintro e w1 ⟨rfl, rfl⟩
    go_wp2_with fail
    go_ret
    exact ⟨rfl, rfl⟩
  · rw [show lineB s = false from by unfold lineB; rw [decide_eq_false h, Bool.false_and]]
    have h' : 2000 < s.size := by omega
    go_enter Tryd.func19, Tryd.ntmps19
    go_wp2_with fail
    go_ret
    exact ⟨rfl, rfl⟩

theorem eql_func (fn : Fn) (first cap : Array Value) (w : World) : (binOp .eql 44 (.func fn first cap) .nilFunc).run Tryd.prog w = .ok (.bool false) w := by kernel_rfl
theorem eql_nofunc (w : World) : (binOp .eql 44 .nilFunc .nilFunc).run Tryd.prog w = .ok (.bool true) w := by kernel_rfl
theorem store_func (a : Addr) (fn : Fn) (first cap : Array Value) (w : World) : (store a (.func fn first cap)).run Tryd.prog w = stored Tryd.prog w a (.func fn first cap) .plain := run_store Tryd.prog w a _ .plain rfl
/-- A text that is no line, or nobody to be asked: refused. -/
def BadP (w : World) (e : Ending) (w' : World) : Prop := e = .returned (.tuple #[.string ⟨#[]⟩, .int .i64 1]) ∧ Below w.heap.size w w'
set_option maxRecDepth 100000 in
set_option maxHeartbeats 2000000 in
theorem expand_bad (s : ByteArray) (cm : Bool) (look : Value) (w : World) (h : lineB s = false) : Calls Tryd.prog 12 #[.string s, .bool cm, look] w (BadP w) := by
  have HL := Lib.hid (isLine_any s)
  rw [h] at HL
  clear h
  go_enter_defers Tryd.func12, Tryd.ntmps12
  go_wp2_with fail
  refine (HL.out _).mono ?_
  rintro e w1 ⟨rfl, rfl⟩
  go_wp2_with fail
  simp [bodyPostD, Leaves, results, Tryd.results12, go_sem]
  exact ⟨rfl, (Below.refl _ _).alloc (Nat.le_refl _) _⟩
set_option maxRecDepth 100000 in
set_option maxHeartbeats 2000000 in
theorem expand_none (s : ByteArray) (cm : Bool) (w : World) : Calls Tryd.prog 12 #[.string s, .bool cm, .nilFunc] w (BadP w) := by
  cases h : lineB s with
  | false => exact expand_bad s cm _ w h
  | true =>
    have HL := Lib.hid (isLine_any s)
    rw [h] at HL
    have hen := eql_nofunc
    clear h
    go_enter_defers Tryd.func12, Tryd.ntmps12
    go_wp2_with fail
    refine (HL.out _).mono ?_
    rintro e w1 ⟨rfl, rfl⟩
    go_wp2_with fail
    simp [bodyPostD, Leaves, results, Tryd.results12, go_sem]
    exact ⟨rfl, (Below.refl _ _).alloc (Nat.le_refl _) _⟩

/-- The expander that Expand makes, in its world. -/
theorem edge_in (A : Asker) (cm : Bool) (W : World) (hst : A.St 0 W) :
    In A (W.heap.size + 1) cm 0 ((W.alloc (.cells #[.int .i64 0] 28)).alloc (.cells #[A.look, .bool cm, .int .i64 0] 48)) ((W.alloc (.cells #[.int .i64 0] 28)).alloc (.cells #[A.look, .bool cm, .int .i64 0] 48)) ∧
    ∀ k, A.tk ((W.alloc (.cells #[.int .i64 0] 28)).alloc (.cells #[A.look, .bool cm, .int .i64 0] 48)) k ↔ A.tk W k := by
  have hb : Below W.heap.size W ((W.alloc (.cells #[.int .i64 0] 28)).alloc (.cells #[A.look, .bool cm, .int .i64 0] 48)) := ((Below.refl _ _).alloc (Nat.le_refl _) _).alloc (by simp) _
  obtain ⟨s1, s2⟩ := A.frame 0 W _ hst hb.size (fun k hk => hb.block k (A.own 0 W k hst hk))
  refine ⟨In.start s1 ?_ (fun e => ?_) (by omega), s2⟩
  · have := heap_alloc_new (W.alloc (.cells #[.int .i64 0] 28)) (.cells #[A.look, .bool cm, .int .i64 0] 48)
    simpa using this
  · have := A.own 0 W _ hst ((s2 _).1 e)
    omega
/-- What the world is behind it, whatever is stored in the cell of the error. -/
theorem edge_out {A : Asker} {cm : Bool} {a b : Nat} {W W2 : World} (hst : A.St 0 W) (h : In A (W.heap.size + 1) cm b ((W.alloc (.cells #[.int .i64 0] 28)).alloc (.cells #[A.look, .bool cm, .int .i64 a] 48)) W2)
    (hs2 : ∀ k, A.tk ((W.alloc (.cells #[.int .i64 0] 28)).alloc (.cells #[A.look, .bool cm, .int .i64 a] 48)) k ↔ A.tk W k) (u : Value) :
    W2.heap[W.heap.size]? = some (.cells #[.int .i64 0] 28 (0, 0)) ∧ A.St b (W2.setCell ⟨W.heap.size, 0, none⟩ u) ∧ Left A.tk W (W2.setCell ⟨W.heap.size, 0, none⟩ u) := by
  have hb : Below W.heap.size W ((W.alloc (.cells #[.int .i64 0] 28)).alloc (.cells #[A.look, .bool cm, .int .i64 a] 48)) := ((Below.refl _ _).alloc (Nat.le_refl _) _).alloc (by simp) _
  have hnt : ¬ A.tk W W.heap.size := fun e => Nat.lt_irrefl _ (A.own 0 W _ hst e)
  obtain ⟨e0, n0⟩ := h.block W.heap.size (by simp; omega) (by omega) (fun e => hnt ((hs2 _).1 e))
  have hblk : W2.heap[W.heap.size]? = some (.cells #[.int .i64 0] 28 (0, 0)) := by
    rw [e0]
    have := Below.heap_alloc (W.alloc (.cells #[.int .i64 0] 28)) (.cells #[A.look, .bool cm, .int .i64 a] 48) W.heap.size (by simp)
    rw [this]
    exact heap_alloc_new _ _
  obtain ⟨s1, s2⟩ := A.frame b W2 (W2.setCell ⟨W.heap.size, 0, none⟩ u) h.st (by simp) (fun k hk => set_other 0 (fun e => n0 (by rw [← e]; exact hk)))
  refine ⟨hblk, s1, h.os.trans hb.os, h.tape.trans hb.tape, h.output.trans hb.output, Nat.le_trans hb.size (Nat.le_trans h.size (by simp)), fun k hk hkt => ?_⟩
  obtain ⟨e1, n1⟩ := h.block k (Nat.lt_of_lt_of_le hk hb.size) (by omega) (fun e => hkt ((hs2 _).1 e))
  exact ⟨(set_other 0 (by omega)).trans (e1.trans (hb.block k hk)), fun e => n1 ((s2 k).1 e)⟩

/-- What Expand gives of a line, where somebody is asked. -/
def EdgeP (A : Asker) (cm : Bool) (s : ByteArray) (W : World) (e : Ending) (W' : World) : Prop :=
  ∃ o b, Ex A.r cm ⟨#[]⟩ s 0 o ∧ A.St b W' ∧ Left A.tk W W' ∧ match o with
    | some (t, c) => e = .returned (.tuple #[.string t, .int .i64 0]) ∧ b = c
    | none => e = .returned (.tuple #[.string ⟨#[]⟩, .int .i64 2])
set_option maxRecDepth 100000 in
set_option maxHeartbeats 2000000 in
theorem expand_some (A : Asker) (s : ByteArray) (cm : Bool) (W : World) (h : lineB s = true) (hst : A.St 0 W) : Calls Tryd.prog 12 #[.string s, .bool cm, A.look] W (EdgeP A cm s W) := by
  have HL := Lib.hid (isLine_any s)
  rw [h] at HL
  have hs := lineB_size h
  have hmf : ∀ (fn : Fn) (first cap : Array Value) (w : World), (Instr.makeFunc fn first cap).run Tryd.prog w = .ok (.func fn first cap) w := fun _ _ _ _ => rfl
  obtain ⟨hin, htk⟩ := edge_in A cm W hst
  have HE := Lib.hid (expand_all A s.size s _ cm 0 _ (Nat.le_refl _) (by omega) hin)
  have HTK := Lib.hid htk
  have HST := Lib.hid hst
  have hef := eql_func
  have hsf := store_func
  clear h hst hin htk
  go_enter_defers Tryd.func12, Tryd.ntmps12
  go_wp2_with fail
  refine (HL.out _).mono ?_
  rintro e w1 ⟨rfl, rfl⟩
  go_wp2_with fail
  refine HE.out.mono ?_
  rintro e W2 ⟨o, hE, hO⟩
  rcases o with _ | ⟨t, c⟩
  · obtain ⟨rfl, b, hI⟩ := hO
    obtain ⟨hblk, hS, hL⟩ := edge_out HST.out hI HTK.out (.int .i64 2)
    have hcell : W2.cell? ⟨W.heap.size, 0, none⟩ = some (.int .i64 0) := by unfold World.cell?; rw [hblk]; rfl
    have hfree : W2.frozen? ⟨W.heap.size, 0, none⟩ = false := by simp [World.frozen?, hblk]
    have HE2 := Lib.hid hE
    have HS := Lib.hid hS
    have HLF := Lib.hid hL
    clear hE hI hblk hS hL
    go_wp2_with fail
    refine leaves_cons (f := 21) (args := #[.pointer (some ⟨W.heap.size, 0, none⟩)]) (by simp) (by simp [go_sem]) ?_
    refine (catch_thrown ⟨W.heap.size, 0, none⟩ 0 [] _ hcell hfree).mono ?_
    rintro e u' w'' ⟨rfl, rfl, rfl⟩
    simp [Leaves, settle, results, Tryd.results12, go_sem, hcell]
    exact ⟨none, _, HE2.out, HS.out, HLF.out, rfl⟩
  · obtain ⟨rfl, hI⟩ := hO
    obtain ⟨hblk, hS, hL⟩ := edge_out HST.out hI HTK.out (.int .i64 0)
    have hcell : W2.cell? ⟨W.heap.size, 0, none⟩ = some (.int .i64 0) := by unfold World.cell?; rw [hblk]; rfl
    have hfree : W2.frozen? ⟨W.heap.size, 0, none⟩ = false := by simp [World.frozen?, hblk]
    have HE2 := Lib.hid hE
    have HS := Lib.hid hS
    have HLF := Lib.hid hL
    clear hE hI hblk hS hL
    go_wp2_with fail
    refine leaves_cons (f := 21) (args := #[.pointer (some ⟨W.heap.size, 0, none⟩)]) (by simp) (by simp [go_sem]) ?_
    refine (catch_idle ⟨W.heap.size, 0, none⟩ _).mono ?_
    rintro e u' w'' ⟨rfl, rfl, rfl⟩
    simp [Leaves, settle, results, Tryd.results12, go_sem, hcell]
    exact ⟨some (t, c), _, HE2.out, HS.out, HLF.out, rfl, rfl⟩
end Go.Proofs.YtopgbbkndkincaaDoor
