/- attempt: what is thrown within work becomes its error. -/
import Derived.Test.YtkkcoajgpdpfkabDoorMsEval
namespace Go.Proofs.YtkkcoajgpdpfkabDoor
open Go.RowKit Go.PlainAid

theorem assert_errno (c : Int) (w : World) : (Instr.typeAssert (.iface 31 (.int .i64 c)) 20 31 true).run Tryd.prog w = .ok (.tuple #[.int .i64 c, .bool true]) w := by kernel_rfl

set_option maxRecDepth 100000 in
theorem catch_thrown (p : Addr) (x c : Int) (older : List PanicEntry) (w : World) (hc : w.cell? p = some (.int .i64 x)) (hz : w.frozen? p = false) :
    CallsD Tryd.prog 55 #[.pointer (some p)] (.panicking ({ v := .iface 31 (.int .i64 c), recovered := false } :: older)) w fun e u' w' =>
      e = .returned (.tuple #[]) ∧ u' = .panicking ({ v := .iface 31 (.int .i64 c), recovered := true } :: older) ∧ w' = w.setCell p (.int .i64 c) := by
  refine callsD_of_wpS Tryd.func55 rfl fun c₀ cs hu => ?_
  apply wpS_seq
  apply wpS_region
  simp [wpOpsS, go_sem, recoverD, hu, Tryd.ntmps55, Exit.thenS]
  refine wpS_of_wp ?_
  rw [show (#[Value.pointer (some p)] ++ (Array.replicate 9 undef).setIfInBounds 3 (Value.iface 31 (Value.int .i64 c))) = #[Value.pointer (some p), undef, undef, undef, Value.iface 31 (Value.int .i64 c), undef, undef, undef, undef, undef] from rfl]
  clear hu
  have hta := assert_errno c
  go_wp2
  simp [bodyPostS, results, Tryd.results55, go_sem]

theorem catch_idle (p : Addr) (w : World) :
    CallsD Tryd.prog 55 #[.pointer (some p)] .returning w fun e u' w' => e = .returned (.tuple #[]) ∧ u' = .returning ∧ w' = w := by
  refine callsD_of_wpS Tryd.func55 rfl fun c₀ cs hu => ?_
  apply wpS_seq
  apply wpS_region
  simp [wpOpsS, go_sem, recoverD, hu, Tryd.ntmps55, Exit.thenS]
  refine wpS_of_wp ?_
  rw [show (#[Value.pointer (some p)] ++ (Array.replicate 9 undef).setIfInBounds 3 Value.nilIface) = #[Value.pointer (some p), undef, undef, undef, Value.nilIface, undef, undef, undef, undef, undef] from rfl]
  go_wp2
  cases c₀
  simp_all [bodyPostS, results, Tryd.results55]

/-- A value and no error, or an error and zero. -/
def Edge (r : Ms.Res Int) (w : World) (e : Ending) (w' : World) : Prop :=
  match r with
  | .ok v => e = .returned (.tuple #[.int .i64 v, .int .i64 0]) ∧ Kept w w'
  | .er c => e = .returned (.tuple #[.int .i64 0, .int .i64 c]) ∧ Kept w w'

/-- How a call that may throw ends, and what else holds of the world behind it. -/
def EndV (r : Ms.Res Int) (R : World → Prop) (e : Ending) (w' : World) : Prop :=
  match r with
  | .ok v => e = .returned (.int .i64 v) ∧ R w'
  | .er c => e = thrown c ∧ R w'
def EndE (r : Ms.Res Int) (R : World → Prop) (e : Ending) (w' : World) : Prop :=
  match r with
  | .ok v => e = .returned (.tuple #[.int .i64 v, .int .i64 0]) ∧ R w'
  | .er c => e = .returned (.tuple #[.int .i64 0, .int .i64 c]) ∧ R w'

set_option maxRecDepth 100000 in
set_option maxHeartbeats 1000000 in
theorem attempt_gen (f : FuncId) (first cap : Array Value) (hcf : ∀ w, (callFunc f (first ++ cap)).run Tryd.prog w = .ok (.enter f (first ++ cap)) w) (r : Ms.Res Int) (w : World) (R : World → Prop)
    (hR : ∀ w2 u, R w2 → R (w2.setCell ⟨w.heap.size, 0, none⟩ u))
    (hw : Calls Tryd.prog f (first ++ cap) (w.alloc (.cells #[.int .i64 0] 31)) (EndV r fun w2 => w2.heap[w.heap.size]? = some (.cells #[.int .i64 0] 31 (0, 0)) ∧ R w2)) :
    Calls Tryd.prog 34 #[.func (.func f) first cap] w (EndE r R) := by
  have hmf : ∀ (fn : Fn) (first cap : Array Value) (w : World), (Instr.makeFunc fn first cap).run Tryd.prog w = .ok (.func fn first cap) w := fun _ _ _ _ => rfl
  have HW := Lib.hid hw
  clear hw
  rcases r with v | c
  · go_enter_defers Tryd.func34, Tryd.ntmps34
    go_wp2_with fail
    refine (HW.out).mono ?_
    rintro e w1 ⟨rfl, hblk, hr⟩
    have hcell : w1.cell? ⟨w.heap.size, 0, none⟩ = some (.int .i64 0) := cell_of_one hblk
    have hfree : w1.frozen? ⟨w.heap.size, 0, none⟩ = false := free_of_one hblk
    clear hblk
    go_wp2_with fail
    refine leaves_cons (f := 55) (args := #[.pointer (some ⟨w.heap.size, 0, none⟩)]) (by simp) (by simp [go_sem]) ?_
    refine (catch_idle ⟨w.heap.size, 0, none⟩ _).mono ?_
    rintro e u' w'' ⟨rfl, rfl, rfl⟩
    simp [Leaves, settle, results, Tryd.results34, go_sem, hcell]
    exact ⟨rfl, hR _ _ hr⟩
  · go_enter_defers Tryd.func34, Tryd.ntmps34
    go_wp2_with fail
    refine (HW.out).mono ?_
    rintro e w1 ⟨rfl, hblk, hr⟩
    have hcell : w1.cell? ⟨w.heap.size, 0, none⟩ = some (.int .i64 0) := cell_of_one hblk
    have hfree : w1.frozen? ⟨w.heap.size, 0, none⟩ = false := free_of_one hblk
    clear hblk
    go_wp2_with fail
    refine leaves_cons (f := 55) (args := #[.pointer (some ⟨w.heap.size, 0, none⟩)]) (by simp) (by simp [go_sem]) ?_
    refine (catch_thrown ⟨w.heap.size, 0, none⟩ 0 c [] _ hcell hfree).mono ?_
    rintro e u' w'' ⟨rfl, rfl, rfl⟩
    simp [Leaves, settle, results, Tryd.results34, go_sem, hcell]
    exact ⟨rfl, hR _ _ hr⟩

theorem attempt_of (f : FuncId) (cap : Array Value) (hcf : ∀ w, (callFunc f cap).run Tryd.prog w = .ok (.enter f cap) w) (r : Ms.Res Int) (w : World)
    (hw : ∀ w1, Kept w w1 → Calls Tryd.prog f cap w1 (KeptV r w1)) :
    Calls Tryd.prog 34 #[.func (.func f) #[] cap] w (Edge r w) := by
  have h := attempt_gen f #[] cap (by simpa using hcf) r w (fun w2 => Kept w w2) (fun w2 u h => h.setCell (p := ⟨w.heap.size, 0, none⟩) (Nat.le_refl _) u) (by
    have hk0 : Kept w (w.alloc (.cells #[.int .i64 0] 31)) := (Below.refl _ _).alloc (Nat.le_refl _) _
    rw [Array.empty_append]
    refine (hw _ hk0).mono fun e w2 h2 => ?_
    have blk : ∀ {w2}, Kept (w.alloc (.cells #[.int .i64 0] 31)) w2 → w2.heap[w.heap.size]? = some (.cells #[.int .i64 0] 31 (0, 0)) := fun h => by
      rw [h.block _ (by simp)]
      show (w.heap.push _)[w.heap.size]? = _
      simp
    rcases r with v | c
    · exact ⟨h2.1, blk h2.2, hk0.trans (h2.2.mono (by simp))⟩
    · exact ⟨h2.1, blk h2.2, hk0.trans (h2.2.mono (by simp))⟩)
  refine h.mono fun e w' h3 => ?_
  rcases r with v | c <;> exact h3

theorem enters_eval (cap : Array Value) (w : World) : (callFunc 35 cap).run Tryd.prog w = .ok (.enter 35 cap) w := by kernel_rfl

set_option maxRecDepth 100000 in
set_option maxHeartbeats 1000000 in
theorem eval_any (s : ByteArray) (hs : s.size ≤ 4611686018427387904) (c z v h : Int) (w : World) (ho : OpsAt w) (hg : 0 < w.heap.size) :
    Calls Tryd.prog 18 #[.string s, .int .u8 c, .agg #[.int .i64 z, .int .i64 v, .int .i64 h]] w (Edge (evalM s c z v h) w) := by
  have hmf : ∀ (fn : Fn) (first cap : Array Value) (w : World), (Instr.makeFunc fn first cap).run Tryd.prog w = .ok (.func fn first cap) w := fun _ _ _ _ => rfl
  obtain ⟨r, hr⟩ : ∃ r, evalM s c z v h = r := ⟨_, rfl⟩
  have h1 := fun b0 b1 b2 w => eval1_any s hs c z v h b0 b1 b2 w
  rw [hr] at h1 ⊢
  have H1 := Lib.hid h1
  clear h1 hr
  go_enter Tryd.func18, Tryd.ntmps18
  go_wp2_with fail
  refine (attempt_of 35 _ (fun w => enters_eval _ w) r _ (fun w1 hk => ?_)).mono ?_
  · obtain ⟨hc, hf⟩ := bcell hk
    have hw1 : Kept w w1 := ((((Below.refl _ _).alloc (Nat.le_refl _) _).alloc (by simp) _).alloc (by simp; omega) _).trans (hk.mono (by simp; omega))
    refine H1.out _ _ _ w1 ⟨?_, ?_, ?_, ?_, ?_⟩ (ho.below hw1 hg) (Nat.lt_of_lt_of_le hg hw1.size)
    all_goals
      rw [hc _ _ (by simp; try omega)]
      simp [go_sem]
  · rcases r with y | c'
    · rintro e w1 ⟨rfl, hk⟩
      go_wp2_with fail
      go_ret2
      exact ⟨rfl, ((((Below.refl _ _).alloc (Nat.le_refl _) _).alloc (by simp) _).alloc (by simp; omega) _).trans (hk.mono (by simp; omega))⟩
    · rintro e w1 ⟨rfl, hk⟩
      go_wp2_with fail
      go_ret2
      exact ⟨rfl, ((((Below.refl _ _).alloc (Nat.le_refl _) _).alloc (by simp) _).alloc (by simp; omega) _).trans (hk.mono (by simp; omega))⟩
end Go.Proofs.YtkkcoajgpdpfkabDoor
