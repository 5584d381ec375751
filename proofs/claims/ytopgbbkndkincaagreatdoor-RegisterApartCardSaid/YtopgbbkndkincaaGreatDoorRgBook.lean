/- A book in memory: what it is asked. -/
import Derived.Test.YtopgbbkndkincaaGreatDoorRgName
namespace Go.Proofs.YtopgbbkndkincaaGreatDoor
open Go.RowKit Go.PlainAid Go.Maps

def Reg.zero : Reg := ⟨0, 0, ⟨#[]⟩⟩
def Reg.fresh : Reg := ⟨0, 0, ⟨#[48]⟩⟩

theorem str_keyed : Keyed Tryz.prog 9 := string_keyed Tryz.underlying9
theorem key_of (s : ByteArray) (hs : s.size ≤ maxLen) : keyOf Tryz.prog 9 (.string s) = some (bkey s) := by
  simp [keyOf, Tryz.underlying9, mapKey, hs]
theorem zero_run (w : World) : (zeroValue 51).run Tryz.prog w = .ok Reg.zero.val w := by kernel_rfl

/-- Three cells of a register. -/
abbrev regO (r : Reg) : Obj := .cells #[.int .i64 r.value, .int .i64 r.step, .string r.fm] 51

theorem atKey_has {D : DataW Unit} {k : Lit} (h : has D k = true) (z z' : DataW Unit) : D.atKey k z = D.atKey k z' := by
  cases D <;> try (cases h; done)
  rename_i es
  obtain ⟨p, hp, hpk⟩ := List.any_eq_true.1 h
  have hs : (es.find? (fun p => p.1.sameKey k)).isSome = true := List.find?_isSome.2 ⟨p, hp, hpk⟩
  obtain ⟨x, hx⟩ := Option.isSome_iff_exists.1 hs
  simp [DataW.atKey, hx]

theorem look_at {b mb n : Nat} {D : DataW Unit} {w : World} (hB : BookAt b mb n D w) (s : ByteArray) (hs : s.size ≤ maxLen) :
    ∃ r : Reg, r.data = D.atKey (bkey s) Reg.zero.data ∧ ∀ W, W.ownsMap Tryz.prog 9 regElem mb n D →
      (Instr.lookup 39 (.map (some mb)) (.string s) true).run Tryz.prog W = .ok (.tuple #[.agg #[.int .i64 r.value, .int .i64 r.step, .string r.fm], .bool (has D (bkey s))]) W := by
  have one : ∀ W, W.ownsMap Tryz.prog 9 regElem mb n D → ∃ r : Reg, r.data = D.atKey (bkey s) Reg.zero.data ∧
      (Instr.lookup 39 (.map (some mb)) (.string s) true).run Tryz.prog W = .ok (.tuple #[r.val, .bool (has D (bkey s))]) W := fun W hW => by
    obtain ⟨v, ps, hrun, hR⟩ := hW.look_ok str_keyed Tryz.underlying39 (zero_run W) (regElem_mk Reg.zero) (key_of s hs)
    obtain ⟨r, rfl, hz⟩ := regElem_inv hR
    simp only [Prod.mk.injEq] at hz
    exact ⟨r, hz.1.symm, hrun⟩
  obtain ⟨r, hr, _⟩ := one w hB.map
  refine ⟨r, hr, fun W hW => ?_⟩
  obtain ⟨q, hq, hrun⟩ := one W hW
  obtain rfl := Reg.data_inj (hq.trans hr.symm)
  exact hrun

theorem BookAt.alloc {b mb n : Nat} {D : DataW Unit} {w : World} (h : BookAt b mb n D w) (o : Obj) : BookAt b mb n D (w.alloc o) := h.below ((Below.refl _ _).alloc (Nat.le_refl _) _)

set_option maxRecDepth 100000 in
set_option maxHeartbeats 1000000 in
theorem has_any {b mb n : Nat} {D : DataW Unit} {w : World} (hB : BookAt b mb n D w) (s : ByteArray) (hs : s.size ≤ maxLen) :
    Calls Tryz.prog 40 #[.pointer (some ⟨b, 0, none⟩), .string s] w fun e w' => e = .returned (.bool (has D (bkey s))) ∧ Below w.heap.size w w' := by
  obtain ⟨r, _, hl⟩ := look_at hB s hs
  have h1 := hl w hB.map
  have hc := hB.cell
  obtain ⟨hv, hhv⟩ : ∃ hv, has D (bkey s) = hv := ⟨_, rfl⟩
  rw [hhv] at h1 ⊢
  clear hl hhv
  go_enter Tryz.func40, Tryz.ntmps40
  go_wp2
  go_ret
  exact ⟨rfl, (Below.refl _ _).alloc (Nat.le_refl _) _⟩

theorem two_allocs (w : World) (a c : Obj) : Below w.heap.size w ((w.alloc a).alloc c) := ((Below.refl _ _).alloc (Nat.le_refl _) _).alloc (by simp) _

/-- What at gives. -/
def AtP (D : DataW Unit) (s : ByteArray) (w : World) (e : Ending) (w' : World) : Prop :=
  ∃ r : Reg, e = .returned (.agg #[.int .i64 r.value, .int .i64 r.step, .string r.fm]) ∧ r.data = D.atKey (bkey s) Reg.fresh.data ∧ Below w.heap.size w w'

set_option maxRecDepth 100000 in
set_option maxHeartbeats 1000000 in
theorem at_any {b mb n : Nat} {D : DataW Unit} {w : World} (hB : BookAt b mb n D w) (s : ByteArray) (hs : s.size ≤ maxLen) :
    Calls Tryz.prog 41 #[.pointer (some ⟨b, 0, none⟩), .string s] w (AtP D s w) := by
  obtain ⟨r, hr, hl⟩ := look_at hB s hs
  have h1 := hl (w.alloc (regO Reg.zero)) (hB.alloc _).map
  have hc := hB.cell
  have hlt := hB.lt
  have hc1 : (w.alloc (regO Reg.zero)).cell? ⟨b, 0, none⟩ = some (.map (some mb)) := (hB.alloc _).cell
  simp only [regO, Reg.zero] at h1 hc1
  cases hhv : has D (bkey s) with
  | true =>
    rw [hhv] at h1
    have hp : r.data = D.atKey (bkey s) Reg.fresh.data := by rw [hr]; exact atKey_has hhv _ _
    have HP := Lib.hid hp
    clear hl hhv hr hp hB
    go_enter Tryz.func41, Tryz.ntmps41
    go_wp2
    simp [bodyPost, results, Tryz.results41, go_sem]
    exact ⟨r, rfl, HP.out, two_allocs _ _ _⟩
  | false =>
    rw [hhv] at h1
    have hp : Reg.fresh.data = D.atKey (bkey s) Reg.fresh.data := (atKey_of_not_has hhv _).symm
    have HP := Lib.hid hp
    clear hl hhv hr hp hB
    go_enter Tryz.func41, Tryz.ntmps41
    go_wp2
    simp [bodyPost, results, Tryz.results41, go_sem]
    exact ⟨Reg.fresh, rfl, HP.out, two_allocs _ _ _⟩
end Go.Proofs.YtopgbbkndkincaaGreatDoor
