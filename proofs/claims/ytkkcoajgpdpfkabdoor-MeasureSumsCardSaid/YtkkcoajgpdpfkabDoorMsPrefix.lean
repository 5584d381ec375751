/- formed and Prefix: the longest beginning that is an expression. -/
import Derived.Test.YtkkcoajgpdpfkabDoorMsTry
import Derived.Deep.RegionWith
namespace Go.Proofs.YtkkcoajgpdpfkabDoor
open Go.RowKit Go.PlainAid

theorem alloc_last (W : World) (o : Obj) : (W.alloc o).heap[W.heap.size]? = some o := by
  show (W.heap.push o)[W.heap.size]? = _
  simp

def blindE (s : ByteArray) : Ms.Env := ⟨s, 0, 0, 0, 0, true⟩
theorem blind_good {s : ByteArray} (hs : s.size ≤ 4611686018427387904) : (blindE s).Good :=
  ⟨by show (0 : Int) ≤ 0; omega, by show (0 : Int) ≤ 1000000; omega, by show (0 : Int) ≤ 0; omega, by show (0 : Int) ≤ 1000000; omega, by show (-1000000000 : Int) ≤ 0; omega, by show (0 : Int) ≤ 1000000000; omega, by show (0 : Int) ≤ 0; omega, by show (0 : Int) ≤ 10000000; omega, hs⟩
/-- How long the longest beginning is that is an expression by its form. -/
def formedM (s : ByteArray) : Nat := (Ms.sum (blindE s) (Ms.brk (blindE s) 20) false 0 0).2

theorem exprFrom_last (E : Ms.Env) (br : Nat → Ms.Res (Int × Nat)) (hbr : ∀ p, p ≤ E.s.size → Fine E p (br p)) (i : Bool) : ∀ (n : Nat) (x : Int) (p : Nat), p ≤ E.s.size → p ≤ (Ms.exprFrom E br i n x p).2 ∧ (Ms.exprFrom E br i n x p).2 ≤ E.s.size
  | 0, _, p, hp => ⟨Nat.le_refl _, hp⟩
  | n + 1, x, p, hp => by
    unfold Ms.exprFrom
    simp only []
    have a0 := Ms.skp_ge E.s i p
    generalize Ms.skp E.s i p = a at *
    by_cases hk : Ms.opAt E.s a = 13
    · rw [if_pos hk]; exact ⟨Nat.le_refl _, hp⟩
    · rw [if_neg hk]
      split
      · exact ⟨Nat.le_refl _, hp⟩
      · rename_i b t ht
        have hb := operand_fine E br hbr i _ (opAt_fit hk) _ _ ht
        split
        · exact ⟨by omega, by omega⟩
        · rename_i w hw
          have := exprFrom_last E br hbr i n w t (by omega)
          omega
theorem formed_le (s : ByteArray) : formedM s ≤ s.size := by
  unfold formedM Ms.sum
  split
  · omega
  · rename_i v q hq
    have h1 := operand_fine (blindE s) _ (brk_fine _ 20) false 0 (Nat.zero_le _) _ _ hq
    exact (exprFrom_last (blindE s) _ (brk_fine _ 20) false _ v q h1.2.2.2).2

theorem Rd.other {E : Ms.Env} {b : Nat} {p d l : Int} {w : World} (h : Rd E b p d l w) {a : Addr} (ha : b ≠ a.block) (u : Value) : Rd E b p d l (w.setCell a u) := by
  unfold Rd; rw [Below.heap_setCell _ _ _ _ ha]; exact h

theorem enters_expr (args : Array Value) (w : World) : (callFunc 37 args).run Tryd.prog w = .ok (.enter 37 args) w := by kernel_rfl

def resV (r : Ms.Res (Int × Nat)) : Ms.Res Int := match r with | .ok (v, _) => .ok v | .er c => .er c

set_option maxRecDepth 100000 in
set_option maxHeartbeats 1000000 in
theorem formed_any (s : ByteArray) (hs : s.size ≤ 4611686018427387904) (w : World) (ho : OpsAt w) (hg : 0 < w.heap.size) :
    Calls Tryd.prog 39 #[.string s] w fun e w' => e = .returned (.int .i64 (formedM s)) ∧ Kept w w' := by
  have hmf : ∀ (fn : Fn) (first cap : Array Value) (w : World), (Instr.makeFunc fn first cap).run Tryd.prog w = .ok (.func fn first cap) w := fun _ _ _ _ => rfl
  have hx := fun (b : Nat) (w : World) (hr : Rd (blindE s) b 0 0 0 w) (ho : OpsAt w) (hb : 0 < b) => (all_specs 20).2 (blindE s) b 0 0 0 w (blind_good hs) (by omega) (Nat.le_refl _) hr (Nat.zero_le _) ho hb
  rw [show decide ((0 : Int) < 0) = false from rfl] at hx
  obtain ⟨t, ht⟩ : ∃ t, formedM s = t := ⟨_, rfl⟩
  have ht' : (Ms.sum (blindE s) (Ms.brk (blindE s) 20) false 0 0).2 = t := ht
  obtain ⟨r, hr⟩ : ∃ r, (Ms.sum (blindE s) (Ms.brk (blindE s) 20) false 0 0).1 = r := ⟨_, rfl⟩
  rw [ht', hr] at hx
  rw [ht]
  have HX := Lib.hid hx
  clear hx ht ht' hr
  go_enter Tryd.func39, Tryd.ntmps39
  go_wp2_with fail
  refine (attempt_gen 37 #[.pointer (some ⟨w.heap.size, 0, none⟩)] #[] (fun w => enters_expr _ w) (resV r) _ (fun w2 => Kept w w2 ∧ ∃ (a : Nat) (d' : Int), Rd (blindE s) w.heap.size a d' t w2) ?_ ?_).mono ?_
  · rintro w2 u ⟨hk, a, d', hr⟩
    exact ⟨hk.setCell (by simp) u, a, d', hr.other (by simp) u⟩
  · have hrd : Rd (blindE s) w.heap.size 0 0 0 ((w.alloc (.cells #[.string s, .int .i64 0, .int .i64 0, .int .i64 0, .int .i64 0, .int .i64 0, .int .i64 0, .int .i64 0, .bool true] 81)).alloc (.cells #[.int .i64 0] 31)) := by
      show ((w.heap.push _).push _)[w.heap.size]? = _
      simp [Array.getElem?_push, blindE]
    have hkk : Kept w ((w.alloc (.cells #[.string s, .int .i64 0, .int .i64 0, .int .i64 0, .int .i64 0, .int .i64 0, .int .i64 0, .int .i64 0, .bool true] 81)).alloc (.cells #[.int .i64 0] 31)) := ((Below.refl _ _).alloc (Nat.le_refl _) _).alloc (by simp) _
    have hblk := alloc_last (w.alloc (.cells #[.string s, .int .i64 0, .int .i64 0, .int .i64 0, .int .i64 0, .int .i64 0, .int .i64 0, .int .i64 0, .bool true] 81)) (.cells #[.int .i64 0] 31)
    refine (HX.out w.heap.size _ hrd (ho.below hkk hg) hg).mono fun e w2 h => ?_
    have fin : ∀ {a : Nat} {d' : Int}, Moved (blindE s) w.heap.size a d' (lastOf 0 t 0) ((w.alloc (.cells #[.string s, .int .i64 0, .int .i64 0, .int .i64 0, .int .i64 0, .int .i64 0, .int .i64 0, .int .i64 0, .bool true] 81)).alloc (.cells #[.int .i64 0] 31)) w2 → w2.heap[(w.alloc (.cells #[.string s, .int .i64 0, .int .i64 0, .int .i64 0, .int .i64 0, .int .i64 0, .int .i64 0, .int .i64 0, .bool true] 81)).heap.size]? = some (.cells #[.int .i64 0] 31 (0, 0)) ∧ Kept w w2 ∧ ∃ (a : Nat) (d' : Int), Rd (blindE s) w.heap.size a d' t w2 := fun {a d'} hm =>
      ⟨by rw [hm.2.block _ (by simp) (by simp)]; exact hblk, hkk.trans (hm.2.below (Nat.le_refl _) (by simp; omega)), a, d', hm.1⟩
    rcases r with ⟨v, q⟩ | c
    · exact ⟨h.1, fin h.2⟩
    · obtain ⟨he, a, d', hm⟩ := h
      exact ⟨he, fin hm⟩
  · have fin : ∀ (e : Ending) (w' : World), EndE (resV r) (fun w2 => Kept w w2 ∧ ∃ (a : Nat) (d' : Int), Rd (blindE s) w.heap.size a d' t w2) e w' → ∃ (x y : Int), e = .returned (.tuple #[.int .i64 x, .int .i64 y]) ∧ Kept w w' ∧ ∃ (a : Nat) (d' : Int), Rd (blindE s) w.heap.size a d' t w' := fun e w' h => by
      rcases r with ⟨v, q⟩ | c
      · exact ⟨_, _, h.1, h.2⟩
      · exact ⟨_, _, h.1, h.2⟩
    have FIN := Lib.hid fin
    clear fin
    intro e w1 h
    obtain ⟨x, y, rfl, hk, a, d', hr⟩ := FIN.out e w1 h
    have k3 := hr.c3
    clear h
    go_wp2_with fail
    go_ret
    exact ⟨rfl, hk⟩

/-- What Prefix gives: a value and how many bytes, or an error. -/
def prefixM (s : ByteArray) (c z v h : Int) : Ms.Res (Int × Nat) :=
  if Ms.validB z v h then (match Ms.unitO c z v with
    | some _ => if formedM s = 0 then .er 4 else (match evalM (s.extract 0 (formedM s)) c z v h with | .ok x => .ok (x, formedM s) | .er e => .er e)
    | none => .er 1) else .er 1

def Three (r : Ms.Res (Int × Nat)) (w : World) (e : Ending) (w' : World) : Prop :=
  match r with
  | .ok (x, n) => e = .returned (.tuple #[.int .i64 x, .int .i64 n, .int .i64 0]) ∧ Kept w w'
  | .er c => e = .returned (.tuple #[.int .i64 0, .int .i64 0, .int .i64 c]) ∧ Kept w w'

/-- What is thrown within the reader. -/
def NZ {α : Type} (r : Ms.Res α) : Prop := ∀ c, r = .er c → c = 4 ∨ c = 5 ∨ c = 11
theorem nz_ok {α : Type} (a : α) : NZ (Ms.Res.ok a) := fun c h => by cases h
theorem nz_er {α : Type} {c : Int} (h : c = 4 ∨ c = 5 ∨ c = 11) : NZ (Ms.Res.er c : Ms.Res α) := fun d e => by injection e with e; rw [← e]; exact h
theorem nz_within (n : Int) : NZ (Ms.within n) := by unfold Ms.within; split; exact nz_ok _; exact nz_er (by omega)
theorem nz_reck (E : Ms.Env) (n : Int) : NZ (Ms.reck E n) := by unfold Ms.reck; split; exact nz_ok _; exact nz_within n
theorem nz_signed (E : Ms.Env) (c n : Int) : NZ (Ms.signed E c n) := by
  unfold Ms.signed; split; exact nz_ok _; split; exact nz_ok _; split; exact nz_reck E _; exact nz_ok _
theorem nz_back (E : Ms.Env) (p : Nat) : ∀ (n : Nat) (v : Int), NZ (Ms.signBack E p n v)
  | 0, v => nz_ok v
  | n + 1, v => by
    rw [Ms.signBack]
    cases h : Ms.signed E (bt E.s (p + n)) v with
    | ok y => exact nz_back E p n y
    | er c => exact nz_er (nz_signed E _ v c h)
theorem nz_done (E : Ms.Env) (k : Nat) (x y : Int) : NZ (Ms.done E k x y) := by
  unfold Ms.done
  split
  · exact nz_ok _
  split
  · exact nz_within _
  · exact nz_within _
  · exact nz_within _
  · split
    · exact nz_er (by omega)
    · exact nz_ok _
  · split
    · exact nz_er (by omega)
    · exact nz_ok _
  · exact nz_ok _
theorem nz_number (E : Ms.Env) (p : Nat) : NZ (Ms.number E p) := by
  unfold Ms.number
  simp only []
  split
  · exact nz_er (by omega)
  · split
    · exact nz_ok _
    · rename_i c hc
      exact nz_er (nz_reck E _ c hc)
theorem nz_operand (E : Ms.Env) (br : Nat → Ms.Res (Int × Nat)) (hbr : ∀ p, NZ (br p)) (i : Bool) (p : Nat) : NZ (Ms.operand E br i p) := by
  unfold Ms.operand
  simp only []
  split
  · rename_i c hc
    refine nz_er ?_
    split at hc
    · exact hbr _ c hc
    · exact nz_number E _ c hc
  · split
    · rename_i c hc
      exact nz_er (nz_back E _ _ _ c hc)
    · exact nz_ok _
theorem nz_from (E : Ms.Env) (br : Nat → Ms.Res (Int × Nat)) (hbr : ∀ p, NZ (br p)) (i : Bool) : ∀ (n : Nat) (x : Int) (p : Nat), NZ (Ms.exprFrom E br i n x p).1
  | 0, _, _ => nz_er (by omega)
  | n + 1, x, p => by
    unfold Ms.exprFrom
    simp only []
    split
    · exact nz_ok _
    · split
      · rename_i c hc
        exact nz_er (nz_operand E br hbr i _ c hc)
      · split
        · rename_i c hc
          exact nz_er (nz_done E _ _ _ c hc)
        · exact nz_from E br hbr i n _ _
theorem nz_sum (E : Ms.Env) (br : Nat → Ms.Res (Int × Nat)) (hbr : ∀ p, NZ (br p)) (i : Bool) (p l : Nat) : NZ (Ms.sum E br i p l).1 := by
  unfold Ms.sum
  split
  · rename_i c hc
    exact nz_er (nz_operand E br hbr i p c hc)
  · exact nz_from E br hbr i _ _ _
theorem nz_brk (E : Ms.Env) : ∀ (k p : Nat), NZ (Ms.brk E k p)
  | 0, _ => nz_er (by omega)
  | k + 1, p => by
    unfold Ms.brk
    split
    · rename_i c hc
      exact nz_er (nz_sum E _ (nz_brk E k) true p 0 c hc)
    · split
      · exact nz_ok _
      · exact nz_er (by omega)
theorem nz_eval (E : Ms.Env) : NZ (Ms.eval E) := by
  unfold Ms.eval
  split
  · rename_i c hc
    exact nz_er (nz_sum E _ (nz_brk E 20) false 0 0 c hc)
  · split
    · exact nz_er (by omega)
    · exact nz_ok _
theorem evalM_nz {s : ByteArray} {c z v h e : Int} (he : evalM s c z v h = .er e) : e = 1 ∨ e = 4 ∨ e = 5 ∨ e = 11 := by
  unfold evalM at he
  split at he
  · split at he
    · exact .inr (nz_eval _ e he)
    · injection he with he; omega
  · injection he with he; omega

set_option maxHeartbeats 2000000 in
theorem prefix_any (s : ByteArray) (hs : s.size ≤ 4611686018427387904) (c z v h : Int) (w : World) (ho : OpsAt w) (hg : 0 < w.heap.size) :
    Calls Tryd.prog 20 #[.string s, .int .u8 c, .agg #[.int .i64 z, .int .i64 v, .int .i64 h]] w (Three (prefixM s c z v h) w) := by
  have hal : Kept w (w.alloc (.cells #[.int .i64 z, .int .i64 v, .int .i64 h] 23)) := (Below.refl _ _).alloc (Nat.le_refl _) _
  by_cases hn : Ms.validB z v h = false ∨ Ms.unitO c z v = none
  · have he : prefixM s c z v h = .er 1 := by
      unfold prefixM
      rcases hn with h1 | h1
      · rw [if_neg (by rw [h1]; simp)]
      · rw [h1]; split <;> rfl
    rw [he]
    have hu : ∀ w, Calls Tryd.prog 15 #[.int .u8 c, .agg #[.int .i64 z, .int .i64 v, .int .i64 h]] w (Two 0 1 w) := by
      intro w
      cases hv : Ms.validB z v h with
      | false => exact unit_bad c z v h hv w
      | true =>
        rw [hv] at hn
        exact unit_none c z v h hv (by simpa using hn) w
    have HU := Lib.hid hu
    clear hn he hu
    go_enter Tryd.func20, Tryd.ntmps20
    go_wp2_with fail
    refine (HU.out _).mono ?_
    rintro e w1 ⟨rfl, hb⟩
    go_wp2
    go_ret3
    exact ⟨rfl, hal.trans (hb.mono hal.size)⟩
  · have hv : Ms.validB z v h = true := by
      cases hv : Ms.validB z v h with
      | true => rfl
      | false => exact absurd (.inl hv) hn
    obtain ⟨u, hu⟩ : ∃ u, Ms.unitO c z v = some u := by
      cases hu : Ms.unitO c z v with
      | some u => exact ⟨u, rfl⟩
      | none => exact absurd (.inr hu) hn
    have he : prefixM s c z v h = (if formedM s = 0 then .er 4 else (match evalM (s.extract 0 (formedM s)) c z v h with | .ok x => .ok (x, formedM s) | .er e => .er e)) := by unfold prefixM; rw [if_pos hv, hu]
    rw [he]
    obtain ⟨t, ht⟩ : ∃ t, formedM s = t := ⟨_, rfl⟩
    have hfc := fun w ho hg => formed_any s hs w ho hg
    have hle := formed_le s
    rw [ht] at hfc hle ⊢
    have HV := Lib.hid hv
    have HU := Lib.hid hu
    have HF := Lib.hid hfc
    clear hv hu hfc hn he ht
    by_cases h0 : t = 0
    · rw [if_pos h0]
      have h0' : ((t : Int) == 0) = true := by simpa using h0
      clear h0
      go_enter Tryd.func20, Tryd.ntmps20
      go_wp2_with fail
      refine (unit_some c z v h u HV.out HU.out _).mono ?_
      rintro e w1 ⟨rfl, hb⟩
      have hk1 := hal.trans (hb.mono hal.size)
      go_wp2_with fail
      refine (HF.out _ (ho.below hk1 hg) (Nat.lt_of_lt_of_le hg hk1.size)).mono ?_
      rintro e w2 ⟨rfl, hb2⟩
      go_wp2
      go_ret3
      exact ⟨rfl, hk1.trans (hb2.mono hk1.size)⟩
    · rw [if_neg h0]
      have h0' : ((t : Int) == 0) = false := by simpa using h0
      obtain ⟨r, hr⟩ : ∃ r, evalM (s.extract 0 t) c z v h = r := ⟨_, rfl⟩
      have hev := fun w ho hg => eval_any (s.extract 0 t) (by simp; omega) c z v h w ho hg
      rw [hr] at hev ⊢
      have HE := Lib.hid hev
      have hnz : ∀ c', r = .er c' → (c' != 0) = true := fun c' hc => by rw [hc] at hr; have := evalM_nz hr; rw [bne_iff_ne]; omega
      clear hr hev h0
      rcases r with x | cc
      · go_enter Tryd.func20, Tryd.ntmps20
        go_wp2_with fail
        refine (unit_some c z v h u HV.out HU.out _).mono ?_
        rintro e w1 ⟨rfl, hb⟩
        have hk1 := hal.trans (hb.mono hal.size)
        go_wp2_with fail
        refine (HF.out _ (ho.below hk1 hg) (Nat.lt_of_lt_of_le hg hk1.size)).mono ?_
        rintro e w2 ⟨rfl, hb2⟩
        have hk2 := hk1.trans (hb2.mono hk1.size)
        have hbb := hb.trans (hb2.mono hb.size)
        obtain ⟨hc, _⟩ := bcell hbb
        go_wp2_with fail
        have ho2 := ho.below hk2 hg
        have hg2 := Nat.lt_of_lt_of_le hg hk2.size
        go_region_with (go_at_call 18; refine (HE.out _ (by exact ho2) (by exact hg2)).mono ?_; rintro e w3 ⟨rfl, hb3⟩)
        all_goals
          clear hc
          go_wp2
          go_ret3
          exact ⟨rfl, below_after hb3 hk2.size (below_drewN hk2 1)⟩
      · have hcz := hnz cc rfl
        clear hnz
        go_enter Tryd.func20, Tryd.ntmps20
        go_wp2_with fail
        refine (unit_some c z v h u HV.out HU.out _).mono ?_
        rintro e w1 ⟨rfl, hb⟩
        have hk1 := hal.trans (hb.mono hal.size)
        go_wp2_with fail
        refine (HF.out _ (ho.below hk1 hg) (Nat.lt_of_lt_of_le hg hk1.size)).mono ?_
        rintro e w2 ⟨rfl, hb2⟩
        have hk2 := hk1.trans (hb2.mono hk1.size)
        have hbb := hb.trans (hb2.mono hb.size)
        obtain ⟨hc, _⟩ := bcell hbb
        go_wp2_with fail
        have ho2 := ho.below hk2 hg
        have hg2 := Nat.lt_of_lt_of_le hg hk2.size
        go_region_with (go_at_call 18; refine (HE.out _ (by exact ho2) (by exact hg2)).mono ?_; rintro e w3 ⟨rfl, hb3⟩)
        all_goals
          clear hc
          go_wp2
          go_ret3
          exact ⟨rfl, below_after hb3 hk2.size (below_drewN hk2 1)⟩
end Go.Proofs.YtkkcoajgpdpfkabDoor
