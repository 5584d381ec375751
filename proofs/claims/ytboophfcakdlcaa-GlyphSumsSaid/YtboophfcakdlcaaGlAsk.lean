/- Are all chars names; no pairs; a style; chars without pairs. -/
import Derived.Test.YtboophfcakdlcaaGlRow
import Derived.Test.YtboophfcakdlcaaGlArgs
import Derived.Test.YtboophfcakdlcaaFrPut
import Derived.BigQuiet
import Derived.Deep.DeepCutAuto
namespace Go.Proofs.Ytboophfcakdlcaa
open Go.RowKit Go.PlainAid Go.Shelf

theorem enters_c1 (args : Array Value) (w : World) : (callFunc 79 args).run Try.prog w = .ok (.enter 79 args) w := by kernel_rfl
theorem ac1_any (l : List UInt8) (w : World) : Calls Try.prog 79 #[.string (mk8 l)] w (Says (.bool (!glyphNameB l)) w) := by
  have HG := Lib.hid (gname_any l w)
  obtain ⟨b, hb⟩ : ∃ b, glyphNameB l = b := ⟨_, rfl⟩
  rw [hb] at HG ⊢
  generalize mk8 l = s at HG ⊢
  clear hb
  go_enter Try.func79, Try.ntmps79
  go_wp2_with fail
  refine HG.out.mono ?_
  rintro e w1 ⟨rfl, rfl⟩
  go_wp2_with fail
  go_ret
  exact ⟨rfl, rfl⟩
theorem conS_any (ao : Option Addr) (l : List (List UInt8)) (c : Nat) (w : World) (h : RowK encS 1 ao l w) (hn : l.length ≤ 1000000) :
    Calls Try.prog 78 #[.slice ao l.length c, .func (.func 79) #[] #[]] w (Makes (.bool (l.any fun s => !glyphNameB s)) w) := by
  obtain ⟨b, off, h1, h2⟩ := h
  by_cases h0 : 0 < l.length
  · obtain ⟨rfl, hb⟩ := h1 h0
    have hr := AnyE.slices_ContainsFunc Try.conSL (fun s : List UInt8 => Value.string (mk8 s)) (fun s => !glyphNameB s) 79 #[] enters_c1 b off l.length c l w
      (fun W x _ => (ac1_any x W).mono fun e w' ⟨h1, h2⟩ => ⟨h1, 0, h2.symm⟩) (Nat.le_refl _) (by omega) (fun j hj => by have := h2 j hj 0 _ rfl; rwa [Nat.mul_one, Nat.add_zero] at this)
    rw [List.take_length] at hr
    exact hr.mono fun e w' ⟨h1, q, h2⟩ => ⟨h1, by rw [h2]; exact below_drewN' (Below.refl _ _) q⟩
  · obtain rfl := List.eq_nil_of_length_eq_zero (Nat.eq_zero_of_not_pos h0)
    exact (AnyE.slices_ContainsFunc_empty Try.conSL ao c _ w).mono fun e w' ⟨h1, h2⟩ => ⟨h1, by rw [h2]; exact Below.refl _ _⟩
theorem areChars_any (ao : Option Addr) (l : List (List UInt8)) (c : Nat) (w : World) (h : RowK encS 1 ao l w) (hn : l.length ≤ 2000) : Calls Try.prog 51 #[.slice ao l.length c] w (Makes (.bool (l.all glyphNameB)) w) := by
  have HC := Lib.hid (conS_any ao l c w h (by omega))
  have hv : l.all glyphNameB = !(l.any fun s => !glyphNameB s) := by rw [List.not_any_eq_all_not]; simp
  rw [hv]
  obtain ⟨V, hV⟩ : ∃ V, (l.any fun s => !glyphNameB s) = V := ⟨_, rfl⟩
  rw [hV] at HC ⊢
  clear hv hV h
  have hz : (l.length : Int) ≤ 2000 := by omega
  generalize l.length = n at HC hn hz ⊢
  go_enter Try.func51, Try.ntmps51
  go_wp2_with fail
  refine HC.out.mono ?_
  rintro e w1 ⟨rfl, hb1⟩
  have HB := Lib.hid hb1
  clear hb1
  go_wp2_with fail
  go_ret
  exact ⟨rfl, HB.out⟩
theorem pairs0_any (w : World) : Calls Try.prog 52 #[.slice none 0 0] w (Says (.bool true) w) := by
  go_enter Try.func52, Try.ntmps52
  go_wp2_with fail
  go_loop [10] (fun i => i = .int .i64 0) (fun _ => 0)
  case atStart => rfl
  case round =>
    subst hrel
    go_wp2_with fail
    go_ret
    exact ⟨rfl, rfl⟩
theorem style_ok (own : Nat) (z : Int) (lg kn : Bool) (ao : Option Addr) (n c : Nat) (w : World) (ho : own < n) (hz : sizeB z = true) (_hn : n ≤ 1000000) : Calls Try.prog 50 #[.agg #[.int .i64 own, .int .i64 z, .bool lg, .bool kn], .slice ao n c] w (Makes (.bool true) w) := by
  have HG := Lib.hid (fun w => gsize_any z w)
  rw [hz] at HG
  have h0 : (0 : Int) ≤ own := by omega
  have h1 : (own : Int) < n := by omega
  clear hz ho
  go_enter Try.func50, Try.ntmps50
  go_wp2_with fail
  refine (HG.out _).mono ?_
  rintro e w1 ⟨rfl, rfl⟩
  go_wp2_with fail
  go_ret
  exact ⟨rfl, (Below.refl _ _).alloc (Nat.le_refl _) _⟩
theorem idxP0_any (ao : Option Addr) (c : Nat) (fv : Value) (w : World) : Calls Try.prog 82 #[.slice ao 0 c, fv] w (Says (.int .i64 (-1)) w) := by
  go_enter Try.func82, Try.ntmps82
  go_wp2_with fail
  go_loop [8] (fun i => i = .int .i64 0) (fun _ => 0)
  case atStart => rfl
  case round =>
    subst hrel
    go_wp2_with fail
    go_ret
    exact ⟨rfl, rfl⟩
theorem cloneS_any (ao : Option Addr) (l : List (List UInt8)) (c : Nat) (w : World) (h : RowK encS 1 ao l w) (hn : l.length ≤ 1000000) (hs : ∀ a, ao = some a → ∃ b off, a = ⟨b, off, none⟩) :
    Calls Try.prog 81 #[.slice ao l.length c] w (fun e w' => ∃ v, e = .returned v ∧ OwnS w.heap.size v l w' ∧ Below w.heap.size w w') := by
  obtain ⟨i0, hi, hz0, hz1, hz2⟩ := info_parts str_info
  have hone : ∀ u ∈ flatE encS l, u.oneCell' = true := fun u hu => by
    obtain ⟨r, _, hr⟩ := List.mem_flatMap.1 hu
    exact encS_one r u hr
  cases ao with
  | none =>
    have h0 : l = [] := by
      cases l with
      | nil => rfl
      | cons x r =>
        obtain ⟨b, off, h1, _⟩ := h
        have := (h1 (by simp)).1
        cases this
    subst h0
    exact (AnyE.slices_Clone_nil Try.cloneSL 0 c w).mono fun e w' ⟨h1, h2⟩ => ⟨_, h1, by rw [h2]; exact World.ownsRow_nil _ _ _ _, by rw [h2]; exact Below.refl _ _⟩
  | some a =>
    obtain ⟨b, off, rfl⟩ := hs a rfl
    exact (AnyE.slices_Clone Try.cloneSL i0 _ 1 16 hi hz0 hz1 hz2 rfl (by omega) Try.sizeOf9 b off l.length c (flatE encS l) w (flat_len encS_len l) (by unfold maxLen; omega) (by omega)
      (fun j u hu => rowK_flat encS_len (by decide) h j u hu) hone).mono fun e w' ⟨v, h1, h2, _, h3⟩ => ⟨v, h1, h2, h3⟩
set_option maxRecDepth 100000 in
set_option maxHeartbeats 2000000 in
/-- Chars without pairs are as they were. -/
theorem trans0_any (ao : Option Addr) (l : List (List UInt8)) (c : Nat) (w : World) (h : RowK encS 1 ao l w) (hn : l.length ≤ 1000000) (hs : ∀ a, ao = some a → ∃ b off, a = ⟨b, off, none⟩) :
    Calls Try.prog 53 #[.slice ao l.length c, .slice none 0 0] w (fun e w' => ∃ v, e = .returned v ∧ OwnS w.heap.size v l w' ∧ Below w.heap.size w w') := by
  have hmf := make_func
  have HC := Lib.hid (cloneS_any ao l c w h hn hs)
  have HI := Lib.hid (fun (fv : Value) (w : World) => idxP0_any none 0 fv w)
  have HR := Lib.hid h
  clear h
  go_enter Try.func53, Try.ntmps53
  go_wp2_with fail
  refine HC.out.mono ?_
  rintro e w1 ⟨v, rfl, ho, hb⟩
  have HO := Lib.hid ho
  have HB := Lib.hid hb
  clear ho hb HC
  go_wp2_with fail
  go_loopw [13] (fun i wr => ∃ k : Nat, k ≤ l.length ∧ i = .int .i64 k ∧ Hid (Below w1.heap.size w1 wr)) (fun i _ => l.length - (intOf i).toNat)
  case atStart => exact ⟨0, by omega, rfl, Below.refl _ _⟩
  case round =>
    obtain ⟨k, hk, rfl, hbl⟩ := hrel
    by_cases hlt : k < l.length
    · have HLT := Lib.hid hlt
      have HBW := Lib.hid (HB.out.trans (hbl.out.mono HB.out.size))
      obtain ⟨b2, o2, ha2, hc2⟩ := HR.out.below HBW.out
      obtain ⟨rfl, hl2⟩ := ha2 (by omega)
      have c0 := hc2 k hlt 0 _ rfl
      rw [Nat.mul_one, Nat.add_zero] at c0
      have hz1 : (k : Int) < l.length := by omega
      have hz0 : (0 : Int) ≤ k := by omega
      obtain ⟨t, ht⟩ : ∃ t, mk8 l[k]! = t := ⟨_, rfl⟩
      rw [ht] at c0
      clear hc2 ha2 ht hlt
      go_wp2_with fail
      refine (HI.out _ _).mono ?_
      rintro e w2 ⟨rfl, rfl⟩
      go_wp2_with fail
      go_roundw
      case rel => exact ⟨k + 1, by have := HLT.out; omega, by go_num, hbl.out.alloc hbl.out.size _⟩
      case measure => have := HLT.out; simp only [intOf]; omega
    · obtain rfl : k = l.length := by omega
      have hz1 : ¬ ((l.length : Nat) : Int) < l.length := by omega
      go_wp2_with fail
      go_ret
      exact ⟨v, rfl, owns_of_block HO.out (fun j hj => hbl.out.block j (HO.out.lt j hj).2), HB.out.trans (hbl.out.mono HB.out.size)⟩
end Go.Proofs.Ytboophfcakdlcaa
