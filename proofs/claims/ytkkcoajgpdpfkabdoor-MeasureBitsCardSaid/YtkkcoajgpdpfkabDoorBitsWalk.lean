/- MeasureBits's walk. -/
import Derived.Test.YtkkcoajgpdpfkabDoorReadsWalk
namespace Go.Proofs.YtkkcoajgpdpfkabDoor
open Go.RowKit Go.PlainAid

/-- The strings of the law's bits, in block g. -/
def BitsAt (g : Nat) (w : World) : Prop := ∀ k, k < 38 → ∃ q : ByteArray, q.size ≤ 11 ∧ w.cell? ⟨g, k, none⟩ = some (.string q)

def strOk (v : Value) : Bool := match v with | .string q => decide (q.size ≤ 11) | _ => false
theorem bits_at {cs : Array Value} {t : TypeId} (w : World) (h : cs.toList.all strOk = true) (hn : cs.size = 38) : BitsAt w.heap.size (w.alloc (.cells cs t)) := by
  intro k hk
  have hlt : k < cs.size := by omega
  have h1 := List.all_eq_true.1 h cs[k] (by simp)
  have h2 : (w.alloc (.cells cs t)).cell? ⟨w.heap.size, k, none⟩ = some cs[k] := by
    simp only [World.cell?, heap_alloc_new]
    simp [hlt]
  unfold strOk at h1
  split at h1
  · rename_i q hq
    exact ⟨q, of_decide_eq_true h1, by rw [h2, hq]⟩
  · cases h1

theorem bits_any (w : World) : Calls Tryd.prog 11 #[] w fun e w' => ∃ g : Nat, e = .returned (.slice (some ⟨g, 0, none⟩) 38 38) ∧ g < w'.heap.size ∧ BitsAt g w' ∧ Kept w w' := by
  go_enter Tryd.func11, Tryd.ntmps11
  go_wp2
  go_ret
  exact ⟨_, rfl, by simp, bits_at w (by decide) rfl, (Below.refl _ _).alloc (Nat.le_refl _) _⟩

theorem BitsAt.below {g : Nat} {w w' : World} (h : BitsAt g w) (hg : g < w.heap.size) (hb : Below w.heap.size w w') : BitsAt g w' := fun k hk => by
  obtain ⟨q, h1, h2⟩ := h k hk
  exact ⟨q, h1, by rw [(bcell hb).1 _ _ hg]; exact h2⟩

/-- What the loop's slice holds: at most 60 of the numbers are read. -/
abbrev IntsKept (ao : Option Addr) (len : Nat) (w : World) : Prop := IntsAt ao len w
theorem IntsAt.below {ao : Option Addr} {len : Nat} {w w' : World} (h : IntsAt ao len w) (hb : Below w.heap.size w w') : IntsAt ao len w' := fun j hj => by
  obtain ⟨b, off, z, h1, h2, h3⟩ := h j hj
  exact ⟨b, off, z, h1, Nat.lt_of_lt_of_le h2 hb.size, by rw [(bcell hb).1 _ _ h2]; exact h3⟩

set_option maxRecDepth 100000 in
set_option maxHeartbeats 2000000 in
theorem bitslaw_any (ao : Option Addr) (len cap : Nat) (z v h n : Int) (w : World) (hi : IntsAt ao len w) (ho : OpsAt w) (hg : 0 < w.heap.size) :
    Calls Tryd.prog 4 #[.slice ao len cap, .agg #[.int .i64 z, .int .i64 v, .int .i64 h], .int .i64 n] w (TrueP w) := by
  have hal : Kept w (w.alloc (.cells #[.int .i64 z, .int .i64 v, .int .i64 h] 23)) := (Below.refl _ _).alloc (Nat.le_refl _) _
  have hb0 : CBox z v h w.heap.size (w.alloc (.cells #[.int .i64 z, .int .i64 v, .int .i64 h] 23)) := by refine ⟨?_, ?_, ?_, ?_⟩ <;> simp [go_sem]
  go_enter Tryd.func4, Tryd.ntmps4
  go_wp2_with fail
  refine (bits_any _).mono ?_
  rintro e w1 ⟨g, rfl, hgl, hbt, hk⟩
  have hK1 := hal.trans (hk.mono hal.size)
  have hC1 := hb0.below hk
  have hI1 : IntsAt ao len w1 := hi.below hK1
  clear hk hb0 hal hi
  go_wp2_with fail
  go_loopw [8, 9] (fun s i wr => ∃ (k : Nat) (S : ByteArray), k ≤ 60 ∧ s = .string S ∧ S.size ≤ 11 * k ∧ i = .int .i64 k ∧ Below w1.heap.size w1 wr) (fun _ i _ => 60 - (intOf i).toNat)
  case atStart => exact ⟨0, _, by omega, rfl, by decide, rfl, Below.refl _ _⟩
  case round =>
    obtain ⟨k, S, hk, rfl, hS, rfl, hbk⟩ := hrel
    by_cases hlt : k < len ∧ k < 60
    · obtain ⟨hl1, hl2⟩ := hlt
      obtain ⟨b, off, x, rfl, hb, hx⟩ := hI1.below hbk k hl1
      obtain ⟨m, em, hm⟩ := umod x 38 (by omega) (by omega)
      obtain ⟨q, hq, hqc⟩ := (hbt.below hgl hbk) m (by omega)
      go_wp2_with fail
      go_roundw
      case rel => exact ⟨k + 1, _, by omega, rfl, by rw [ByteArray.size_append]; omega, by go_num, hbk⟩
      case measure => simp only [intOf]; omega
    · have hKr : Below w.heap.size w wr := hK1.trans (hbk.mono hK1.size)
      have hCr := hC1.below hbk
      have hor := ho.below hKr hg
      have hgr := Nat.lt_of_lt_of_le hg hKr.size
      obtain ⟨a0, a1, a2, al⟩ := hCr
      have hS2 : S.size ≤ 4611686018427387904 := by omega
      rcases Nat.lt_or_ge k len with hl1 | hl1
      · have hk60 : k = 60 := by omega
        subst hk60
        clear hlt
        go_wp2_with fail
        refine (reads_any S hS2 _ _ _ _ _ (by exact hor) (by exact hgr)).mono ?_
        rintro e w2 ⟨rfl, hk2⟩
        have hK2 := hKr.trans (hk2.mono hKr.size)
        go_wp2_with fail
        refine (sane_any _ (ho.below hK2 hg) (Nat.lt_of_lt_of_le hg hK2.size)).mono ?_
        rintro e w3 ⟨rfl, hk3⟩
        go_wp2_with fail
        go_ret
        exact ⟨rfl, hK2.trans (hk3.mono hK2.size)⟩
      · clear hlt
        go_wp2_with fail
        refine (reads_any S hS2 _ _ _ _ _ (by exact hor) (by exact hgr)).mono ?_
        rintro e w2 ⟨rfl, hk2⟩
        have hK2 := hKr.trans (hk2.mono hKr.size)
        go_wp2_with fail
        refine (sane_any _ (ho.below hK2 hg) (Nat.lt_of_lt_of_le hg hK2.size)).mono ?_
        rintro e w3 ⟨rfl, hk3⟩
        go_wp2_with fail
        go_ret
        exact ⟨rfl, hK2.trans (hk3.mono hK2.size)⟩
end Go.Proofs.YtkkcoajgpdpfkabDoor
