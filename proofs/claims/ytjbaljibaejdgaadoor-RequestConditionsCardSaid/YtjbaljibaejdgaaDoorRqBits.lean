/- What control lines are made of; bytes that came in. -/
import Derived.Test.YtjbaljibaejdgaaDoorRqSane
namespace Go.Proofs.YtjbaljibaejdgaaDoor
open Go.RowKit Go.PlainAid Go.Shelf

/-- The bytes of a slice that came in. -/
def BytesAt (ao : Option Addr) (len : Nat) (w : World) : Prop := ∀ j, j < len → ∃ (b off : Nat) (z : Int), ao = some ⟨b, off, none⟩ ∧ b < w.heap.size ∧ w.cell? ⟨b, off + j, none⟩ = some (.int .u8 z) ∧ 0 ≤ z ∧ z ≤ 255
theorem BytesAt.below {ao : Option Addr} {len : Nat} {w w' : World} (h : BytesAt ao len w) (hb : Below w.heap.size w w') : BytesAt ao len w' := fun j hj => by
  obtain ⟨b, off, z, h1, h2, h3, h4⟩ := h j hj
  exact ⟨b, off, z, h1, Nat.lt_of_lt_of_le h2 hb.size, by rw [hb.cell (p := ⟨b, off + j, none⟩) h2]; exact h3, h4⟩
/-- The pieces, in block g. -/
def PartsAt (g : Nat) (w : World) : Prop := ∀ k, k < 25 → ∃ q : List UInt8, q.length ≤ 5 ∧ w.cell? ⟨g, k, none⟩ = some (strV q)
def strOk (v : Value) : Bool := match v with | .string q => decide (q.size ≤ 5) | _ => false
theorem parts_at {cs : Array Value} {t : TypeId} (w : World) (h : cs.toList.all strOk = true) (hn : cs.size = 25) : PartsAt w.heap.size (w.alloc (.cells cs t)) := by
  intro k hk
  have hlt : k < cs.size := by omega
  have h1 := List.all_eq_true.1 h cs[k] (by simp)
  have h2 : (w.alloc (.cells cs t)).cell? ⟨w.heap.size, k, none⟩ = some cs[k] := by
    simp only [World.cell?, heap_alloc_new]
    simp [hlt]
  unfold strOk at h1
  split at h1
  · rename_i q hq
    exact ⟨q.data.toList, by rw [← Lib.size_eq]; exact of_decide_eq_true h1, by rw [h2, hq]⟩
  · cases h1
theorem umod25 (x : Int) (h0 : 0 ≤ x) (_h1 : x ≤ 255) : ∃ m : Nat, x.tmod 25 = m ∧ m < 25 := by
  have e : x.tmod 25 = x % 25 := Int.tmod_eq_emod_of_nonneg h0
  exact ⟨(x % 25).toNat, by rw [e]; omega, by omega⟩

/-- What bits gives: some text, not too long. -/
def BitsP (len : Nat) (W : World) (e : Ending) (W' : World) : Prop := ∃ s : List UInt8, e = .returned (strV s) ∧ s.length ≤ 5 * len ∧ Below W.heap.size W W'
set_option maxRecDepth 100000 in
set_option maxHeartbeats 4000000 in
theorem bits_any (ao : Option Addr) (len cap : Nat) (W : World) (h : BytesAt ao len W) (hl : len ≤ 100) : Calls Tryd.prog 7 #[.slice ao len cap] W (BitsP len W) := by
  have HB := Lib.hid h
  clear h
  go_enter Tryd.func7, Tryd.ntmps7
  go_wp2_with fail
  go_loopw [3, 4] (fun s i wr => ∃ (k : Nat) (S : List UInt8), k ≤ len ∧ s = strV S ∧ S.length ≤ 5 * k ∧ i = .int .i64 k ∧ Hid (Below W.heap.size W wr)) (fun _ i _ => len - (intOf i).toNat)
  case atStart => exact ⟨0, [], by omega, rfl, by simp, rfl, Below.refl _ _⟩
  case round =>
    obtain ⟨k, S, hk, rfl, hS, rfl, hb⟩ := hrel
    by_cases hlt : k < len
    · obtain ⟨b, off, x, rfl, hbl, hx, x0, x1⟩ := (HB.out.below hb.out) k hlt
      obtain ⟨m, em, hm⟩ := umod25 x x0 x1
      have hkz : (k : Int) < len := by omega
      have em2 : wrap64 (x.tmod 25) = m := by rw [em]; exact IntWalk.wrap64_in _ (by omega)
      have em3 : IntKind.i64.wrap (x.tmod 25) = m := by rw [em]; exact IntWalk.i64_in _ (by omega)
      go_upto_region 6 with fail
      generalize hw2 : wr.alloc _ = w2
      have hp : PartsAt wr.heap.size w2 := by rw [← hw2]; exact parts_at wr (by decide) rfl
      have hb2 : Below wr.heap.size wr w2 := by rw [← hw2]; exact (Below.refl _ _).alloc (Nat.le_refl _) _
      have hx2 := (hb2.cell (p := ⟨b, off + k, none⟩) (Nat.lt_of_lt_of_le hbl (Nat.le_refl _))).trans hx
      obtain ⟨q, hq, hqc⟩ := hp m hm
      have hbb := Lib.hid (hb.out.trans (hb2.mono hb.out.size))
      have hfit : S.length + q.length ≤ 3000 := by omega
      have hmz : (m : Int) < 25 := by omega
      have HA := Lib.hid (mk8_app S q)
      clear hw2 hp hb2 hx hb
      go_wp2_with fail
      rw [HA.out]
      go_roundw
      case rel => exact ⟨k + 1, S ++ q, by omega, rfl, by simp; omega, by go_num, hbb⟩
      case measure => simp only [intOf]; omega
    · obtain rfl : k = len := by omega
      go_wp2_with fail
      go_ret
      exact ⟨S, rfl, hS, hb.out⟩
end Go.Proofs.YtjbaljibaejdgaaDoor
