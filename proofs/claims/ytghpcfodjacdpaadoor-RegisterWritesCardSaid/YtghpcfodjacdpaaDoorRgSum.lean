/- sum: the numerals that a text begins with, added up. -/
import Derived.Test.YtghpcfodjacdpaaDoorRgRoman
namespace Go.Proofs.YtghpcfodjacdpaaDoor
open Go.RowKit Go.PlainAid Go.Shelf

theorem prefix_size {t l : List UInt8} (h : t.isPrefixOf l = true) : t.length ≤ l.length := List.IsPrefix.length_le (List.isPrefixOf_iff_prefix.1 h)

/-- What is left to be added up from numeral k on. -/
def rest (k : Nat) (S : ByteArray) : Nat := sumL (romT.drop k) S.data.toList
theorem rest_yes {k v : Nat} {T S : ByteArray} (O : NumOf k v T) (hp : T.data.toList.isPrefixOf S.data.toList = true) : rest k S = v + rest k (S.extract T.size S.size) := by
  unfold rest
  rw [O.drop, sumAt_yes (by rw [← Lib.size_eq]; exact O.t1) hp]
  have : (S.extract T.size S.size).data.toList = S.data.toList.drop T.data.toList.length := by
    simp only [ByteArray.data_extract, Array.toList_extract, List.extract_eq_take_drop]
    rw [← Lib.size_eq]
    exact List.take_of_length_le (by rw [List.length_drop, ← Lib.size_eq]; omega)
  rw [this]
theorem rest_no {k v : Nat} {T S : ByteArray} (O : NumOf k v T) (hp : T.data.toList.isPrefixOf S.data.toList = false) : rest k S = rest (k + 1) S := by
  unfold rest
  rw [O.drop, sumAt_no hp]
theorem rest_end (S : ByteArray) : rest 13 S = 0 := rfl

def strSz (v : Value) : Nat := match v with | .string S => S.size | _ => 0
/-- Where the adding up stands. -/
structure SumIs (A k n : Nat) (S s : ByteArray) : Prop where
  val : A = n + rest k S
  le : n + 1000 * S.size ≤ 1000 * s.size
theorem sumIs_yes {A k n v : Nat} {S s T : ByteArray} (h : SumIs A k n S s) (O : NumOf k v T) (hp : T.data.toList.isPrefixOf S.data.toList = true) : SumIs A k (n + v) (S.extract T.size S.size) s := by
  have hz := prefix_size hp
  rw [← Lib.size_eq, ← Lib.size_eq] at hz
  refine ⟨by rw [h.val, rest_yes O hp]; omega, ?_⟩
  have h1 := h.le
  have h2 := O.v2
  have h3 := O.t1
  rw [ByteArray.size_extract]
  omega
theorem sumIs_no {A k n v : Nat} {S s T : ByteArray} (h : SumIs A k n S s) (O : NumOf k v T) (hp : T.data.toList.isPrefixOf S.data.toList = false) : SumIs A (k + 1) n S s :=
  ⟨by rw [h.val, rest_no O hp], h.le⟩
theorem sumIs_bd {A k n : Nat} {S s : ByteArray} (h : SumIs A k n S s) (hs : s.size ≤ 1000000000) : n ≤ 1000000000000 ∧ S.size ≤ 1000000000 := by
  have := h.le; omega

set_option maxRecDepth 100000 in
set_option maxHeartbeats 1000000 in
theorem sum_any (s : ByteArray) (hs : s.size ≤ 1000000000) (w : World) (hn : NumsAt w) (_hg : 0 < w.heap.size) :
    Calls Tryd.prog 18 #[.string s] w fun e w' => e = .returned (.int .i64 (sumL romT s.data.toList)) ∧ Below w.heap.size w w' := by
  obtain ⟨t, fr, hgl⟩ := hn
  obtain ⟨A, hA⟩ : ∃ A, sumL romT s.data.toList = A := ⟨_, rfl⟩
  have HA : Hid (SumIs A 0 0 s s) := ⟨by rw [Nat.zero_add]; exact hA.symm, by omega⟩
  have HS := Lib.hid hs
  rw [hA]
  clear hA hs
  go_enter Tryd.func18, Tryd.ntmps18
  go_wp2_with (refine wpList_load_row rfl 44 _ rfl 0 rfl t _ fr _ hgl Tryd.underlying44 rfl (by kernel_rfl) ?_)
  clear hgl
  go_loopw [0, 3, 7] (fun x a c wr => ∃ (k n : Nat) (S : ByteArray), k ≤ 13 ∧ c = .int .i64 k ∧ a = .int .i64 n ∧ x = .string S ∧ Hid (SumIs A k n S s) ∧ Below w.heap.size w wr) (fun _ _ c _ => 13 - (intOf c).toNat)
  case atStart => exact ⟨0, 0, s, by omega, rfl, rfl, rfl, HA, Below.refl _ _⟩
  case round =>
    obtain ⟨k, n, S, hk, rfl, rfl, rfl, he, hb⟩ := hrel
    obtain ⟨wo, hwo⟩ : ∃ wo : World, wo = wr := ⟨_, rfl⟩
    subst hwo
    by_cases hlt : k < 13
    · obtain ⟨v, T, O⟩ := num_of hlt
      have hi := O.index
      have HO := Lib.hid O
      clear O
      have hd : decide ((k : Int) < 13) = true := by simp; omega
      go_wp2_with fail
      go_loopw [0, 3] (fun x a wi => ∃ (n : Nat) (S : ByteArray), a = .int .i64 n ∧ x = .string S ∧ Hid (SumIs A k n S s) ∧ wi = wo.alloc (.cells #[.int .i64 v, .string T] 43)) (fun x _ _ => strSz x)
      case atStart => exact ⟨n, S, rfl, rfl, he, rfl⟩
      case round =>
        obtain ⟨n, S, rfl, rfl, he, rfl⟩ := hrel
        have hbd := sumIs_bd he.out HS.out
        obtain ⟨hb1, hb2⟩ := hbd
        have hp1 := fun W => prefix_at S T W
        unfold Lib.hasPrefix at hp1
        cases hp : T.data.toList.isPrefixOf S.data.toList with
        | true =>
          have hz := prefix_size hp
          rw [← Lib.size_eq, ← Lib.size_eq] at hz
          have hv := HO.out.v2
          have ht := HO.out.t1
          have hnx : Hid (SumIs A k (n + v) (S.extract T.size S.size) s) := sumIs_yes he.out HO.out hp
          have hdec : strSz (.string (S.extract T.size S.size)) < strSz (.string S) := by
            show (S.extract T.size S.size).size < S.size
            rw [ByteArray.size_extract]; omega
          have HD := Lib.hid hdec
          rw [hp] at hp1
          have HP := Lib.hid hp1
          clear hp hp1 he hdec
          go_wp2_with fail
          refine (HP.out _).mono ?_
          rintro e w2 ⟨rfl, rfl⟩
          go_wp2_with fail
          go_roundw
          case rel => exact ⟨n + v, S.extract T.size S.size, by go_num, rfl, hnx, trivial⟩
          case measure => exact HD.out
        | false =>
          have hnx : Hid (SumIs A (k + 1) n S s) := sumIs_no he.out HO.out hp
          rw [hp] at hp1
          have HP := Lib.hid hp1
          clear hp hp1 he
          go_wp2_with fail
          refine (HP.out _).mono ?_
          rintro e w2 ⟨rfl, rfl⟩
          go_wp2_with fail
          go_roundw
          case rel => exact ⟨k + 1, n, S, by omega, by go_num, rfl, rfl, hnx, hb.alloc hb.size _⟩
          case measure => simp only [intOf]; omega
    · obtain rfl : k = 13 := by omega
      have hA : A = n := by have := he.out.val; rw [rest_end] at this; omega
      have HE := Lib.hid hA
      clear he hA
      go_wp2_with fail
      go_ret
      exact ⟨by rw [HE.out]; rfl, hb⟩
end Go.Proofs.YtghpcfodjacdpaaDoor
