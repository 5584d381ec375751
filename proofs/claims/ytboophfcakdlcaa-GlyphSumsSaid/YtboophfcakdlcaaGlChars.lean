/- The law's chars: a text's bytes, each a name. -/
import Derived.Test.YtboophfcakdlcaaGlRow
import Derived.Deep.DeepCutAuto
namespace Go.Proofs.Ytboophfcakdlcaa
open Go.RowKit Go.PlainAid Go.Shelf

def charsL (l : List UInt8) : List (List UInt8) := l.map fun c => [c]
set_option maxRecDepth 100000 in
set_option maxHeartbeats 4000000 in
theorem chars_any (l : List UInt8) (W : World) (hl : l.length ≤ 2000) : Calls Try.prog 21 #[.string (mk8 l)] W (fun e w' => ∃ v, e = .returned v ∧ OwnS W.heap.size v (charsL l) w' ∧ Below W.heap.size W w') := by
  have z1 : ((mk8 l).size : Int) = l.length := by rw [mk8_size]
  have z2 : (mk8 l).size = l.length := mk8_size l
  go_enter Try.func21, Try.ntmps21
  go_wp2_with fail
  go_loopw [3, 4] (fun u i wr => ∃ k : Nat, k ≤ l.length ∧ i = .int .i64 k ∧ Hid (OwnS W.heap.size u (charsL (l.take k)) wr) ∧ Hid (Below W.heap.size W wr)) (fun _ i _ => l.length - (intOf i).toNat)
  case atStart => exact ⟨0, by omega, rfl, World.ownsRow_nil _ _ _ _, Below.refl _ _⟩
  case round =>
    obtain ⟨k, hk, rfl, ho, hbl⟩ := hrel
    by_cases hlt : k < l.length
    · have HLT := Lib.hid hlt
      have hz1 : (k : Int) < l.length := by omega
      have hz0 : (0 : Int) ≤ k := by omega
      have hks : k + 1 ≤ (mk8 l).size := by omega
      have HE : Hid ((mk8 l).extract k (k + 1) = mk8 [l[k]!]) := by
        show _ = _
        rw [mk8_ext, List.drop_take, show k + 1 - k = 1 by omega, List.drop_eq_getElem_cons hlt, getElem!_pos l k hlt]
        rfl
      have HS : Hid (charsL (l.take (k + 1)) = charsL (l.take k) ++ [[l[k]!]]) := by
        show _ = _
        unfold charsL
        rw [List.take_add_one, List.getElem?_eq_getElem hlt, getElem!_pos l k hlt, Option.toList_some, List.map_append]
        rfl
      have hlen : (charsL (l.take k)).length ≤ 2000 := by unfold charsL; rw [List.length_map, List.length_take]; omega
      have hsz := hbl.out.size
      have hlo : ∀ j, u3.ownBlock = some j → W.heap.size ≤ j ∧ j < wr.heap.size := fun j hj => ho.out.lt j hj
      clear hlt
      go_wp2_with (at_builtin; refine wpList_str (v := u3) (xs := charsL (l.take k)) (e := [l[k]!]) rfl (.tmp 11) (.tmp 17) rfl rfl ⟨wr.heap.size, 0, none⟩ rfl (by rw [← HE.out]; exact cell_of (heap_alloc_new wr _) rfl) (ho.out.alloc _) (by omega) (by simp; omega) ?_; intro v' w' h1 h2 h3; have G1 := Lib.hid h1; have G2 := Lib.hid h2; clear h1 h2 h3)
      have N1 : Hid (OwnS W.heap.size v' (charsL (l.take (k + 1))) w') := by rw [HS.out]; exact G1.out
      have N2 : Hid (Below W.heap.size W w') := grown_base hbl.out hsz (fun j hj => (hlo j hj).1) G2.out
      clear HS ho hbl
      go_roundw
      case rel => exact ⟨k + 1, by have := HLT.out; omega, by go_num, N1, N2⟩
      case measure => have := HLT.out; simp only [intOf]; omega
    · obtain rfl : k = l.length := by omega
      have hz1 : ¬ ((l.length : Nat) : Int) < l.length := by omega
      rw [List.take_length] at ho
      go_wp2_with fail
      go_ret
      exact ⟨u3, rfl, ho.out, hbl.out⟩
end Go.Proofs.Ytboophfcakdlcaa
