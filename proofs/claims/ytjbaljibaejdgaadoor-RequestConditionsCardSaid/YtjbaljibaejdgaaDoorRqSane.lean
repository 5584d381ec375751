/- The law's own example, and two lists of texts compared. -/
import Derived.Test.YtjbaljibaejdgaaDoorRqSplit2
import Derived.Deep.QuietTactic
import Derived.BigQuiet
namespace Go.Proofs.YtjbaljibaejdgaaDoor
open Go.RowKit Go.PlainAid Go.Shelf

/-- `.xx a "b c" d"e`. -/
def exLine : List UInt8 := [46, 120, 120, 32, 97, 32, 34, 98, 32, 99, 34, 32, 100, 34, 101]
def exWords : List (List UInt8) := [[97], [98, 32, 99], [100, 34, 101]]
theorem ex_fit : fitB exLine 46 39 = true := by decide +kernel
theorem ex_start : startB exLine 46 39 = true := by decide +kernel
theorem ex_name : nameL exLine.tail = [120, 120] := by decide +kernel
theorem ex_rest : restL exLine.tail = [97, 32, 34, 98, 32, 99, 34, 32, 100, 34, 101] := by decide +kernel
theorem ex_wds : Wds (restL exLine.tail) exWords := by
  rw [ex_rest]
  have h0 : Wds [] [] := .done rfl
  have h1 : Wds [32, 100, 34, 101] [[100, 34, 101]] := Wds.more (m := [100, 34, 101]) (by decide +kernel) (by simp) (by
    rw [show ([100, 34, 101] : List UInt8).drop (firstL [100, 34, 101]).2 = [] from by decide +kernel]; exact h0)
  have h2 : Wds [32, 34, 98, 32, 99, 34, 32, 100, 34, 101] [[98, 32, 99], [100, 34, 101]] := Wds.more (m := [34, 98, 32, 99, 34, 32, 100, 34, 101]) (by decide +kernel) (by simp) (by
    rw [show ([34, 98, 32, 99, 34, 32, 100, 34, 101] : List UInt8).drop (firstL [34, 98, 32, 99, 34, 32, 100, 34, 101]).2 = [32, 100, 34, 101] from by decide +kernel]; exact h1)
  exact Wds.more (m := [97, 32, 34, 98, 32, 99, 34, 32, 100, 34, 101]) (by decide +kernel) (by simp) (by
    rw [show ([97, 32, 34, 98, 32, 99, 34, 32, 100, 34, 101] : List UInt8).drop (firstL [97, 32, 34, 98, 32, 99, 34, 32, 100, 34, 101]).2 = [32, 34, 98, 32, 99, 34, 32, 100, 34, 101] from by decide +kernel]; exact h2)
theorem words_at {B n : Nat} {v : Value} {ws : List (List UInt8)} {W : World} (h : W.ownsRow B 9 1 v n (ws.map strV)) (hn : 0 < n) : ∃ g cap, v = .slice (some ⟨g, 0, none⟩) n cap ∧ g < W.heap.size ∧ ∀ (j : Nat) w, ws[j]? = some w → W.cell? ⟨g, j, none⟩ = some (strV w) := by
  rcases h.2 with ⟨h1, h2⟩ | ⟨g, cap, cur, rfl, _⟩
  · omega
  · exact ⟨g, cap, rfl, (h.lt g rfl).2, fun j w hj => by
      have := h.cells (g := g) rfl j (strV w) (by rw [List.getElem?_map, hj]; rfl)
      rw [show (⟨g, 0, none⟩ : Addr).add j = ⟨g, j, none⟩ from by unfold Addr.add; split <;> simp_all] at this
      exact this⟩

set_option maxRecDepth 100000 in
set_option maxHeartbeats 4000000 in
theorem sane_any (W : World) : Calls Tryd.prog 5 #[] W (Makes (.bool true) W) := by
  have h := split_any exLine 46 39 W
  rw [splitP_yes ex_fit ex_start, ex_name] at h
  have HS := Lib.hid h
  clear h
  have he : (⟨#[46, 120, 120, 32, 97, 32, 34, 98, 32, 99, 34, 32, 100, 34, 101]⟩ : ByteArray) = mk8 exLine := rfl
  go_enter Tryd.func5, Tryd.ntmps5
  go_wp2_with fail
  refine (show Calls Tryd.prog 9 #[.string ⟨#[46, 120, 120, 32, 97, 32, 34, 98, 32, 99, 34, 32, 100, 34, 101]⟩, .int .u8 46, .int .u8 39] W _ from HS.out).mono ?_
  rintro e w1 ⟨v, ws, rfl, hw, _, hown, hb⟩
  obtain rfl := hw.eq ex_wds
  obtain ⟨g, cap, rfl, hg, hc⟩ := words_at hown (by decide)
  have c1 : w1.cell? ⟨g, 1, none⟩ = some (.string ⟨#[98, 32, 99]⟩) := hc 1 [98, 32, 99] rfl
  have c2 : w1.cell? ⟨g, 2, none⟩ = some (.string ⟨#[100, 34, 101]⟩) := hc 2 [100, 34, 101] rfl
  have hlen : exWords.length = 3 := rfl
  have HB := Lib.hid hb
  have hne : g ≠ w1.heap.size := by omega
  clear hc hown hw hb
  go_wp2_with fail
  go_ret
  exact ⟨rfl, HB.out.alloc HB.out.size _⟩

/-- Texts that lie one behind the other. -/
def TxAt (v : Value) (ws : List (List UInt8)) (W : World) : Prop := ∃ ao cap b off, v = .slice ao ws.length cap ∧ (0 < ws.length → ao = some ⟨b, off, none⟩ ∧ b < W.heap.size) ∧ ∀ (j : Nat) w, ws[j]? = some w → W.cell? ⟨b, off + j, none⟩ = some (strV w)
theorem TxAt.below {v : Value} {ws : List (List UInt8)} {W W' : World} (h : TxAt v ws W) (hb : Below W.heap.size W W') : TxAt v ws W' := by
  obtain ⟨ao, cap, b, off, h1, h2, h3⟩ := h
  refine ⟨ao, cap, b, off, h1, fun hl => ⟨(h2 hl).1, Nat.lt_of_lt_of_le (h2 hl).2 hb.size⟩, fun j w hj => ?_⟩
  have hl : 0 < ws.length := by have := (List.getElem?_eq_some_iff.1 hj).1; omega
  rw [hb.cell (p := ⟨b, off + j, none⟩) (h2 hl).2]
  exact h3 j w hj
theorem tx_own {B : Nat} {v : Value} {ws : List (List UInt8)} {W : World} (h : W.ownsRow B 9 1 v ws.length (ws.map strV)) : TxAt v ws W := by
  rcases Nat.eq_zero_or_pos ws.length with hz | hz
  · obtain ⟨ao, cap, rfl⟩ := own_form h
    exact ⟨ao, cap, 0, 0, rfl, fun h => by omega, fun j w hj => by have := (List.getElem?_eq_some_iff.1 hj).1; omega⟩
  · obtain ⟨g, cap, rfl, hg, hc⟩ := words_at h hz
    exact ⟨_, cap, g, 0, rfl, fun _ => ⟨rfl, hg⟩, fun j w hj => by rw [Nat.zero_add]; exact hc j w hj⟩
theorem u8_list {a b : List UInt8} : ((mk8 a).toList == (mk8 b).toList) = (a == b) := by rw [Lib.toList_data, Lib.toList_data]
theorem same_step {xs ys : List (List UInt8)} {k : Nat} (h : ∀ j, j < k → xs[j]? = ys[j]?) (hk : xs[k]? = ys[k]?) : ∀ j, j < k + 1 → xs[j]? = ys[j]? := fun j hj => by
  by_cases e : j = k
  · rw [e]; exact hk
  · exact h j (by omega)

end Go.Proofs.YtjbaljibaejdgaaDoor
