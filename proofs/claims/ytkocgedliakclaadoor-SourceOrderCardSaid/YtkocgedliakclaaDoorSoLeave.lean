/- The frames but the lowest ones are taken away. -/
import Derived.Test.YtkocgedliakclaaDoorSoRow
import Derived.Deep.RegionHeld3
namespace Go.Proofs.YtkocgedliakclaaDoor
open Go.RowKit Go.PlainAid Go.Maps Go.Shelf

section
variable {B b : Nat} {S : Nat → Prop} {v : Value} {F : List FrC} {w : World}
theorem SkAt.drew (h : SkAt B S b v F w) : SkAt B S b v F w.drew := h.stay fun _ _ _ => rfl
theorem SkAt.same (h : SkAt B S b v F w) : SkAt B S b v F (w.drew.setCell ⟨b, 1, none⟩ v) := by
  have hn : ∀ k, k ≠ b → (w.drew.setCell ⟨b, 1, none⟩ v).heap[k]? = w.heap[k]? := fun k hk => Below.heap_setCell _ ⟨b, 1, none⟩ _ _ hk
  refine ⟨set_one (W := w.drew) h.blk, ?_, h.sb, h.lo, h.ok, h.len⟩
  exact h.row.stay fun k _ hk _ => hn k hk
set_option maxRecDepth 100000 in
set_option maxHeartbeats 4000000 in
theorem leave_any (h : SkAt B S b v F w) (n : Nat) (hn : n ≤ F.length) : Calls Tryd.prog 40 #[.pointer (some ⟨b, 0, none⟩), .int .i64 n] w (LeaveP B S b v (F.take n) w) := by
  have hB : B ≤ b := h.lo _ h.sb
  have hbl := h.lt
  have hc1 := h.drew.cell1
  have hfz := h.drew.frz
  have hBw : B ≤ w.heap.size := Nat.le_trans hB (Nat.le_of_lt hbl)
  rcases id h.row with ⟨rfl, rfl⟩ | ⟨g, cap, cur, rfl, hSg, hgb, hh, h1, h2, h3, _⟩
  · obtain rfl : n = 0 := Nat.le_zero.1 hn
    have HD := Lib.hid delete_nil
    have HS := Lib.hid h.same
    clear h
    go_enter Tryd.func40, Tryd.ntmps40
    go_region_with (go_at_call 51; refine (HD.out _).mono ?_; rintro e w1 ⟨rfl, rfl⟩)
    all_goals go_wp2_with fail
    all_goals
      exact bodyPost_ret (v := .tuple #[]) (by simp [results, Tryd.results40, go_sem]) rfl ⟨rfl, _, rfl, HS.out, ((Below.refl _ _).mono hBw |>.trans ⟨rfl, rfl, rfl, Nat.le_refl _, fun _ _ => rfl⟩ : Below B w w.drew).setCell (p := ⟨b, 1, none⟩) hB _, fun k _ hkb _ => Below.heap_setCell _ ⟨b, 1, none⟩ _ _ hkb⟩
  · have HD : Hid (Calls Tryd.prog 51 #[.slice (some ⟨g, 0, none⟩) F.length cap, .int .i64 n, .int .i64 F.length] w.drew (DelP g n F.length cap cur w.drew)) := Lib.hid (by
      by_cases e : n = F.length
      · subst e
        exact delete_same g F.length cap cur w.drew hh h1 h2
      · exact delete_last g n F.length cap cur w.drew hh h3 (by omega) h1 h2)
    have HS := Lib.hid h
    have HH := Lib.hid hh
    have hfl := h.len
    clear h hh h3
    go_enter Tryd.func40, Tryd.ntmps40
    go_region_with (go_at_call 51; refine (HD.out).mono ?_; rintro e w1 ⟨rfl, cur', hh', hsz, hj, hg⟩; have HC := Lib.hid (HS.out.cut (w1 := w1) rfl hn HH.out hh' hsz hj ⟨hg.os, hg.tape, hg.output, hg.size, hg.block⟩); have hbk : w1.heap[b]? = some (.cells #[.bool true, .slice (some ⟨g, 0, none⟩) F.length cap] 33 (0, 0)) := (hg.block b hbl (by simpa using fun e => hgb e.symm)).trans HS.out.blk; have hk1 : w1.cell? ⟨b, 1, none⟩ = some (.slice (some ⟨g, 0, none⟩) F.length cap) := (by simp [World.cell?, hbk]); have hk2 : w1.frozen? ⟨b, 1, none⟩ = false := (by simp [World.frozen?, hbk]); clear hh' hsz hj hg hbk)
    all_goals go_wp2_with fail
    all_goals
      exact bodyPost_ret (v := .tuple #[]) (by simp [results, Tryd.results40, go_sem]) rfl ⟨rfl, .slice (some ⟨g, 0, none⟩) n cap, rfl, HC.out.1, HC.out.2.1, HC.out.2.2⟩
end
end Go.Proofs.YtkocgedliakclaaDoor
