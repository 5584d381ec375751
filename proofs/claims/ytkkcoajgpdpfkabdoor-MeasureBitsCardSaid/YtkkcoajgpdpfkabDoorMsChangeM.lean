/- Change, with a - ahead. -/
import Derived.Test.YtkkcoajgpdpfkabDoorMsChange0
namespace Go.Proofs.YtkkcoajgpdpfkabDoor
open Go.RowKit Go.PlainAid

set_option maxRecDepth 100000 in
set_option maxHeartbeats 2000000 in
theorem mchange_minus (old : Int) (s : ByteArray) (hs : s.size ≤ 4611686018427387904) (c z v h : Int) (w : World) (ho : OpsAt w) (hg : 0 < w.heap.size)
    (h3 : -1000000000 ≤ old) (h4 : old ≤ 1000000000) (hc : bt s 0 = 45) (r : Ms.Res Int) (hr : evalM (s.extract 1 s.size) c z v h = r) :
    Calls Tryd.prog 25 #[.int .i64 old, .string s, .int .u8 c, .agg #[.int .i64 z, .int .i64 v, .int .i64 h]] w (Edge (minusB old r) w) := by
  have hgb := get_bt s
  have h0 : 0 < s.size := Ms.lt_of_bt (by omega)
  have hne := isEmpty_no h0
  have hev := fun w ho hg => eval_any (s.extract 1 s.size) (by simp; omega) c z v h w ho hg
  rw [hr] at hev
  have HE := Lib.hid hev
  have e1 : (bt s 0 != 43) = true := by rw [hc]; rfl
  have e2 : (bt s 0 != 45) = false := by rw [hc]; rfl
  have e3 : (bt s 0 == 45) = true := by rw [hc]; rfl
  have hmf : ∀ (fn : Fn) (first cap : Array Value) (w : World), (Instr.makeFunc fn first cap).run Tryd.prog w = .ok (.func fn first cap) w := fun _ _ _ _ => rfl
  have hk0 : Kept w (((w.alloc (.cells #[.int .i64 old] 3)).alloc (.cells #[.int .i64 z, .int .i64 v, .int .i64 h] 23)).alloc (.cells #[.int .i64 0] 3)) := (two_boxes w _ _).alloc (two_boxes w _ _).size _
  have ho3 := ho.below hk0 hg
  have hg3 := Nat.lt_of_lt_of_le hg hk0.size
  have hk2 : Kept w ((w.alloc (.cells #[.int .i64 old] 3)).alloc (.cells #[.int .i64 z, .int .i64 v, .int .i64 h] 23)) := two_boxes w _ _
  have ho2 := ho.below hk2 hg
  have hg2 := Nat.lt_of_lt_of_le hg hk2.size
  rcases r with x | cc
  · obtain ⟨x0, x1⟩ := evalM_bd hr
    show Calls _ _ _ _ (Edge (Ms.within (old + -x)) w)
    obtain ⟨r2, hr2⟩ : ∃ r2, Ms.within (old + -x) = r2 := ⟨_, rfl⟩
    have hch := fun b0 b1 w h0 h1 => change1_any old (-x) b0 b1 w h0 h1 h3 h4 (by omega) (by omega)
    rw [hr2]
    rw [hr2] at hch
    have HC := Lib.hid hch
    clear hr hev hr2 hch hc
    go_enter Tryd.func25, Tryd.ntmps25
    go_wp2_with fail
    go_region_with (go_at_call 18; first | (refine (HE.out _ (by exact ho3) (by exact hg3)).mono ?_; rintro e w3 ⟨rfl, hb3⟩; have q0 : w3.cell? ⟨w.heap.size, 0, none⟩ = some (.int .i64 old) := (by rw [(bcell hb3).1 _ _ (by simp; omega)]; simp [go_sem]); have q1 : w3.cell? ⟨w.heap.size + 1 + 1, 0, none⟩ = some (.int .i64 0) := (by rw [(bcell hb3).1 _ _ (by simp)]; simp [go_sem]); have q2 : w3.frozen? ⟨w.heap.size + 1 + 1, 0, none⟩ = false := (by rw [(bcell hb3).2 _ _ (by simp)]; simp [go_sem]); have hk3 := below_after hb3 hk0.size (below_drewN hk0 1); have hs3 : w.heap.size + 1 + 1 < w3.heap.size := (by have := hb3.size; simp at this; omega)) | (refine (HE.out _ (by exact ho2) (by exact hg2)).mono ?_; rintro e w3 ⟨rfl, hb3⟩; have q0 : w3.cell? ⟨w.heap.size, 0, none⟩ = some (.int .i64 old) := (by rw [(bcell hb3).1 _ _ (by simp; omega)]; simp [go_sem]); have hk3 := below_after hb3 hk2.size (below_drewN hk2 1); have hs3 : w.heap.size + 1 < w3.heap.size := (by have := hb3.size; simp at this; omega)))
    all_goals
      go_wp2_with fail
      refine (attempt_of 46 _ (fun w => enters_change _ w) r2 _ (fun w1 hk => ?_)).mono ?_
      · obtain ⟨hc, hf⟩ := bcell hk
        refine HC.out _ _ w1 ?_ ?_
        · first
            | exact (hc _ _ (Nat.lt_of_lt_of_le (show w.heap.size < w3.heap.size by omega) (by simp))).trans ((Below.cell (p := ⟨w.heap.size, 0, none⟩) ((Below.refl _ w3).alloc (Nat.le_refl _) _) (show w.heap.size < w3.heap.size by omega)).trans q0)
            | exact (hc _ _ (Nat.lt_of_lt_of_le (show w.heap.size < w3.heap.size by omega) (by simp [World.setCell]))).trans ((far_set w3 _ _).trans q0)
            | exact (hc _ _ (Nat.lt_of_lt_of_le (show w.heap.size < w3.heap.size by omega) (by simp [World.setCell]))).trans ((far_set _ _ _).trans ((far_set w3 _ _).trans q0))
        · rw [hc _ _ (by first | (simp; done) | (simp; omega) | (simp [World.setCell]; done) | (simp [World.setCell]; omega))]
          first
            | (simp [go_sem, *]; done)
            | (simp [go_sem, *]; omega)
      · rcases r2 with y | c'
        all_goals
          rintro e w4 ⟨rfl, hk⟩
          go_wp2_with fail
          go_ret2
          first
            | exact ⟨rfl, kept_then (kept_alloc hk3 _) hk⟩
            | exact ⟨rfl, kept_then (kept_set hk3 _) hk⟩
            | exact ⟨rfl, kept_then (kept_set (kept_set hk3 _) _) hk⟩
  · have hz := evalM_nz hr
    have hcz : (cc != 0) = true := by rw [bne_iff_ne]; omega
    show Calls _ _ _ _ (Edge (.er cc) w)
    clear hr hev hz hc
    go_enter Tryd.func25, Tryd.ntmps25
    go_wp2_with fail
    go_region_with (go_at_call 18; first | (refine (HE.out _ (by exact ho3) (by exact hg3)).mono ?_; rintro e w3 ⟨rfl, hb3⟩; have q0 : w3.cell? ⟨w.heap.size, 0, none⟩ = some (.int .i64 old) := (by rw [(bcell hb3).1 _ _ (by simp; omega)]; simp [go_sem]); have q1 : w3.cell? ⟨w.heap.size + 1 + 1, 0, none⟩ = some (.int .i64 0) := (by rw [(bcell hb3).1 _ _ (by simp)]; simp [go_sem]); have q2 : w3.frozen? ⟨w.heap.size + 1 + 1, 0, none⟩ = false := (by rw [(bcell hb3).2 _ _ (by simp)]; simp [go_sem]); have hk3 := below_after hb3 hk0.size (below_drewN hk0 1); have hs3 : w.heap.size + 1 + 1 < w3.heap.size := (by have := hb3.size; simp at this; omega)) | (refine (HE.out _ (by exact ho2) (by exact hg2)).mono ?_; rintro e w3 ⟨rfl, hb3⟩; have q0 : w3.cell? ⟨w.heap.size, 0, none⟩ = some (.int .i64 old) := (by rw [(bcell hb3).1 _ _ (by simp; omega)]; simp [go_sem]); have hk3 := below_after hb3 hk2.size (below_drewN hk2 1); have hs3 : w.heap.size + 1 < w3.heap.size := (by have := hb3.size; simp at this; omega)))
    all_goals
      go_wp2
      go_ret2
      first
        | exact ⟨rfl, kept_alloc hk3 _⟩
        | exact ⟨rfl, kept_set hk3 _⟩
end Go.Proofs.YtkkcoajgpdpfkabDoor
