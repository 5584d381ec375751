/- Number: a sign or none, a number, the end. -/
import Derived.Test.YtkkcoajgpdpfkabDoorMsTry
import Derived.Test.YtkkcoajgpdpfkabDoorMsBd
namespace Go.Proofs.YtkkcoajgpdpfkabDoor
open Go.RowKit Go.PlainAid

def numFrom (s : ByteArray) : Nat := if bt s 0 = 45 ∨ bt s 0 = 43 then 1 else 0
def numB (s : ByteArray) (r : Ms.Res (Int × Nat)) : Ms.Res Int := match r with | .er c => .er c | .ok (v, q) => if q < s.size then .er 4 else .ok (if bt s 0 = 45 then -v else v)
/-- What Number gives. -/
def numberM (s : ByteArray) (c z v h : Int) : Ms.Res Int :=
  if Ms.validB z v h then (match Ms.unitO c z v with | some u => numB s (Ms.number ⟨s, z, v, h, u, false⟩ (numFrom s)) | none => .er 1) else .er 1

theorem numFrom_le (s : ByteArray) : numFrom s ≤ s.size := by
  unfold numFrom
  split
  · have : 0 < s.size := Ms.lt_of_bt (by omega)
    omega
  · omega

set_option maxHeartbeats 2000000 in
theorem number1_bad (s : ByteArray) (c z v h : Int) (b0 b1 b2 : Nat) (w : World) (hc : Caps b0 b1 b2 s c z v h w) (hn : Ms.validB z v h = false ∨ Ms.unitO c z v = none) :
    Calls Tryd.prog 40 #[.pointer (some ⟨b0, 0, none⟩), .pointer (some ⟨b1, 0, none⟩), .pointer (some ⟨b2, 0, none⟩)] w (KeptV (.er 1) w) := by
  obtain ⟨k0, k1, k2, k3, k4⟩ := hc
  have HN := Lib.hid hn
  clear hn
  go_enter Tryd.func40, Tryd.ntmps40
  go_wp2_with fail
  refine (newReader_no s c z v h HN.out _).mono ?_
  rintro e w1 ⟨rfl, hb⟩
  go_wp2
  exact ⟨rfl, rfl, hb⟩

set_option maxHeartbeats 4000000 in
theorem number1_minus (s : ByteArray) (hs : s.size ≤ 4611686018427387904) (c z v h u : Int) (b0 b1 b2 : Nat) (w : World) (hc : Caps b0 b1 b2 s c z v h w) (hv : Ms.validB z v h = true) (hu : Ms.unitO c z v = some u)
    (h45 : bt s 0 = 45) (r : Ms.Res (Int × Nat)) (hr : Ms.number ⟨s, z, v, h, u, false⟩ 1 = r) :
    Calls Tryd.prog 40 #[.pointer (some ⟨b0, 0, none⟩), .pointer (some ⟨b1, 0, none⟩), .pointer (some ⟨b2, 0, none⟩)] w (KeptV (numB s r) w) := by
  obtain ⟨k0, k1, k2, k3, k4⟩ := hc
  have g := good_of hv hu hs
  have hpos : 0 < s.size := Ms.lt_of_bt (by omega)
  have hle : 1 ≤ s.size := hpos
  have hN := fun (b : Nat) (w : World) (hr' : Rd ⟨s, z, v, h, u, false⟩ b 1 0 0 w) => number_any ⟨s, z, v, h, u, false⟩ g b 1 0 0 w hr' hle
  have hfi := number_fine ⟨s, z, v, h, u, false⟩ 1 hle
  rw [hr] at hN hfi
  have HN := Lib.hid hN
  have HV := Lib.hid hv
  have HU := Lib.hid hu
  have HF := Lib.hid hfi
  clear hN hv hu hfi hr g
  rcases r with ⟨y, q⟩ | c'
  · obtain ⟨y0, y1, q0, q1⟩ := HF.out y q rfl
    have q1' : q ≤ s.size := q1
    by_cases hq : q < s.size
    · rw [show numB s (.ok (y, q)) = .er 4 from if_pos hq]
      go_enter Tryd.func40, Tryd.ntmps40
      go_wp2_with fail
      refine (newReader_ok s c z v h u HV.out HU.out _).mono ?_
      rintro e w1 ⟨b, rfl, hbb, hr, hb⟩
      go_wp2_with fail
      refine (takes_yes ⟨s, z, v, h, u, false⟩ b 0 0 0 45 _ hs hr hpos h45).mono ?_
      rintro e w1' ⟨rfl, hm0⟩
      go_wp2_with fail
      refine (HN.out b _ hm0.1).mono ?_
      rintro e w2 ⟨rfl, hm⟩
      go_wp2_with fail
      refine (mustEnd_no ⟨s, z, v, h, u, false⟩ b q _ _ _ hs hm.1 hq).mono ?_
      rintro e w3 ⟨rfl, hd⟩
      go_wp2
      exact ⟨rfl, rfl, (hb.trans ((hm0.trans hm).2.below hbb hb.size)).trans (hd.below _)⟩
    · rw [show numB s (.ok (y, q)) = .ok (-y) from by simp [numB, hq, h45]]
      go_enter Tryd.func40, Tryd.ntmps40
      go_wp2_with fail
      refine (newReader_ok s c z v h u HV.out HU.out _).mono ?_
      rintro e w1 ⟨b, rfl, hbb, hr, hb⟩
      go_wp2_with fail
      refine (takes_yes ⟨s, z, v, h, u, false⟩ b 0 0 0 45 _ hs hr hpos h45).mono ?_
      rintro e w1' ⟨rfl, hm0⟩
      go_wp2_with fail
      refine (HN.out b _ hm0.1).mono ?_
      rintro e w2 ⟨rfl, hm⟩
      go_wp2_with fail
      refine (mustEnd_yes ⟨s, z, v, h, u, false⟩ b q _ _ _ hs hm.1 hq).mono ?_
      rintro e w3 ⟨rfl, hd⟩
      go_wp2
      go_ret
      exact ⟨rfl, (hb.trans ((hm0.trans hm).2.below hbb hb.size)).trans (hd.below _)⟩
  · rw [show numB s (.er c') = .er c' from rfl]
    go_enter Tryd.func40, Tryd.ntmps40
    go_wp2_with fail
    refine (newReader_ok s c z v h u HV.out HU.out _).mono ?_
    rintro e w1 ⟨b, rfl, hbb, hr, hb⟩
    go_wp2_with fail
    refine (takes_yes ⟨s, z, v, h, u, false⟩ b 0 0 0 45 _ hs hr hpos h45).mono ?_
    rintro e w1' ⟨rfl, hm0⟩
    go_wp2_with fail
    refine (HN.out b _ hm0.1).mono ?_
    rintro e w2 ⟨rfl, a, d', hm⟩
    go_wp2
    exact ⟨rfl, rfl, hb.trans ((hm0.trans hm).2.below hbb hb.size)⟩

set_option maxHeartbeats 4000000 in
theorem number1_plus (s : ByteArray) (hs : s.size ≤ 4611686018427387904) (c z v h u : Int) (b0 b1 b2 : Nat) (w : World) (hc : Caps b0 b1 b2 s c z v h w) (hv : Ms.validB z v h = true) (hu : Ms.unitO c z v = some u)
    (h43 : bt s 0 = 43) (r : Ms.Res (Int × Nat)) (hr : Ms.number ⟨s, z, v, h, u, false⟩ 1 = r) :
    Calls Tryd.prog 40 #[.pointer (some ⟨b0, 0, none⟩), .pointer (some ⟨b1, 0, none⟩), .pointer (some ⟨b2, 0, none⟩)] w (KeptV (numB s r) w) := by
  obtain ⟨k0, k1, k2, k3, k4⟩ := hc
  have g := good_of hv hu hs
  have hpos : 0 < s.size := Ms.lt_of_bt (by omega)
  have hle : 1 ≤ s.size := hpos
  have h45 : ¬ bt s 0 = 45 := by omega
  have hN := fun (b : Nat) (w : World) (hr' : Rd ⟨s, z, v, h, u, false⟩ b 1 0 0 w) => number_any ⟨s, z, v, h, u, false⟩ g b 1 0 0 w hr' hle
  have hfi := number_fine ⟨s, z, v, h, u, false⟩ 1 hle
  rw [hr] at hN hfi
  have HN := Lib.hid hN
  have HV := Lib.hid hv
  have HU := Lib.hid hu
  have HF := Lib.hid hfi
  clear hN hv hu hfi hr g
  rcases r with ⟨y, q⟩ | c'
  · obtain ⟨y0, y1, q0, q1⟩ := HF.out y q rfl
    have q1' : q ≤ s.size := q1
    by_cases hq : q < s.size
    · rw [show numB s (.ok (y, q)) = .er 4 from if_pos hq]
      go_enter Tryd.func40, Tryd.ntmps40
      go_wp2_with fail
      refine (newReader_ok s c z v h u HV.out HU.out _).mono ?_
      rintro e w1 ⟨b, rfl, hbb, hr, hb⟩
      go_wp2_with fail
      refine (takes_no ⟨s, z, v, h, u, false⟩ b 0 0 0 45 _ hs hr (Nat.zero_le _) h45).mono ?_
      rintro e w1' ⟨rfl, hd0⟩
      go_wp2_with fail
      refine (takes_yes ⟨s, z, v, h, u, false⟩ b 0 0 0 43 _ hs (hd0.rd hr) hpos h43).mono ?_
      rintro e w1'' ⟨rfl, hm1⟩
      have hm0 : Moved ⟨s, z, v, h, u, false⟩ b 1 0 0 w1 w1'' := ⟨hm1.1, (hd0.only b).trans hm1.2⟩
      go_wp2_with fail
      refine (HN.out b _ hm0.1).mono ?_
      rintro e w2 ⟨rfl, hm⟩
      go_wp2_with fail
      refine (mustEnd_no ⟨s, z, v, h, u, false⟩ b q _ _ _ hs hm.1 hq).mono ?_
      rintro e w3 ⟨rfl, hd⟩
      go_wp2
      exact ⟨rfl, rfl, (hb.trans ((hm0.trans hm).2.below hbb hb.size)).trans (hd.below _)⟩
    · rw [show numB s (.ok (y, q)) = .ok (y) from by simp [numB, hq, h45]]
      go_enter Tryd.func40, Tryd.ntmps40
      go_wp2_with fail
      refine (newReader_ok s c z v h u HV.out HU.out _).mono ?_
      rintro e w1 ⟨b, rfl, hbb, hr, hb⟩
      go_wp2_with fail
      refine (takes_no ⟨s, z, v, h, u, false⟩ b 0 0 0 45 _ hs hr (Nat.zero_le _) h45).mono ?_
      rintro e w1' ⟨rfl, hd0⟩
      go_wp2_with fail
      refine (takes_yes ⟨s, z, v, h, u, false⟩ b 0 0 0 43 _ hs (hd0.rd hr) hpos h43).mono ?_
      rintro e w1'' ⟨rfl, hm1⟩
      have hm0 : Moved ⟨s, z, v, h, u, false⟩ b 1 0 0 w1 w1'' := ⟨hm1.1, (hd0.only b).trans hm1.2⟩
      go_wp2_with fail
      refine (HN.out b _ hm0.1).mono ?_
      rintro e w2 ⟨rfl, hm⟩
      go_wp2_with fail
      refine (mustEnd_yes ⟨s, z, v, h, u, false⟩ b q _ _ _ hs hm.1 hq).mono ?_
      rintro e w3 ⟨rfl, hd⟩
      go_wp2
      go_ret
      exact ⟨rfl, (hb.trans ((hm0.trans hm).2.below hbb hb.size)).trans (hd.below _)⟩
  · rw [show numB s (.er c') = .er c' from rfl]
    go_enter Tryd.func40, Tryd.ntmps40
    go_wp2_with fail
    refine (newReader_ok s c z v h u HV.out HU.out _).mono ?_
    rintro e w1 ⟨b, rfl, hbb, hr, hb⟩
    go_wp2_with fail
    refine (takes_no ⟨s, z, v, h, u, false⟩ b 0 0 0 45 _ hs hr (Nat.zero_le _) h45).mono ?_
    rintro e w1' ⟨rfl, hd0⟩
    go_wp2_with fail
    refine (takes_yes ⟨s, z, v, h, u, false⟩ b 0 0 0 43 _ hs (hd0.rd hr) hpos h43).mono ?_
    rintro e w1'' ⟨rfl, hm1⟩
    have hm0 : Moved ⟨s, z, v, h, u, false⟩ b 1 0 0 w1 w1'' := ⟨hm1.1, (hd0.only b).trans hm1.2⟩
    go_wp2_with fail
    refine (HN.out b _ hm0.1).mono ?_
    rintro e w2 ⟨rfl, a, d', hm⟩
    go_wp2
    exact ⟨rfl, rfl, hb.trans ((hm0.trans hm).2.below hbb hb.size)⟩

set_option maxHeartbeats 4000000 in
theorem number1_none (s : ByteArray) (hs : s.size ≤ 4611686018427387904) (c z v h u : Int) (b0 b1 b2 : Nat) (w : World) (hc : Caps b0 b1 b2 s c z v h w) (hv : Ms.validB z v h = true) (hu : Ms.unitO c z v = some u)
    (h45 : ¬ bt s 0 = 45) (h43 : ¬ bt s 0 = 43) (r : Ms.Res (Int × Nat)) (hr : Ms.number ⟨s, z, v, h, u, false⟩ 0 = r) :
    Calls Tryd.prog 40 #[.pointer (some ⟨b0, 0, none⟩), .pointer (some ⟨b1, 0, none⟩), .pointer (some ⟨b2, 0, none⟩)] w (KeptV (numB s r) w) := by
  obtain ⟨k0, k1, k2, k3, k4⟩ := hc
  have g := good_of hv hu hs
  have hle : 0 ≤ s.size := Nat.zero_le _
  have hN := fun (b : Nat) (w : World) (hr' : Rd ⟨s, z, v, h, u, false⟩ b 0 0 0 w) => number_any ⟨s, z, v, h, u, false⟩ g b 0 0 0 w hr' hle
  have hfi := number_fine ⟨s, z, v, h, u, false⟩ 0 hle
  rw [hr] at hN hfi
  have HN := Lib.hid hN
  have HV := Lib.hid hv
  have HU := Lib.hid hu
  have HF := Lib.hid hfi
  clear hN hv hu hfi hr g
  rcases r with ⟨y, q⟩ | c'
  · obtain ⟨y0, y1, q0, q1⟩ := HF.out y q rfl
    have q1' : q ≤ s.size := q1
    by_cases hq : q < s.size
    · rw [show numB s (.ok (y, q)) = .er 4 from if_pos hq]
      go_enter Tryd.func40, Tryd.ntmps40
      go_wp2_with fail
      refine (newReader_ok s c z v h u HV.out HU.out _).mono ?_
      rintro e w1 ⟨b, rfl, hbb, hr, hb⟩
      go_wp2_with fail
      refine (takes_no ⟨s, z, v, h, u, false⟩ b 0 0 0 45 _ hs hr (Nat.zero_le _) h45).mono ?_
      rintro e w1' ⟨rfl, hd0⟩
      go_wp2_with fail
      refine (takes_no ⟨s, z, v, h, u, false⟩ b 0 0 0 43 _ hs (hd0.rd hr) (Nat.zero_le _) h43).mono ?_
      rintro e w1'' ⟨rfl, hd1⟩
      have hm0 : Moved ⟨s, z, v, h, u, false⟩ b 0 0 0 w1 w1'' := ⟨hd1.rd (hd0.rd hr), (hd0.only b).trans (hd1.only b)⟩
      go_wp2_with fail
      refine (HN.out b _ hm0.1).mono ?_
      rintro e w2 ⟨rfl, hm⟩
      go_wp2_with fail
      refine (mustEnd_no ⟨s, z, v, h, u, false⟩ b q _ _ _ hs hm.1 hq).mono ?_
      rintro e w3 ⟨rfl, hd⟩
      go_wp2
      exact ⟨rfl, rfl, (hb.trans ((hm0.trans hm).2.below hbb hb.size)).trans (hd.below _)⟩
    · rw [show numB s (.ok (y, q)) = .ok (y) from by simp [numB, hq, h45]]
      go_enter Tryd.func40, Tryd.ntmps40
      go_wp2_with fail
      refine (newReader_ok s c z v h u HV.out HU.out _).mono ?_
      rintro e w1 ⟨b, rfl, hbb, hr, hb⟩
      go_wp2_with fail
      refine (takes_no ⟨s, z, v, h, u, false⟩ b 0 0 0 45 _ hs hr (Nat.zero_le _) h45).mono ?_
      rintro e w1' ⟨rfl, hd0⟩
      go_wp2_with fail
      refine (takes_no ⟨s, z, v, h, u, false⟩ b 0 0 0 43 _ hs (hd0.rd hr) (Nat.zero_le _) h43).mono ?_
      rintro e w1'' ⟨rfl, hd1⟩
      have hm0 : Moved ⟨s, z, v, h, u, false⟩ b 0 0 0 w1 w1'' := ⟨hd1.rd (hd0.rd hr), (hd0.only b).trans (hd1.only b)⟩
      go_wp2_with fail
      refine (HN.out b _ hm0.1).mono ?_
      rintro e w2 ⟨rfl, hm⟩
      go_wp2_with fail
      refine (mustEnd_yes ⟨s, z, v, h, u, false⟩ b q _ _ _ hs hm.1 hq).mono ?_
      rintro e w3 ⟨rfl, hd⟩
      go_wp2
      go_ret
      exact ⟨rfl, (hb.trans ((hm0.trans hm).2.below hbb hb.size)).trans (hd.below _)⟩
  · rw [show numB s (.er c') = .er c' from rfl]
    go_enter Tryd.func40, Tryd.ntmps40
    go_wp2_with fail
    refine (newReader_ok s c z v h u HV.out HU.out _).mono ?_
    rintro e w1 ⟨b, rfl, hbb, hr, hb⟩
    go_wp2_with fail
    refine (takes_no ⟨s, z, v, h, u, false⟩ b 0 0 0 45 _ hs hr (Nat.zero_le _) h45).mono ?_
    rintro e w1' ⟨rfl, hd0⟩
    go_wp2_with fail
    refine (takes_no ⟨s, z, v, h, u, false⟩ b 0 0 0 43 _ hs (hd0.rd hr) (Nat.zero_le _) h43).mono ?_
    rintro e w1'' ⟨rfl, hd1⟩
    have hm0 : Moved ⟨s, z, v, h, u, false⟩ b 0 0 0 w1 w1'' := ⟨hd1.rd (hd0.rd hr), (hd0.only b).trans (hd1.only b)⟩
    go_wp2_with fail
    refine (HN.out b _ hm0.1).mono ?_
    rintro e w2 ⟨rfl, a, d', hm⟩
    go_wp2
    exact ⟨rfl, rfl, hb.trans ((hm0.trans hm).2.below hbb hb.size)⟩

theorem number1_any (s : ByteArray) (hs : s.size ≤ 4611686018427387904) (c z v h : Int) (b0 b1 b2 : Nat) (w : World) (hc : Caps b0 b1 b2 s c z v h w) :
    Calls Tryd.prog 40 #[.pointer (some ⟨b0, 0, none⟩), .pointer (some ⟨b1, 0, none⟩), .pointer (some ⟨b2, 0, none⟩)] w (KeptV (numberM s c z v h) w) := by
  cases hv : Ms.validB z v h with
  | false =>
    rw [show numberM s c z v h = .er 1 from by unfold numberM; rw [if_neg (by rw [hv]; simp)]]
    exact number1_bad s c z v h b0 b1 b2 w hc (.inl hv)
  | true =>
    cases hu : Ms.unitO c z v with
    | none =>
      rw [show numberM s c z v h = .er 1 from by unfold numberM; rw [if_pos hv, hu]]
      exact number1_bad s c z v h b0 b1 b2 w hc (.inr hu)
    | some u =>
      rw [show numberM s c z v h = numB s (Ms.number ⟨s, z, v, h, u, false⟩ (numFrom s)) from by unfold numberM; rw [if_pos hv, hu]]
      by_cases h45 : bt s 0 = 45
      · rw [show numFrom s = 1 from if_pos (.inl h45)]
        exact number1_minus s hs c z v h u b0 b1 b2 w hc hv hu h45 _ rfl
      · by_cases h43 : bt s 0 = 43
        · rw [show numFrom s = 1 from if_pos (.inr h43)]
          exact number1_plus s hs c z v h u b0 b1 b2 w hc hv hu h43 _ rfl
        · rw [show numFrom s = 0 from if_neg (by omega)]
          exact number1_none s hs c z v h u b0 b1 b2 w hc hv hu h45 h43 _ rfl

theorem enters_number (cap : Array Value) (w : World) : (callFunc 40 cap).run Tryd.prog w = .ok (.enter 40 cap) w := by kernel_rfl

set_option maxRecDepth 100000 in
set_option maxHeartbeats 1000000 in
theorem mnumber_any (s : ByteArray) (hs : s.size ≤ 4611686018427387904) (c z v h : Int) (w : World) :
    Calls Tryd.prog 21 #[.string s, .int .u8 c, .agg #[.int .i64 z, .int .i64 v, .int .i64 h]] w (Edge (numberM s c z v h) w) := by
  have hmf : ∀ (fn : Fn) (first cap : Array Value) (w : World), (Instr.makeFunc fn first cap).run Tryd.prog w = .ok (.func fn first cap) w := fun _ _ _ _ => rfl
  obtain ⟨r, hr⟩ : ∃ r, numberM s c z v h = r := ⟨_, rfl⟩
  have h1 := fun b0 b1 b2 w => number1_any s hs c z v h b0 b1 b2 w
  rw [hr] at h1 ⊢
  have H1 := Lib.hid h1
  clear h1 hr
  go_enter Tryd.func21, Tryd.ntmps21
  go_wp2_with fail
  refine (attempt_of 40 _ (fun w => enters_number _ w) r _ (fun w1 hk => ?_)).mono ?_
  · obtain ⟨hc, hf⟩ := bcell hk
    refine H1.out _ _ _ w1 ⟨?_, ?_, ?_, ?_, ?_⟩
    all_goals
      rw [hc _ _ (by simp; try omega)]
      simp [go_sem]
  · rcases r with y | c'
    · rintro e w1 ⟨rfl, hk⟩
      go_wp2_with fail
      go_ret2
      exact ⟨rfl, ((((Below.refl _ _).alloc (Nat.le_refl _) _).alloc (by simp) _).alloc (by simp; omega) _).trans (hk.mono (by simp; omega))⟩
    · rintro e w1 ⟨rfl, hk⟩
      go_wp2_with fail
      go_ret2
      exact ⟨rfl, ((((Below.refl _ _).alloc (Nat.le_refl _) _).alloc (by simp) _).alloc (by simp; omega) _).trans (hk.mono (by simp; omega))⟩
end Go.Proofs.YtkkcoajgpdpfkabDoor
