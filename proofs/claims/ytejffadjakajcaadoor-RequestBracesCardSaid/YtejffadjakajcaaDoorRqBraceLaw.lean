/- RequestBraces, walked. -/
import Derived.Test.YtejffadjakajcaaDoorRqBrace
import Derived.Test.YtejffadjakajcaaDoorRqBits
namespace Go.Proofs.YtejffadjakajcaaDoor
open Go.RowKit Go.PlainAid Go.Shelf

set_option maxRecDepth 100000 in
set_option maxHeartbeats 1000000 in
theorem braces_any (l : List UInt8) (z : Int) (hl : l.length ≤ 1000000) (hz : z ≤ 1000000) (w : World) : Calls Tryd.prog 18 #[.string (mk8 l), .int .i64 z] w (Says (.bool true) w) := by
  have HP := Lib.hid (pbraces_any l z hl hz w)
  have HR := Lib.hid (rbraces_any l z hl hz w)
  unfold BraceP at HP HR
  obtain ⟨⟨a, b⟩, hq⟩ : ∃ q, brR 0 (depthN z) l = q := ⟨_, rfl⟩
  rw [hq] at HP HR
  have e1 : ((a : Int) == (a : Int)) = true := by simp
  have e2 : (b == b) = true := by simp
  clear hq hl hz
  go_enter Tryd.func18, Tryd.ntmps18
  go_wp2_with fail
  refine HP.out.mono ?_
  rintro e w1 ⟨rfl, rfl⟩
  go_wp2_with fail
  refine HR.out.mono ?_
  rintro e w1 ⟨rfl, rfl⟩
  go_wp2_with fail
  go_ret
  exact ⟨rfl, rfl⟩

set_option maxRecDepth 100000 in
set_option maxHeartbeats 4000000 in
theorem law_braces (s : ByteArray) (ao : Option Addr) (len cap : Nat) (z : Int) (W : World) (h : BytesAt ao len W) : Calls Tryd.prog 7 #[.string s, .slice ao len cap, .int .i64 z] W (Makes (.bool true) W) := by
  have HS := Lib.hid sane_any
  have HB := Lib.hid h
  clear h
  by_cases h1 : 2200 < s.size
  · have hz1 : (2200 : Int) < s.size := by omega
    go_enter Tryd.func7, Tryd.ntmps7
    go_wp2_with fail
    refine (HS.out _).mono ?_
    rintro e w1 ⟨rfl, hb⟩
    go_wp2_with fail
    go_ret
    exact ⟨rfl, hb⟩
  · have d1 : decide ((2200 : Int) < s.size) = false := decide_eq_false (by omega)
    by_cases h2 : 60 < len
    · have hz2 : decide ((60 : Int) < len) = true := decide_eq_true (by omega)
      go_enter Tryd.func7, Tryd.ntmps7
      go_wp2_with fail
      refine (HS.out _).mono ?_
      rintro e w1 ⟨rfl, hb⟩
      go_wp2_with fail
      go_ret
      exact ⟨rfl, hb⟩
    · have d2 : decide ((60 : Int) < len) = false := decide_eq_false (by omega)
      by_cases h3 : 1000000 < z
      · have hz3 : decide ((1000000 : Int) < z) = true := decide_eq_true h3
        go_enter Tryd.func7, Tryd.ntmps7
        go_wp2_with fail
        refine (HS.out _).mono ?_
        rintro e w1 ⟨rfl, hb⟩
        go_wp2_with fail
        go_ret
        exact ⟨rfl, hb⟩
      · have d3 : decide ((1000000 : Int) < z) = false := decide_eq_false h3
        by_cases h4 : z < -1000000
        · have hz4 : decide (z < (-1000000 : Int)) = true := decide_eq_true h4
          go_enter Tryd.func7, Tryd.ntmps7
          go_wp2_with fail
          refine (HS.out _).mono ?_
          rintro e w1 ⟨rfl, hb⟩
          go_wp2_with fail
          go_ret
          exact ⟨rfl, hb⟩
        · have d4 : decide (z < (-1000000 : Int)) = false := decide_eq_false h4
          have HB1 := Lib.hid (fun w => braces_any s.data.toList z (by rw [← Lib.size_eq]; omega) (by omega) w)
          rw [mk8_of] at HB1
          have HB2 := Lib.hid (fun (l : List UInt8) (hl : l.length ≤ 5 * len) w => braces_any l z (by omega) (by omega) w)
          have HB3 := Lib.hid (fun (l : List UInt8) (hl : l.length ≤ 5 * len) w => braces_any l 1 (by omega) (by omega) w)
          have HBits := Lib.hid (fun w (hb : Below W.heap.size W w) => bits_any ao len cap w (HB.out.below hb) (by omega))
          clear h1 h2 h3 h4
          go_enter Tryd.func7, Tryd.ntmps7
          go_wp2_with fail
          refine (HB1.out _).mono ?_
          rintro e w1 ⟨rfl, rfl⟩
          go_wp2_with fail
          refine (HBits.out _ (Below.refl _ _)).mono ?_
          rintro e w1 ⟨s1, rfl, hs1, hb1⟩
          have HB1' := Lib.hid hb1
          clear hb1
          go_wp2_with fail
          refine (HB2.out s1 hs1 _).mono ?_
          rintro e w2 ⟨rfl, rfl⟩
          go_wp2_with fail
          refine (HBits.out _ HB1'.out).mono ?_
          rintro e w2 ⟨s2, rfl, hs2, hb2⟩
          have HB2' := Lib.hid (HB1'.out.trans (hb2.mono HB1'.out.size))
          clear hb2
          go_wp2_with fail
          refine (HB3.out s2 hs2 _).mono ?_
          rintro e w3 ⟨rfl, rfl⟩
          go_wp2_with fail
          refine (HS.out _).mono ?_
          rintro e w3 ⟨rfl, hb3⟩
          go_wp2_with fail
          go_ret
          exact ⟨rfl, HB2'.out.trans (hb3.mono HB2'.out.size)⟩
end Go.Proofs.YtejffadjakajcaaDoor
