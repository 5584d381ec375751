/- The widths of bytes in R. -/
import Derived.Test.YtboophfcakdlcaaFtOrd
import Derived.Shelf.Small.Strs
import Derived.Lib.IndexAny
namespace Go.Proofs.Ytboophfcakdlcaa
open Go.RowKit Go.PlainAid Go.Shelf

def thinS : List UInt8 := [105, 106, 108, 116, 102, 46, 44, 58, 59, 39, 124, 33, 96]
def slimS : List UInt8 := [40, 41, 91, 93, 123, 125, 45, 114, 115, 47, 92, 34]
def wideS : List UInt8 := [77, 87, 64, 37]
def romanW (c : UInt8) : Int :=
  if thinS.contains c then 250 else if slimS.contains c then 350 else if c == 109 || c == 119 then 750 else if wideS.contains c then 900
  else if decide (65 ≤ c.toNat) && decide (c.toNat ≤ 90) then 650 else 500
theorem index_has (cs : List UInt8) (c : UInt8) : decide (0 ≤ Lib.indexByte cs c) = cs.contains c := (Lib.contains_iff_indexByte cs c).symm
theorem u8_of (c : UInt8) : ((c.toNat : Int)).toNat.toUInt8 = c := by simp
theorem indexC (cs : List UInt8) (s : ByteArray) (hs : s.data.toList = cs) (c : UInt8) (w : World) : ∃ i : Int, decide (0 ≤ i) = cs.contains c ∧ Calls Try.prog 94 #[.string s, .int .u8 c.toNat] w (Says (.int .i64 i) w) := by
  refine ⟨Lib.indexByte cs c, index_has cs c, ?_⟩
  have h := Any.strings_IndexByte Try.indexL s c.toNat w
  rw [hs, u8_of] at h
  exact h.mono fun e w' ⟨h1, h2⟩ => ⟨h1, h2.symm⟩

set_option maxRecDepth 100000 in
set_option maxHeartbeats 4000000 in
theorem romanWidth_any (c : UInt8) (w : World) : Calls Try.prog 64 #[.int .u8 c.toNat] w (Says (.int .i64 (romanW c)) w) := by
  obtain ⟨i1, f1, h1⟩ := indexC thinS ⟨#[105, 106, 108, 116, 102, 46, 44, 58, 59, 39, 124, 33, 96]⟩ rfl c w
  obtain ⟨i2, f2, h2⟩ := indexC slimS ⟨#[40, 41, 91, 93, 123, 125, 45, 114, 115, 47, 92, 34]⟩ rfl c w
  obtain ⟨i3, f3, h3⟩ := indexC wideS ⟨#[77, 87, 64, 37]⟩ rfl c w
  have f4 : (((c.toNat : Nat) : Int) == 109) = (c == 109) := (u8_beq c 109).symm
  have f5 : (((c.toNat : Nat) : Int) == 119) = (c == 119) := (u8_beq c 119).symm
  have f6 : decide ((65 : Int) ≤ ((c.toNat : Nat) : Int)) = decide (65 ≤ c.toNat) := by rw [Bool.eq_iff_iff, decide_eq_true_eq, decide_eq_true_eq]; omega
  have f7 : decide (((c.toNat : Nat) : Int) ≤ (90 : Int)) = decide (c.toNat ≤ 90) := by rw [Bool.eq_iff_iff, decide_eq_true_eq, decide_eq_true_eq]; omega
  unfold romanW
  obtain ⟨b1, e1⟩ : ∃ b, thinS.contains c = b := ⟨_, rfl⟩
  obtain ⟨b2, e2⟩ : ∃ b, slimS.contains c = b := ⟨_, rfl⟩
  obtain ⟨b3, e3⟩ : ∃ b, wideS.contains c = b := ⟨_, rfl⟩
  obtain ⟨b4, e4⟩ : ∃ b, (c == 109) = b := ⟨_, rfl⟩
  obtain ⟨b5, e5⟩ : ∃ b, (c == 119) = b := ⟨_, rfl⟩
  obtain ⟨b6, e6⟩ : ∃ b, decide (65 ≤ c.toNat) = b := ⟨_, rfl⟩
  obtain ⟨b7, e7⟩ : ∃ b, decide (c.toNat ≤ 90) = b := ⟨_, rfl⟩
  rw [e1] at f1 ⊢; rw [e2] at f2 ⊢; rw [e3] at f3 ⊢; rw [e4] at f4 ⊢; rw [e5] at f5 ⊢; rw [e6] at f6 ⊢; rw [e7] at f7 ⊢
  obtain ⟨k, hk⟩ : ∃ k : Int, (c.toNat : Int) = k := ⟨_, rfl⟩
  rw [hk] at h1 h2 h3 f4 f5 f6 f7 ⊢
  have H1 := Lib.hid h1
  have H2 := Lib.hid h2
  have H3 := Lib.hid h3
  clear e1 e2 e3 e4 e5 e6 e7 hk h1 h2 h3
  cases b1 with
  | true =>
    go_enter Try.func64, Try.ntmps64
    go_wp2_with fail
    refine H1.out.mono ?_
    rintro e w1 ⟨rfl, rfl⟩
    go_wp2_with fail
    go_ret
    exact ⟨rfl, rfl⟩
  | false =>
    cases b2 with
    | true =>
      go_enter Try.func64, Try.ntmps64
      go_wp2_with fail
      refine H1.out.mono ?_
      rintro e w1 ⟨rfl, rfl⟩
      go_wp2_with fail
      refine H2.out.mono ?_
      rintro e w1 ⟨rfl, rfl⟩
      go_wp2_with fail
      go_ret
      exact ⟨rfl, rfl⟩
    | false =>
      cases b4 with
      | true =>
        go_enter Try.func64, Try.ntmps64
        go_wp2_with fail
        refine H1.out.mono ?_
        rintro e w1 ⟨rfl, rfl⟩
        go_wp2_with fail
        refine H2.out.mono ?_
        rintro e w1 ⟨rfl, rfl⟩
        go_wp2_with fail
        go_ret
        exact ⟨rfl, rfl⟩
      | false =>
        cases b5 with
        | true =>
          go_enter Try.func64, Try.ntmps64
          go_wp2_with fail
          refine H1.out.mono ?_
          rintro e w1 ⟨rfl, rfl⟩
          go_wp2_with fail
          refine H2.out.mono ?_
          rintro e w1 ⟨rfl, rfl⟩
          go_wp2_with fail
          go_ret
          exact ⟨rfl, rfl⟩
        | false =>
          cases b3 with
          | true =>
            go_enter Try.func64, Try.ntmps64
            go_wp2_with fail
            refine H1.out.mono ?_
            rintro e w1 ⟨rfl, rfl⟩
            go_wp2_with fail
            refine H2.out.mono ?_
            rintro e w1 ⟨rfl, rfl⟩
            go_wp2_with fail
            refine H3.out.mono ?_
            rintro e w1 ⟨rfl, rfl⟩
            go_wp2_with fail
            go_ret
            exact ⟨rfl, rfl⟩
          | false =>
            cases b6 <;> cases b7 <;>
              (go_enter Try.func64, Try.ntmps64
               go_wp2_with fail
               refine H1.out.mono ?_
               rintro e w1 ⟨rfl, rfl⟩
               go_wp2_with fail
               refine H2.out.mono ?_
               rintro e w1 ⟨rfl, rfl⟩
               go_wp2_with fail
               refine H3.out.mono ?_
               rintro e w1 ⟨rfl, rfl⟩
               go_wp2_with fail
               go_ret
               exact ⟨rfl, rfl⟩)
end Go.Proofs.Ytboophfcakdlcaa
