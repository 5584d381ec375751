/- Braces, the program's and the document's. -/
import Derived.Test.YtejffadjakajcaaDoorRqSane
import Derived.Deep.DeepCutAuto
namespace Go.Proofs.YtejffadjakajcaaDoor
open Go.RowKit Go.PlainAid Go.Shelf

/-- How a line's braces come out from a depth on: the depth, and how many bytes stand ahead of the end and in it. -/
def brcL : Nat → List UInt8 → Nat × Option Nat
  | d, [] => (d, none)
  | d, [_] => (d, none)
  | d, c :: x :: r =>
    if c = 92 then
      (if x = 123 then ((brcL (d + 1) r).1, (brcL (d + 1) r).2.map (· + 2))
       else if x = 125 then (if d = 1 then (0, some 2) else ((brcL (d - 1) r).1, (brcL (d - 1) r).2.map (· + 2)))
       else ((brcL d r).1, (brcL d r).2.map (· + 2)))
    else ((brcL d (x :: r)).1, (brcL d (x :: r)).2.map (· + 1))
def plc (k : Nat) (o : Option Nat) : Int := match o with | none => -1 | some n => (k + n : Nat)
def brR (k d : Nat) (m : List UInt8) : Nat × Int := ((brcL d m).1, plc k (brcL d m).2)
theorem plc_map (k j : Nat) (o : Option Nat) : plc k (o.map (· + j)) = plc (k + j) o := by
  cases o with
  | none => rfl
  | some n => show ((k + (n + j) : Nat) : Int) = ((k + j + n : Nat) : Int); omega
theorem brR_end {k d : Nat} {m : List UInt8} (h : m.length ≤ 1) : brR k d m = (d, -1) := by
  match m, h with
  | [], _ => rfl
  | [c], _ => rfl
theorem brR_other {k d : Nat} {c : UInt8} {r : List UInt8} (h : c ≠ 92) : brR k d (c :: r) = brR (k + 1) d r := by
  match r with
  | [] => rfl
  | x :: r =>
    have e : brcL d (c :: x :: r) = ((brcL d (x :: r)).1, (brcL d (x :: r)).2.map (· + 1)) := by conv => lhs; unfold brcL; simp [h]
    unfold brR
    rw [e, plc_map]
theorem brR_open {k d : Nat} {r : List UInt8} : brR k d (92 :: 123 :: r) = brR (k + 2) (d + 1) r := by
  have e : brcL d (92 :: 123 :: r) = ((brcL (d + 1) r).1, (brcL (d + 1) r).2.map (· + 2)) := by conv => lhs; unfold brcL; simp
  unfold brR
  rw [e, plc_map]
theorem brR_last {k : Nat} {r : List UInt8} : brR k 1 (92 :: 125 :: r) = (0, ((k + 2 : Nat) : Int)) := by
  have e : brcL 1 (92 :: 125 :: r) = (0, some 2) := by conv => lhs; unfold brcL; simp
  unfold brR
  rw [e]
  rfl
theorem brR_close {k d : Nat} {r : List UInt8} (h : d ≠ 1) : brR k d (92 :: 125 :: r) = brR (k + 2) (d - 1) r := by
  have e : brcL d (92 :: 125 :: r) = ((brcL (d - 1) r).1, (brcL (d - 1) r).2.map (· + 2)) := by conv => lhs; unfold brcL; simp [h]
  unfold brR
  rw [e, plc_map]
theorem brR_both {k d : Nat} {x : UInt8} {r : List UInt8} (h1 : x ≠ 123) (h2 : x ≠ 125) : brR k d (92 :: x :: r) = brR (k + 2) d r := by
  have e : brcL d (92 :: x :: r) = ((brcL d r).1, (brcL d r).2.map (· + 2)) := by conv => lhs; unfold brcL; simp [h1, h2]
  unfold brR
  rw [e, plc_map]

def depthN (z : Int) : Nat := (max 0 z).toNat
abbrev BraceP (l : List UInt8) (z : Int) (w : World) : Ending → World → Prop := Says (.tuple #[.int .i64 (brR 0 (depthN z) l).1, .int .i64 (brR 0 (depthN z) l).2]) w

set_option maxRecDepth 100000 in
set_option maxHeartbeats 4000000 in
theorem rbraces_any (l : List UInt8) (z : Int) (hl : l.length ≤ 1000000) (hz : z ≤ 1000000) (w : World) : Calls Tryd.prog 34 #[.string (mk8 l), .int .i64 z] w (BraceP l z w) := by
  obtain ⟨R, hR⟩ : ∃ R, brR 0 (depthN z) l = R := ⟨_, rfl⟩
  have hD : max 0 z = (depthN z : Int) := by unfold depthN; omega
  have hD2 : depthN z ≤ 1000000 := by unfold depthN; omega
  have H0 : Hid (R = brR 0 (depthN z) (l.drop 0)) := by show _ = _; rw [List.drop_zero, hR]
  show Calls _ _ _ _ (Says (.tuple #[.int .i64 (brR 0 (depthN z) l).1, .int .i64 (brR 0 (depthN z) l).2]) w)
  rw [hR]
  obtain ⟨D, hDD⟩ : ∃ D, depthN z = D := ⟨_, rfl⟩
  rw [hDD] at hD hD2 H0
  clear hR hDD
  have hgb := get_bt (mk8 l)
  have z1 : ((mk8 l).size : Int) = l.length := by rw [mk8_size]
  have z2 : (mk8 l).size = l.length := mk8_size l
  go_enter Tryd.func34, Tryd.ntmps34
  go_wp2_with fail
  clear hD
  go_loop [1, 6] (fun d i => ∃ k D : Nat, k ≤ l.length + 1 ∧ D ≤ 1000000 + k ∧ i = .int .i64 k ∧ d = .int .i64 D ∧ Hid (R = brR k D (l.drop k))) (fun _ i => l.length + 1 - (intOf i).toNat)
  case atStart => exact ⟨0, D, by omega, by omega, rfl, rfl, H0⟩
  case round =>
    obtain ⟨k, D, hk, hDk, rfl, rfl, hn⟩ := hrel
    by_cases hlt : k + 1 < l.length
    · obtain ⟨c, hc, hd⟩ := drop_cons (show k < l.length by omega)
      obtain ⟨x, hx, hd1⟩ := drop_cons hlt
      have hbt := bt_mk hc
      have hbx := bt_mk hx
      have hkz : (k : Int) + 1 < l.length := by omega
      have hks : k < (mk8 l).size := by omega
      have hks1 : k + 1 < (mk8 l).size := by omega
      have hn2 := hn.out
      rw [hd] at hn2
      clear hn
      by_cases h92 : c = 92
      · subst h92
        have e1 : (bt (mk8 l) k != 92) = false := by rw [hbt]; rfl
        rw [hd1] at hn2
        by_cases h123 : x = 123
        · subst h123
          have e2 : (bt (mk8 l) (k + 1) == 123) = true := by rw [hbx]; rfl
          have e3 : (bt (mk8 l) (k + 1) == 125) = false := by rw [hbx]; rfl
          have HS : Hid (R = brR (k + 2) (D + 1) (l.drop (k + 2))) := by show _ = _; rw [hn2, brR_open]
          clear hn2 hd hd1 hc hx hbt hbx
          go_wp2_with fail
          go_round
          case rel => exact ⟨k + 2, D + 1, by omega, by omega, by go_num, by go_num, HS⟩
          case measure => simp [intOf]; omega
        · have e2 : (bt (mk8 l) (k + 1) == 123) = false := by rw [hbx]; exact (u8_eq (k := 123)).trans (by simpa using h123)
          by_cases h125 : x = 125
          · subst h125
            have e3 : (bt (mk8 l) (k + 1) == 125) = true := by rw [hbx]; rfl
            by_cases hD0 : D = 0
            · subst hD0
              have HS : Hid (R = brR (k + 2) 0 (l.drop (k + 2))) := by show _ = _; rw [hn2, brR_close (by omega)]
              have e4 : decide ((0 : Int) < ((0 : Nat) : Int)) = false := rfl
              clear hn2 hd hd1 hc hx hbt hbx
              go_wp2_with fail
              go_round
              case rel => exact ⟨k + 2, 0, by omega, by omega, by go_num, rfl, HS⟩
              case measure => simp [intOf]; omega
            · have e4 : decide ((0 : Int) < (D : Int)) = true := decide_eq_true (by omega)
              by_cases hD1 : D = 1
              · subst hD1
                have HE : Hid (R = (0, ((k + 2 : Nat) : Int))) := by show _ = _; rw [hn2, brR_last]
                clear hn2 hd hd1 hc hx hbt hbx
                go_wp2_with fail
                go_ret2
                refine ⟨?_, rfl⟩
                rw [HE.out, show (((k + 2 : Nat)) : Int) = (k : Int) + 1 + 1 from by omega]
                rfl
              · have HS : Hid (R = brR (k + 2) (D - 1) (l.drop (k + 2))) := by show _ = _; rw [hn2, brR_close hD1]
                have e5 : ((D : Int) - 1 == 0) = false := by rw [beq_eq_false_iff_ne]; omega
                have e6 : ((D - 1 : Nat) : Int) = (D : Int) - 1 := by omega
                have hd0 : (1 : Int) ≤ D := by omega
                clear hn2 hd hd1 hc hx hbt hbx
                go_wp2_with fail
                go_round
                case rel => exact ⟨k + 2, D - 1, by omega, by omega, by go_num, by rw [e6], HS⟩
                case measure => simp [intOf]; omega
          · have e3 : (bt (mk8 l) (k + 1) == 125) = false := by rw [hbx]; exact (u8_eq (k := 125)).trans (by simpa using h125)
            have HS : Hid (R = brR (k + 2) D (l.drop (k + 2))) := by show _ = _; rw [hn2, brR_both h123 h125]
            clear hn2 hd hd1 hc hx hbt hbx
            go_wp2_with fail
            go_round
            case rel => exact ⟨k + 2, D, by omega, by omega, by go_num, rfl, HS⟩
            case measure => simp [intOf]; omega
      · have e1 : (bt (mk8 l) k != 92) = true := by
          have : (bt (mk8 l) k == 92) = false := by rw [hbt]; exact (u8_eq (k := 92)).trans (by simpa using h92)
          rw [bne, this]; rfl
        have HS : Hid (R = brR (k + 1) D (l.drop (k + 1))) := by show _ = _; rw [hn2, brR_other h92]
        clear hn2 hd hd1 hc hx hbt hbx
        go_wp2_with fail
        go_round
        case rel => exact ⟨k + 1, D, by omega, by omega, by go_num, rfl, HS⟩
        case measure => simp [intOf]; omega
    · have HE : Hid (R = (D, -1)) := by show _ = _; rw [hn.out, brR_end (by rw [List.length_drop]; omega)]
      have hkz : ¬ ((k : Int) + 1 < l.length) := by omega
      clear hn
      go_wp2_with fail
      go_ret2
      exact ⟨by rw [HE.out]; rfl, rfl⟩

theorem piece_one {m : List UInt8} {c : UInt8} (h : m.head? = some c) (hc : c ≠ 92) : m.take (togN m) = [c] := by
  rw [togN_no h hc]
  match m, h with
  | x :: r, h => obtain rfl : x = c := Option.some.inj h; rfl
theorem one_ne {c x y : UInt8} : ([c] == [x, y]) = false := by rw [beq_eq_false_iff_ne]; intro e; injection e with _ e; cases e
theorem two_eq {x y : UInt8} : ([92, x] == [92, y]) = (x == y) := by rw [Bool.eq_iff_iff]; simp
/-- One step of the count: what the piece at the front is. -/
inductive BStep (k D : Nat) (m : List UInt8) : Prop
  | plain (n : Nat) (h : togN m = n) (h1 : 1 ≤ n) (h2 : n ≤ m.length) (e1 : (m.take n == [92, 123]) = false) (e2 : (m.take n == [92, 125]) = false) (eq : brR k D m = brR (k + n) D (m.drop n))
  | open_ (h : togN m = 2) (h2 : 2 ≤ m.length) (e1 : (m.take 2 == [92, 123]) = true) (eq : brR k D m = brR (k + 2) (D + 1) (m.drop 2))
  | close (h : togN m = 2) (h2 : 2 ≤ m.length) (e1 : (m.take 2 == [92, 123]) = false) (e2 : (m.take 2 == [92, 125]) = true) (last : D = 1 → brR k D m = (0, ((k + 2 : Nat) : Int))) (eq : D ≠ 1 → brR k D m = brR (k + 2) (D - 1) (m.drop 2))
theorem bstep (k D : Nat) (c : UInt8) (r : List UInt8) : BStep k D (c :: r) := by
  by_cases h92 : c = 92
  · subst h92
    match r with
    | [] => exact .plain 1 rfl (by decide) (by simp) rfl rfl (by rw [brR_end (by simp)]; exact (brR_end (by simp)).symm)
    | x :: r =>
      have ht : togN (92 :: x :: r) = 2 := rfl
      by_cases h1 : x = 123
      · subst h1
        exact .open_ ht (by simp) rfl brR_open
      · have e1 : ((92 :: x :: r : List UInt8).take 2 == [92, 123]) = false := two_eq.trans (by simpa using h1)
        by_cases h2 : x = 125
        · subst h2
          exact .close ht (by simp) e1 rfl (fun h => by subst h; exact brR_last) (fun h => brR_close h)
        · exact .plain 2 ht (by decide) (by simp) e1 (two_eq.trans (by simpa using h2)) (brR_both h1 h2)
  · refine .plain 1 (togN_no rfl h92) (by decide) (by simp) one_ne one_ne ?_
    exact brR_other h92

set_option maxRecDepth 100000 in
set_option maxHeartbeats 4000000 in
theorem pbraces_any (l : List UInt8) (z : Int) (hl : l.length ≤ 1000000) (hz : z ≤ 1000000) (w : World) : Calls Tryd.prog 33 #[.string (mk8 l), .int .i64 z] w (BraceP l z w) := by
  obtain ⟨R, hR⟩ : ∃ R, brR 0 (depthN z) l = R := ⟨_, rfl⟩
  have hD : max 0 z = (depthN z : Int) := by unfold depthN; omega
  have hD2 : depthN z ≤ 1000000 := by unfold depthN; omega
  have H0 : Hid (R = brR 0 (depthN z) (l.drop 0)) := by show _ = _; rw [List.drop_zero, hR]
  show Calls _ _ _ _ (Says (.tuple #[.int .i64 (brR 0 (depthN z) l).1, .int .i64 (brR 0 (depthN z) l).2]) w)
  rw [hR]
  obtain ⟨D, hDD⟩ : ∃ D, depthN z = D := ⟨_, rfl⟩
  rw [hDD] at hD hD2 H0
  clear hR hDD
  have hU : IntKind.u64.wrap (D : Int) = D := u64_nonneg (by omega) (by omega)
  have z1 : ((mk8 l).size : Int) = l.length := by rw [mk8_size]
  have z2 : (mk8 l).size = l.length := mk8_size l
  go_enter Tryd.func33, Tryd.ntmps33
  go_wp2_with fail
  clear hD hU
  go_loop [6, 7] (fun d i => ∃ k D : Nat, k ≤ l.length ∧ D ≤ 1000000 + k ∧ i = .int .i64 k ∧ d = .int .u64 D ∧ Hid (R = brR k D (l.drop k))) (fun _ i => l.length - (intOf i).toNat)
  case atStart => exact ⟨0, D, by omega, by omega, rfl, rfl, H0⟩
  case round =>
    obtain ⟨k, D, hk, hDk, rfl, rfl, hn⟩ := hrel
    by_cases hlt : k < l.length
    · obtain ⟨c, hc, hd⟩ := drop_cons hlt
      have hhd : (l.drop k).head? = some c := by rw [hd]; rfl
      have HT := Lib.hid (together_any (l.drop k) c hhd w)
      rw [← ext_tail] at HT
      have hst : BStep k D (l.drop k) := by rw [hd]; exact bstep k D c _
      have hkz : (k : Int) < l.length := by omega
      have hdl : (l.drop k).length = l.length - k := List.length_drop
      have HM := Lib.hid (fun n => ext_mid l k n)
      have hn2 := hn.out
      obtain ⟨m, hm⟩ : ∃ m, l.drop k = m := ⟨_, rfl⟩
      rw [hm] at HT hst hdl HM hn2
      clear hn hc hd hhd
      have HDr : Hid (∀ n, m.drop n = l.drop (k + n)) := fun n => by rw [← hm, List.drop_drop]
      clear hm
      cases hst with
      | plain n h h1 h2 e1 e2 eq =>
        rw [h] at HT
        have hknz : (k : Int) + n ≤ l.length := by omega
        have HS : Hid (R = brR (k + n) D (l.drop (k + n))) := by show _ = _; rw [hn2, eq, HDr.out]
        have HM1 := Lib.hid (HM.out n)
        obtain ⟨p, hp⟩ : ∃ p, m.take n = p := ⟨_, rfl⟩
        rw [hp] at e1 e2 HM1
        clear hn2 eq h hp
        go_wp2_with fail
        refine HT.out.mono ?_
        rintro e w1 ⟨rfl, rfl⟩
        go_upto_region 6 with fail
        rw [HM1.out]
        go_wp2_with fail
        go_round
        case rel => exact ⟨k + n, D, by omega, by omega, by go_num, rfl, HS⟩
        case measure => simp [intOf]; omega
      | open_ h h2 e1 eq =>
        rw [h] at HT
        have hknz : (k : Int) + 2 ≤ l.length := by omega
        have HS : Hid (R = brR (k + 2) (D + 1) (l.drop (k + 2))) := by show _ = _; rw [hn2, eq, HDr.out]
        have hU : IntKind.u64.wrap ((D : Int) + 1) = (D : Int) + 1 := u64_nonneg (by omega) (by omega)
        have HM1 := Lib.hid (HM.out 2)
        obtain ⟨p, hp⟩ : ∃ p, m.take 2 = p := ⟨_, rfl⟩
        rw [hp] at e1 HM1
        clear hn2 eq h hp
        go_wp2_with fail
        refine HT.out.mono ?_
        rintro e w1 ⟨rfl, rfl⟩
        go_upto_region 6 with fail
        rw [HM1.out]
        go_wp2_with fail
        go_round
        case rel => exact ⟨k + 2, D + 1, by omega, by omega, by go_num, by go_num, HS⟩
        case measure => simp [intOf]; omega
      | close h h2 e1 e2 last eq =>
        rw [h] at HT
        have hknz : (k : Int) + 2 ≤ l.length := by omega
        have HM1 := Lib.hid (HM.out 2)
        obtain ⟨p, hp⟩ : ∃ p, m.take 2 = p := ⟨_, rfl⟩
        rw [hp] at e1 e2 HM1
        by_cases hD1 : D = 1
        · have HE : Hid (R = (0, ((k + 2 : Nat) : Int))) := by show _ = _; rw [hn2, last hD1]
          subst hD1
          clear hn2 eq h hp last
          go_wp2_with fail
          refine HT.out.mono ?_
          rintro e w1 ⟨rfl, rfl⟩
          go_upto_region 6 with fail
          rw [HM1.out]
          go_wp2_with fail
          go_ret2
          refine ⟨?_, rfl⟩
          rw [HE.out]
          rfl
        · have HS : Hid (R = brR (k + 2) (D - 1) (l.drop (k + 2))) := by show _ = _; rw [hn2, eq hD1, HDr.out]
          have e3 : ((D : Int) == 1) = false := by rw [beq_eq_false_iff_ne]; omega
          have e4 : max (1 : Int) D - 1 = ((D - 1 : Nat) : Int) := by omega
          have e5 : IntKind.u64.wrap ((D - 1 : Nat) : Int) = ((D - 1 : Nat) : Int) := u64_nonneg (by omega) (by omega)
          have e6 : IntKind.u64.wrap (max (1 : Int) D - 1) = ((D - 1 : Nat) : Int) := by rw [e4]; exact e5
          clear hn2 eq h hp last e4 e5
          go_wp2_with fail
          refine HT.out.mono ?_
          rintro e w1 ⟨rfl, rfl⟩
          go_upto_region 6 with fail
          rw [HM1.out]
          go_wp2_with fail
          go_round
          case rel => exact ⟨k + 2, D - 1, by omega, by omega, by go_num, by first | rfl | (rw [e6]), HS⟩
          case measure => simp [intOf]; omega
    · obtain rfl : k = l.length := by omega
      have HE : Hid (R = (D, -1)) := by show _ = _; rw [hn.out, brR_end (by rw [List.length_drop]; omega)]
      have hI : IntKind.i64.wrap (D : Int) = D := IntWalk.i64_in _ (by omega)
      clear hn
      go_wp2_with fail
      go_ret2
      exact ⟨by rw [HE.out]; rfl, rfl⟩
end Go.Proofs.YtejffadjakajcaaDoor
