/- The document's bytes that quote, and the next byte of a kind. -/
import Derived.Test.YtjbaljibaejdgaaDoorRqRLine
import Derived.Test.YtjbaljibaejdgaaDoorRqCond
namespace Go.Proofs.YtjbaljibaejdgaaDoor
open Go.RowKit Go.PlainAid Go.Shelf

/-- Where the next c stands, from a place on. -/
def toZ (l : List UInt8) (k : Nat) (c : UInt8) : Int := if Lib.indexByte (l.drop k) c < 0 then -1 else k + Lib.indexByte (l.drop k) c
theorem toZ_here {l : List UInt8} {k : Nat} {x : UInt8} (hc : l[k]? = some x) : toZ l k x = k := by
  obtain ⟨h1, h2⟩ := List.getElem?_eq_some_iff.1 hc
  have hd : l.drop k = x :: l.drop (k + 1) := by rw [List.drop_eq_getElem_cons h1, h2]
  unfold toZ
  rw [hd]
  simp [Lib.indexByte]
theorem toZ_next {l : List UInt8} {k : Nat} {x c : UInt8} (hc : l[k]? = some x) (h : x ≠ c) : toZ l k c = toZ l (k + 1) c := by
  obtain ⟨h1, h2⟩ := List.getElem?_eq_some_iff.1 hc
  have hd : l.drop k = x :: l.drop (k + 1) := by rw [List.drop_eq_getElem_cons h1, h2]
  have hg := Lib.indexByte_ge (l.drop (k + 1)) c
  have hb : (x == c) = false := by simpa using h
  unfold toZ
  rw [hd]
  obtain ⟨z, hz⟩ : ∃ z, Lib.indexByte (l.drop (k + 1)) c = z := ⟨_, rfl⟩
  simp only [Lib.indexByte, hb, hz]
  rw [hz] at hg
  by_cases e : z = -1
  · subst e; simp
  · have e2 : (z == -1) = false := by simpa using e
    rw [e2]
    simp only [Bool.false_eq_true, if_false]
    rw [if_neg (by omega), if_neg (by omega)]
    omega
theorem toZ_end (l : List UInt8) (c : UInt8) : toZ l l.length c = -1 := by
  unfold toZ
  rw [List.drop_length]
  rfl
set_option maxRecDepth 100000 in
set_option maxHeartbeats 2000000 in
theorem to_any (l : List UInt8) (k : Nat) (c : UInt8) (hk : k ≤ l.length) (hl : l.length ≤ 1000000) (w : World) : Calls Tryd.prog 26 #[.string (mk8 l), .int .i64 k, .int .u8 c.toNat] w (Says (.int .i64 (toZ l k c)) w) := by
  obtain ⟨Z, hZ⟩ : ∃ Z, toZ l k c = Z := ⟨_, rfl⟩
  rw [hZ]
  have HZ : Hid (Z = toZ l k c) := hZ.symm
  have hgb := get_bt (mk8 l)
  have z1 : ((mk8 l).size : Int) = l.length := by rw [mk8_size]
  have z2 : (mk8 l).size = l.length := mk8_size l
  have HC : Hid (∀ x : UInt8, ((x.toNat : Int) = (c.toNat : Int)) → x = c) := fun x h => UInt8.toNat_inj.1 (by omega)
  obtain ⟨z, hz⟩ : ∃ z : Int, (c.toNat : Int) = z := ⟨_, rfl⟩
  have HD : Hid ((c.toNat : Int) = z) := hz
  rw [hz] at HC ⊢
  clear hZ hz
  go_enter Tryd.func26, Tryd.ntmps26
  go_wp2_with fail
  go_loop [1] (fun i => ∃ j : Nat, j ≤ l.length ∧ i = .int .i64 j ∧ Hid (Z = toZ l j c)) (fun i => l.length - (intOf i).toNat)
  case atStart => exact ⟨k, hk, rfl, HZ⟩
  case round =>
    obtain ⟨j, hj, rfl, hn⟩ := hrel
    by_cases hlt : j < l.length
    · obtain ⟨x, hc, _⟩ := drop_cons hlt
      have hbt := bt_mk hc
      have hjz : (j : Int) < l.length := by omega
      have hjs : j < (mk8 l).size := by omega
      by_cases hxc : x = c
      · have e1 : (bt (mk8 l) j == z) = true := by rw [hbt, hxc, HD.out]; simp
        have HE : Hid (Z = j) := by show _ = _; rw [hn.out]; subst hxc; exact toZ_here hc
        clear hn hbt hc hxc
        go_wp2_with fail
        go_ret
        exact ⟨by rw [HE.out]; rfl, rfl⟩
      · have e1 : (bt (mk8 l) j == z) = false := by
          rw [hbt, beq_eq_false_iff_ne]
          intro h
          exact hxc (HC.out _ h)
        have HS : Hid (Z = toZ l (j + 1) c) := by show _ = _; rw [hn.out]; exact toZ_next hc hxc
        clear hn hbt hc hxc
        go_wp2_with fail
        go_round
        case rel => exact ⟨j + 1, by omega, by go_num, HS⟩
        case measure => simp [intOf]; omega
    · obtain rfl : j = l.length := by omega
      have HE : Hid (Z = -1) := by show _ = _; rw [hn.out]; exact toZ_end l c
      clear hn
      go_wp2_with fail
      go_ret
      exact ⟨by rw [HE.out]; rfl, rfl⟩

theorem seven (c : UInt8) : [40, 43, 45, 46, 124, 33, 92].contains c = ((((c.toNat : Nat) : Int) == 92) || [40, 43, 45, 46, 124, 33].contains c) := by
  rw [show (((c.toNat : Nat) : Int) == 92) = (c == 92) from (u8_beq c 92).symm, Bool.eq_iff_iff]
  simp only [List.contains_cons, List.contains_nil, Bool.or_eq_true, Bool.or_false, beq_iff_eq]
  grind
/-- The byte at place k of those six. -/
def oth (k : Nat) : UInt8 := ([40, 43, 45, 46, 124, 33] : List UInt8).getD k 0
theorem oth_all {c : UInt8} (h : ∀ j, j < 6 → oth j ≠ c) : [40, 43, 45, 46, 124, 33].contains c = false := by
  have h0 := h 0 (by omega); have h1 := h 1 (by omega); have h2 := h 2 (by omega); have h3 := h 3 (by omega); have h4 := h 4 (by omega); have h5 := h 5 (by omega)
  simp [oth] at h0 h1 h2 h3 h4 h5
  simp only [List.contains_cons, List.contains_nil, Bool.or_false, Bool.or_eq_false_iff, beq_eq_false_iff_ne]
  exact ⟨fun e => h0 e.symm, fun e => h1 e.symm, fun e => h2 e.symm, fun e => h3 e.symm, fun e => h4 e.symm, fun e => h5 e.symm⟩
theorem oth_in {c : UInt8} {k : Nat} (hk : k < 6) (h : oth k = c) : [40, 43, 45, 46, 124, 33].contains c = true := by
  subst h
  obtain rfl | rfl | rfl | rfl | rfl | rfl : k = 0 ∨ k = 1 ∨ k = 2 ∨ k = 3 ∨ k = 4 ∨ k = 5 := by omega
  all_goals decide
theorem oth_bt {j : Nat} (h : j < 6) : bt ⟨#[40, 43, 45, 46, 124, 33]⟩ j = (((oth j).toNat : Nat) : Int) := by
  obtain rfl | rfl | rfl | rfl | rfl | rfl : j = 0 ∨ j = 1 ∨ j = 2 ∨ j = 3 ∨ j = 4 ∨ j = 5 := by omega
  all_goals rfl
set_option maxRecDepth 100000 in
set_option maxHeartbeats 4000000 in
theorem rquotes_any (c : UInt8) (w : World) : Calls Tryd.prog 25 #[.int .u8 c.toNat] w (Says (.bool (quoB c)) w) := by
  have H1 := Lib.hid (rletter_any c.toNat w)
  have H2 := Lib.hid (rdigit_any c.toNat w)
  have H3 := Lib.hid (rblank_any c.toNat w)
  rw [blkI_u8] at H3
  unfold quoB
  rw [seven]
  obtain ⟨x, hx⟩ : ∃ x, letB c.toNat = x := ⟨_, rfl⟩
  obtain ⟨y, hy⟩ : ∃ y, digB c.toNat = y := ⟨_, rfl⟩
  obtain ⟨z, hz⟩ : ∃ z, blk c = z := ⟨_, rfl⟩
  obtain ⟨u, hu⟩ : ∃ u, (((c.toNat : Nat) : Int) == 92) = u := ⟨_, rfl⟩
  obtain ⟨V, hV⟩ : ∃ V, [40, 43, 45, 46, 124, 33].contains c = V := ⟨_, rfl⟩
  rw [hx] at H1 ⊢; rw [hy] at H2 ⊢; rw [hz] at H3 ⊢; rw [hu]; rw [hV]
  have HA : Hid ((∀ j, j < 6 → oth j ≠ c) → V = false) := fun h => by rw [← hV]; exact oth_all h
  have HI : Hid (∀ j, j < 6 → oth j = c → V = true) := fun j hj h => by rw [← hV]; exact oth_in hj h
  have HC : Hid (∀ j, oth j = c ↔ (((oth j).toNat : Nat) : Int) = ((c.toNat : Nat) : Int)) := fun j => ⟨fun h => by rw [h], fun h => UInt8.toNat_inj.1 (by omega)⟩
  obtain ⟨k, hk⟩ : ∃ k : Int, (c.toNat : Int) = k := ⟨_, rfl⟩
  rw [hk] at H1 H2 H3 HC hu
  rw [hk]
  have hgb := get_bt ⟨#[40, 43, 45, 46, 124, 33]⟩
  clear hx hy hz hV hk
  cases x with
  | true =>
    go_enter Tryd.func25, Tryd.ntmps25
    go_wp2_with fail
    refine H1.out.mono ?_
    rintro e w1 ⟨rfl, rfl⟩
    go_wp2_with fail
    go_ret
    exact ⟨rfl, rfl⟩
  | false =>
    cases y with
    | true =>
      go_enter Tryd.func25, Tryd.ntmps25
      go_wp2_with fail
      refine H1.out.mono ?_
      rintro e w1 ⟨rfl, rfl⟩
      go_wp2_with fail
      refine H2.out.mono ?_
      rintro e w1 ⟨rfl, rfl⟩
      go_wp2_with fail
      go_ret
      exact ⟨rfl, rfl⟩
    | false =>
      cases z with
      | true =>
        go_enter Tryd.func25, Tryd.ntmps25
        go_wp2_with fail
        refine H1.out.mono ?_
        rintro e w1 ⟨rfl, rfl⟩
        go_wp2_with fail
        refine H2.out.mono ?_
        rintro e w1 ⟨rfl, rfl⟩
        go_wp2_with fail
        refine H3.out.mono ?_
        rintro e w1 ⟨rfl, rfl⟩
        go_wp2_with fail
        go_ret
        exact ⟨rfl, rfl⟩
      | false =>
        cases u with
        | true =>
          go_enter Tryd.func25, Tryd.ntmps25
          go_wp2_with fail
          refine H1.out.mono ?_
          rintro e w1 ⟨rfl, rfl⟩
          go_wp2_with fail
          refine H2.out.mono ?_
          rintro e w1 ⟨rfl, rfl⟩
          go_wp2_with fail
          refine H3.out.mono ?_
          rintro e w1 ⟨rfl, rfl⟩
          go_wp2_with fail
          go_ret
          exact ⟨rfl, rfl⟩
        | false =>
          go_enter Tryd.func25, Tryd.ntmps25
          go_wp2_with fail
          refine H1.out.mono ?_
          rintro e w1 ⟨rfl, rfl⟩
          go_wp2_with fail
          refine H2.out.mono ?_
          rintro e w1 ⟨rfl, rfl⟩
          go_wp2_with fail
          refine H3.out.mono ?_
          rintro e w1 ⟨rfl, rfl⟩
          go_wp2_with fail
          go_loop [4] (fun i => ∃ j : Nat, j ≤ 6 ∧ i = .int .i64 j ∧ Hid (∀ t, t < j → oth t ≠ c)) (fun i => 6 - (intOf i).toNat)
          case atStart => exact ⟨0, by omega, rfl, fun t ht => absurd ht (Nat.not_lt_zero _)⟩
          case round =>
            obtain ⟨j, hj, rfl, hn⟩ := hrel
            by_cases hlt : j < 6
            · obtain ⟨o, ho⟩ : ∃ o, (((oth j).toNat : Nat) : Int) = o := ⟨_, rfl⟩
              have hoj := HC.out j
              rw [ho] at hoj
              have hbt := (oth_bt hlt).trans ho
              have hjz : (j : Int) < 6 := by omega
              by_cases e : o = k
              · have HV := Lib.hid (HI.out j hlt (hoj.2 e))
                have hd : (bt ⟨#[40, 43, 45, 46, 124, 33]⟩ j == k) = true := by rw [hbt]; simp [e]
                clear hn hoj e ho hbt
                go_wp2_with fail
                go_ret
                exact ⟨by rw [HV.out]; rfl, rfl⟩
              · have HS : Hid (∀ t, t < j + 1 → oth t ≠ c) := fun t ht => by
                  by_cases et : t = j
                  · subst et; exact fun h => e (hoj.1 h)
                  · exact hn.out t (by omega)
                have hd : (bt ⟨#[40, 43, 45, 46, 124, 33]⟩ j == k) = false := by rw [hbt]; simpa using e
                clear hn hoj e ho hbt
                go_wp2_with fail
                go_round
                case rel => exact ⟨j + 1, by omega, by go_num, HS⟩
                case measure => simp [intOf]; omega
            · obtain rfl : j = 6 := by omega
              have HV := Lib.hid (HA.out hn.out)
              clear hn
              go_wp2_with fail
              go_ret
              exact ⟨by rw [HV.out]; rfl, rfl⟩
end Go.Proofs.YtjbaljibaejdgaaDoor
