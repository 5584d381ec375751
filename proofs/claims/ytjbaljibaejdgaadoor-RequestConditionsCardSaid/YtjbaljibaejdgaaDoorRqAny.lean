/- strings.IndexAny and strings.ContainsAny at whatever text, where the bytes that are looked for are two or three below 128. -/
import Derived.Test.YtjbaljibaejdgaaDoorRqPure
import Derived.Test.YtjbaljibaejdgaaDoorRqLay
import Derived.Test.YtjbaljibaejdgaaDoorRqLay3
import Derived.Test.YtjbaljibaejdgaaDoorProg
import Derived.WalkKit
import Derived.WalkSpells
import Derived.WalkLawsBesides
import Derived.Handy
import Derived.Below
import Derived.Lib.Hide
import Derived.Lib.Strings
import Derived.Laws.Runes
import Derived.WalkMore
import Derived.Lib.OthersKept
import Derived.WalkSmall
import Derived.IntWalk
import Derived.Shelf.Small.Utf8
import Derived.Laws.RangeAny
import Derived.Deep.QuietTactic
import Derived.BigQuiet
namespace Go.Proofs.YtjbaljibaejdgaaDoor
open Go.RowKit Go.PlainAid Go.Shelf

abbrev Says (v : Value) (w : World) (e : Ending) (w' : World) : Prop := e = .returned v ∧ w = w'
abbrev Makes (v : Value) (w : World) (e : Ending) (w' : World) : Prop := e = .returned v ∧ Below w.heap.size w w'
theorem bt_u8 {s : ByteArray} {j : Nat} (h : j < s.size) : ∃ b : UInt8, s.data.toList[j]? = some b ∧ bt s j = b.toNat := by
  refine ⟨s[j]'h, Lib.data_getElem? s j h, ?_⟩
  unfold bt
  rw [dif_pos h]
theorem far_none {C : ByteArray} {k : Nat} {c : Int} (hC : ∀ j, bt C j < 128) (hc : 128 ≤ c) (hc2 : c ≤ 255) : Lib.indexByte (C.extract k C.size).data.toList c.toNat.toUInt8 = -1 := by
  have hg := Lib.indexByte_ge (C.extract k C.size).data.toList c.toNat.toUInt8
  rcases Int.lt_or_le (Lib.indexByte (C.extract k C.size).data.toList c.toNat.toUInt8) 0 with h | h
  · omega
  · exfalso
    obtain ⟨o, ho⟩ : ∃ o : Nat, Lib.indexByte (C.extract k C.size).data.toList c.toNat.toUInt8 = o := ⟨_, (Int.toNat_of_nonneg h).symm⟩
    have h1 := (Lib.indexByte_some ho).1
    have h2 : c.toNat.toUInt8 ∈ C.data.toList := by
      have h3 := List.mem_of_getElem? h1
      rw [ByteArray.data_extract, Array.toList_extract, List.extract_eq_take_drop] at h3
      exact List.mem_of_mem_drop (List.mem_of_mem_take h3)
    obtain ⟨j, hj⟩ := List.getElem?_of_mem h2
    have hjl : j < C.size := by rw [Lib.size_eq]; exact (List.getElem?_eq_some_iff.1 hj).1
    obtain ⟨b, hb, hb2⟩ := bt_u8 hjl
    have e : b = c.toNat.toUInt8 := Option.some.inj (hb.symm.trans hj)
    have h4 := hC j
    rw [hb2, e] at h4
    have h5 : (c.toNat.toUInt8).toNat = c.toNat := by
      rw [UInt8.toNat_ofNat', Nat.mod_eq_of_lt (by omega)]
    omega

set_option maxRecDepth 100000 in
set_option maxHeartbeats 4000000 in
theorem rune_error (C : ByteArray) (_h3 : C.size ≤ 3) (hC : ∀ (j : Nat) (h : j < C.size), (C[j]'h).toNat < 128) (w : World) : Calls Tryd.prog 47 #[.string C, .int .i32 65533] w (Makes (.int .i64 (-1)) w) := by
  have HC := Lib.hid hC
  clear hC
  go_enter Tryd.func47, Tryd.ntmps47
  go_wp2_with fail
  go_loopg [5, 6] C.size (fun g _ _ wx => ∃ i : Nat, i + g = C.size ∧ wx = w.iter C i)
  case atStart => exact ⟨0, by omega, rfl⟩
  case round =>
    obtain ⟨i, hig, rfl⟩ := hrel
    cases gk with
    | zero =>
      obtain rfl : i = C.size := by omega
      have hnx := fun ty => run_next_end (P := Tryd.prog) w C C.size ty (by omega)
      go_wp2_with fail
      go_ret
      exact ⟨rfl, (Below.refl _ _).alloc (Nat.le_refl _) _⟩
    | succ g =>
      have hi : i < C.size := by omega
      have hx := HC.out i hi
      have hnx := fun ty => run_next_ascii (P := Tryd.prog) w C i ty hi hx
      have hne : ((((C[i]'hi).toNat : Nat) : Int) == 65533) = false := by simp; omega
      go_wp2_with fail
      go_roundg g
      case measure => omega
      case rel => exact ⟨i + 1, by omega, rfl⟩
set_option maxRecDepth 100000 in
set_option maxHeartbeats 4000000 in
theorem rune_bad (C : ByteArray) (r : Int) (h0 : 128 ≤ r) (hr : Lib.validRune r = false) (hn : (r == 65533) = false) (w : World) : Calls Tryd.prog 47 #[.string C, .int .i32 r] w (Makes (.int .i64 (-1)) w) := by
  have HV := Lib.hid (Any.utf8_ValidRune { Tryd.indexAnyL with } r w)
  rw [hr] at HV
  have hz : ¬ r < 128 := by omega
  have hz2 : 0 ≤ r := by omega
  clear hr h0
  go_enter Tryd.func47, Tryd.ntmps47
  go_wp2_with fail
  refine HV.out.mono ?_
  rintro e w1 ⟨rfl, hw⟩
  subst w1
  go_wp2_with fail
  go_ret
  exact ⟨rfl, Below.refl _ _⟩

set_option maxRecDepth 100000 in
set_option maxHeartbeats 4000000 in
theorem rune_good (C : ByteArray) (_h3 : C.size ≤ 3) (hC : ∀ j, bt C j < 128) (r : Int) (h0 : 128 ≤ r) (hr : Lib.validRune r = true) (hv : Utf8.valid r = true) (hn : (r == 65533) = false) (w : World) : Calls Tryd.prog 47 #[.string C, .int .i32 r] w (Makes (.int .i64 (-1)) w) := by
  have HV := Lib.hid (Any.utf8_ValidRune { Tryd.indexAnyL with } r w)
  rw [hr] at HV
  have hz : ¬ r < 128 := by omega
  have hz2 : 0 ≤ r := by omega
  obtain ⟨e1, e2, e3⟩ := encode_facts r hv h0
  obtain ⟨E, hE⟩ : ∃ E, Utf8.encode r = E := ⟨_, rfl⟩
  rw [hE] at e1 e2 e3
  obtain ⟨l, hl⟩ : ∃ l : Nat, E.size = l + 1 := ⟨E.size - 1, by omega⟩
  have hl1 : 1 ≤ l := by omega
  have hl3 : l ≤ 3 := by omega
  have hbe : 128 ≤ bt E l := by
    unfold bt
    rw [dif_pos (by omega)]
    have := e3 (by omega)
    simp only [hl, Nat.add_sub_cancel] at this
    omega
  have hbe2 := bt_le E l
  have hgb := get_bt C
  have hge := get_bt E
  have hlz : ((l + 1 : Nat) : Int) - 1 = l := by omega
  have hcs := far_none (C := C) (k := l + 1) hC hbe hbe2
  have HI := Lib.hid (fun w' => Any.strings_IndexByte Tryd.indexL (C.extract (l + 1) C.size) (bt E l) w')
  simp only [hcs] at HI
  have hlE : l < E.size := by omega
  have hne : (bt C l != bt E l) = true := by have := hC l; simp; omega
  have hcv : ∀ w', (convert 21 9 (.int .i32 r)).run Tryd.prog w' = .ok (.string E) w' := fun w' => by
    rw [run_convert_int_string (P := Tryd.prog) w' 21 9 .i32 r (by rw [Tryd.underlying21]; rfl) Tryd.underlying9, hE]
  clear hr h0 e1 e2 e3 hv hcs hbe hbe2 hC hE
  go_enter Tryd.func47, Tryd.ntmps47
  go_wp2_with fail
  refine HV.out.mono ?_
  rintro e w1 ⟨rfl, hw⟩
  subst w1
  go_wp2_with fail
  go_step3
  go_wp2_with fail
  go_loop [9] (fun i => i = .int .i64 l) (fun _ => 0)
  case atStart => rfl
  case round =>
    obtain rfl := hrel
    by_cases hlc : l < C.size
    · have hlc2 : l + 1 ≤ C.size := by omega
      have z1 : (l : Int) < (C.size : Int) := by omega
      have z3 : (0 : Int) ≤ l := by omega
      have z4 : IntKind.i64.wrap ((l : Int) + 1) = l + 1 := IntWalk.i64_in _ (by omega)
      have z5 : (0 : Int) ≤ (l : Int) + 1 := by omega
      have z6 : ((l : Int) + 1).toNat = l + 1 := by omega
      have z7 : (l : Int) + 1 ≤ (C.size : Int) := by omega
      have z8 : (l : Int) < (E.size : Int) := by omega
      clear hl hlz
      go_wp2_with fail
      go_step3
      go_wp2_with fail
      go_quiet (fail)
      obtain ⟨w2, hw2⟩ : ∃ w2, w2 = w.drewN nq := ⟨_, rfl⟩
      have hbw : Below w.heap.size w w2 := by rw [hw2]; exact below_drewN (Below.refl _ _) _
      rw [← hw2]
      clear hw2
      go_wp2_with fail
      go_quiet ((go_at_call 44; exact Calls.quiet_of_same (HI.out _)))
      go_wp2_with fail
      go_ret
      exact ⟨rfl, below_drewN hbw _⟩
    · go_wp2_with fail
      go_ret
      exact ⟨rfl, Below.refl _ _⟩
theorem bt_lt {C : ByteArray} (hC : ∀ (j : Nat) (h : j < C.size), (C[j]'h).toNat < 128) (j : Nat) : bt C j < 128 := by
  unfold bt
  split
  · rename_i h; have := hC j h; omega
  · omega
theorem rune_far (C : ByteArray) (h3 : C.size ≤ 3) (hC : ∀ (j : Nat) (h : j < C.size), (C[j]'h).toNat < 128) (r : Int) (h0 : 128 ≤ r) (w : World) : Calls Tryd.prog 47 #[.string C, .int .i32 r] w (Makes (.int .i64 (-1)) w) := by
  by_cases he : r = 65533
  · subst he; exact rune_error C h3 hC w
  · have hn : (r == 65533) = false := by simpa using he
    cases hr : Lib.validRune r with
    | false => exact rune_bad C r h0 hr hn w
    | true =>
      refine rune_good C h3 (bt_lt hC) r h0 hr ?_ hn w
      have h := of_decide_eq_true hr
      unfold Utf8.valid
      rcases h with ⟨h1, h2⟩ | ⟨h1, h2⟩
      · simp [h1, h2]
      · simp; omega
theorem decode_far {s : ByteArray} {pos : Nat} (_h : pos < s.size) (ha : ¬ (s.get! pos).toNat < 128) : 1 ≤ (Utf8.decode s pos).2 ∧ pos + (Utf8.decode s pos).2 ≤ s.size ∧ ∀ k, k < (Utf8.decode s pos).2 → 128 ≤ (s.get! (pos + k)).toNat := by
  have one : ∀ k, k < 1 → 128 ≤ (s.get! (pos + k)).toNat := fun k hk => by
    obtain rfl : k = 0 := by omega
    simpa using ha
  unfold Utf8.decode
  simp only [Nat.add_zero]
  rw [if_neg ha]
  split
  · rename_i hc
    simp only [Bool.and_eq_true, beq_iff_eq, decide_eq_true_eq] at hc
    split
    · refine ⟨by simp, by simp; omega, fun k hk => ?_⟩
      rcases (show k = 0 ∨ k = 1 by simp at hk; omega) with rfl | rfl
      · simpa using ha
      · omega
    · exact ⟨Nat.le_refl _, by simp; omega, one⟩
  · split
    · rename_i hc
      simp only [Bool.and_eq_true, beq_iff_eq, decide_eq_true_eq] at hc
      split
      · refine ⟨by simp, by simp; omega, fun k hk => ?_⟩
        rcases (show k = 0 ∨ k = 1 ∨ k = 2 by simp at hk; omega) with rfl | rfl | rfl
        · simpa using ha
        · omega
        · omega
      · exact ⟨Nat.le_refl _, by simp; omega, one⟩
    · split
      · rename_i hc
        simp only [Bool.and_eq_true, beq_iff_eq, decide_eq_true_eq] at hc
        split
        · refine ⟨by simp, by simp; omega, fun k hk => ?_⟩
          rcases (show k = 0 ∨ k = 1 ∨ k = 2 ∨ k = 3 by simp at hk; omega) with rfl | rfl | rfl | rfl
          · simpa using ha
          · omega
          · omega
          · omega
        · exact ⟨Nat.le_refl _, by simp; omega, one⟩
      · exact ⟨Nat.le_refl _, by simp; omega, one⟩
theorem get_bang {s : ByteArray} {j : Nat} (h : j < s.size) : s.get! j = s[j]'h := by
  show s.data[j]! = s[j]
  rw [getElem!_pos s.data j h]
  rfl
theorem noAny_far {s C : ByteArray} {i n : Nat} (hC : ∀ (j : Nat) (h : j < C.size), (C[j]'h).toNat < 128) (h : Lib.NoAny s.data.toList C.data.toList i) (hf : ∀ k, k < n → 128 ≤ (s.get! (i + k)).toNat) (hn : i + n ≤ s.size) : Lib.NoAny s.data.toList C.data.toList (i + n) := fun j b hj hb => by
  rcases Nat.lt_or_ge j i with h1 | h1
  · exact h j b h1 hb
  · have h2 := hf (j - i) (by omega)
    rw [show i + (j - i) = j from by omega, get_bang (by omega)] at h2
    have h3 : s.data.toList[j]? = some (s[j]'(by omega)) := Lib.data_getElem? s j (by omega)
    have h4 : b = s[j]'(by omega) := Option.some.inj (hb.symm.trans h3)
    cases hc : C.data.toList.contains b with
    | false => rfl
    | true =>
      exfalso
      have h5 : b ∈ C.data.toList := by simpa using hc
      obtain ⟨q, hq⟩ := List.getElem?_of_mem h5
      have hql : q < C.size := by rw [Lib.size_eq]; exact (List.getElem?_eq_some_iff.1 hq).1
      have h6 : b = C[q]'hql := Option.some.inj (hq.symm.trans (Lib.data_getElem? C q hql))
      have h7 := hC q hql
      rw [← h6, h4] at h7
      omega

set_option maxHeartbeats 8000000 in
set_option maxRecDepth 1000000 in
theorem index_short (s C : ByteArray) (w : World) (h2 : 2 ≤ C.size) (h3 : C.size ≤ 3) (hC : ∀ (j : Nat) (h : j < C.size), (C[j]'h).toNat < 128) (h8 : s.size ≤ 8) :
    Calls Tryd.prog 35 #[.string s, .string C] w (Makes (.int .i64 (Lib.indexAny s.data.toList C.data.toList)) w) := by
  have HC := Lib.hid hC
  clear hC
  have hemp : C.toList.isEmpty = false := by
    rw [Lib.toList_data]
    cases h : C.data.toList with
    | nil => have := Lib.size_eq C; rw [h, List.length_nil] at this; omega
    | cons _ _ => rfl
  have hn1 : ((C.size : Int) == 1) = false := beq_eq_false_iff_ne.2 (by omega)
  have h8z : decide ((8 : Int) < (s.size : Int)) = false := decide_eq_false (by omega)
  have HS := Lib.hid (Any.strings_shouldUseASCIISet { Tryd.indexAnyL with } (s.size : Int) w)
  rw [h8z] at HS
  have HF := Lib.hid (rune_far C h3 HC.out)
  have HA := Lib.hid (fun (r : Int) (h0 : 0 ≤ r) (h1 : r < 128) (w' : World) => Any.strings_IndexRune_ascii { Tryd.indexAnyL with } C r w' h0 h1)
  clear h3 h8
  go_enter Tryd.func35, Tryd.ntmps35
  go_wp2_with fail
  refine HS.out.mono ?_
  rintro e w1 ⟨rfl, hw⟩
  subst w1
  go_wp2_with fail
  go_loopg [9, 10] s.size (fun g _ _ wx => ∃ i : Nat, i + g = s.size ∧ wx.heap[w.heap.size]? = some (.stringIter s i) ∧ Hid (Below w.heap.size w wx) ∧ Hid (Lib.NoAny s.data.toList C.data.toList i))
  case atStart => exact ⟨0, by omega, by simp [World.iter_heap], (Below.refl _ _).alloc (Nat.le_refl _) _, Lib.NoAny.zero _ _⟩
  case round =>
    obtain ⟨i, hig, hit, hbw, HN⟩ := hrel
    cases gk with
    | zero =>
      obtain rfl : i = s.size := by omega
      have hnx := fun ty => Lib.run_next_end_at (P := Tryd.prog) wr w.heap.size s s.size ty hit (by omega)
      have HR : Hid (Lib.indexAny s.data.toList C.data.toList = -1) := Lib.indexAny_none (by rw [← Lib.size_eq]; exact HN.out)
      clear hit
      go_wp2_with fail
      go_ret
      exact ⟨by rw [HR.out]; rfl, hbw.out⟩
    | succ g =>
      have hi : i < s.size := by omega
      have hnx := fun ty => Lib.run_next_any_at (P := Tryd.prog) wr w.heap.size s i ty hit hi
      obtain ⟨x, hx⟩ : ∃ x : UInt8, s[i]'hi = x := ⟨_, rfl⟩
      have hgx : s.get! i = x := by rw [get_bang hi, hx]
      by_cases hlow : x.toNat < 128
      · have hd : Utf8.decode s i = (x.toNat, 1) := by
          have := decode_ascii s i hi (by rw [hx]; exact hlow)
          rw [this, hx]
        simp only [hd] at hnx
        have hit2 := Lib.iterAt_heap wr w.heap.size s i (i + 1) hit
        have hbw2 : Hid (Below w.heap.size w (wr.iterAt w.heap.size s (i + 1))) := Lib.below_iterAt hbw.out (Nat.le_refl _) s (i + 1)
        have Hx : Hid (s.data.toList[i]? = some x) := by rw [← hx]; exact Lib.data_getElem? s i hi
        obtain ⟨w2, hw2⟩ : ∃ w2, w2 = wr.iterAt w.heap.size s (i + 1) := ⟨_, rfl⟩
        rw [← hw2] at hnx hit2 hbw2
        have HA1 := Lib.hid (HA.out (x.toNat : Int) (by omega) (by omega) w2)
        rw [show ((x.toNat : Int)).toNat.toUInt8 = x from by simp] at HA1
        have hcon := Lib.contains_iff_indexByte C.data.toList x
        obtain ⟨z, hz⟩ : ∃ z, Lib.indexByte C.data.toList x = z := ⟨_, rfl⟩
        rw [hz] at HA1 hcon
        clear hz hw2 hx hgx hd hit hbw
        cases hin : C.data.toList.contains x with
        | false =>
          have hlt : ¬ (0 : Int) ≤ z := of_decide_eq_false (hcon.symm.trans hin)
          have HN2 : Hid (Lib.NoAny s.data.toList C.data.toList (i + 1)) := HN.out.succ Hx.out hin
          clear hcon hin HN Hx
          go_wp2_with fail
          refine HA1.out.mono ?_
          rintro e w3 ⟨rfl, hw⟩
          subst w3
          go_wp2_with fail
          go_roundg g
          case measure => omega
          case rel => exact ⟨i + 1, by omega, hit2, hbw2, HN2⟩
        | true =>
          have hlt : (0 : Int) ≤ z := of_decide_eq_true (hcon.symm.trans hin)
          have HR : Hid (Lib.indexAny s.data.toList C.data.toList = i) := Lib.indexAny_hit HN.out Hx.out hin
          clear hcon hin HN Hx
          go_wp2_with fail
          refine HA1.out.mono ?_
          rintro e w3 ⟨rfl, hw⟩
          subst w3
          go_wp2_with fail
          go_ret
          exact ⟨by rw [HR.out]; rfl, hbw2.out⟩
      · have hd := decode_high s i hi (by rw [hx]; omega)
        obtain ⟨d1, d2, d3⟩ := decode_far hi (by rw [hgx]; exact hlow)
        obtain ⟨⟨r, n⟩, hq⟩ : ∃ q, Utf8.decode s i = q := ⟨_, rfl⟩
        rw [hq] at hd d1 d2 d3
        simp only [hq] at hnx
        have d1 : 1 ≤ n := d1
        have d2 : i + n ≤ s.size := d2
        have hit2 := Lib.iterAt_heap wr w.heap.size s i (i + n) hit
        have hbw2 : Hid (Below w.heap.size w (wr.iterAt w.heap.size s (i + n))) := Lib.below_iterAt hbw.out (Nat.le_refl _) s (i + n)
        have HN2 : Hid (Lib.NoAny s.data.toList C.data.toList (i + n)) := noAny_far HC.out HN.out d3 d2
        obtain ⟨w2, hw2⟩ : ∃ w2, w2 = wr.iterAt w.heap.size s (i + n) := ⟨_, rfl⟩
        rw [← hw2] at hnx hit2 hbw2
        have hlt : w.heap.size < w2.heap.size := (Array.getElem?_eq_some_iff.1 hit2).1
        have HF1 := Lib.hid (HF.out (r : Int) (by have := hd.1; show (128 : Int) ≤ (r : Int); omega) w2)
        clear hq hw2 hx hgx hd hit hbw d3 HN
        go_wp2_with fail
        refine HF1.out.mono ?_
        rintro e w3 ⟨rfl, hb3⟩
        have hit3 := (hb3.block w.heap.size hlt).trans hit2
        have hbw3 : Hid (Below w.heap.size w w3) := hbw2.out.trans (hb3.mono hbw2.out.size)
        clear hb3 hit2
        go_wp2_with fail
        go_roundg (s.size - (i + n))
        case measure => omega
        case rel => exact ⟨i + n, by omega, hit3, hbw3, HN2⟩
/-- strings.IndexAny at whatever text. -/
theorem index_any (s C : ByteArray) (w : World) (h2 : 2 ≤ C.size) (h3 : C.size ≤ 3) (hC : ∀ (j : Nat) (h : j < C.size), (C[j]'h).toNat < 128) (hs : s.size < 4294967281) :
    Calls Tryd.prog 35 #[.string s, .string C] w (Makes (.int .i64 (Lib.indexAny s.data.toList C.data.toList)) w) := by
  by_cases h8 : s.size ≤ 8
  · exact index_short s C w h2 h3 hC h8
  · have h116 : (Tryd.prog.info? (Tryd.indexAnyL_ren.t 116)).map (fun i => (i.zero, i.size)) = some (some (.agg (Array.replicate 256 (.bool false))), 256) := by kernel_rfl
    refine (Any.strings_IndexAny_long Tryd.indexAnyL (zero_of_info h116).1 (zero_of_info h116).2 s C w h2 (by omega) hs (by omega) (fun j b hb => ?_)).mono fun e w' ⟨h1, h2⟩ => ⟨h1, ?_⟩
    · have hj : j < C.size := by rw [Lib.size_eq]; exact (List.getElem?_eq_some_iff.1 hb).1
      have := hC j hj
      rw [← (Option.some.inj (hb.symm.trans (Lib.data_getElem? C j hj)))] at this
      exact this
    · rw [h2]
      exact ((Below.refl _ _).alloc (Nat.le_refl _) _).alloc (by simp) _
theorem cut_two : ∀ (j : Nat) (h : j < (⟨#[32, 9]⟩ : ByteArray).size), ((⟨#[32, 9]⟩ : ByteArray)[j]'h).toNat < 128 := by decide
theorem cut_three : ∀ (j : Nat) (h : j < (⟨#[32, 9, 10]⟩ : ByteArray).size), ((⟨#[32, 9, 10]⟩ : ByteArray)[j]'h).toNat < 128 := by decide
end Go.Proofs.YtjbaljibaejdgaaDoor
