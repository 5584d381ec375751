/- StoreFull's walk. -/
import Derived.Test.YtghpcfodjacdpaaStPart
namespace Go.Proofs.Ytghpcfodjacdpaa
open Go.RowKit Go.PlainAid Go.Maps

section
variable {B b mb n : Nat} {D : DataW Unit} {E : Nat → Option Ent} {w : World}

theorem field_text (a b c : Value) (w : World) : (Instr.field 61 (.agg #[a, b, c]) 1).run Try.prog w = .ok b w := by kernel_rfl
theorem areLines_nil (w : World) : Calls Try.prog 35 #[.slice none 0 0] w (Says (.bool true) w) := by
  go_enter Try.func35, Try.ntmps35
  go_wp2_with fail
  go_loop [7] (fun i => i = .int .i64 0) (fun _ => 0)
  case atStart => rfl
  case round =>
    subst hrel
    go_wp2_with fail
    go_ret
    exact ⟨rfl, rfl⟩
set_option maxRecDepth 100000 in
theorem clone_nil (w : World) : Calls Try.prog 50 #[.slice none 0 0] w (Says (.slice none 0 0) w) := by
  have hsn : ∀ w, (binOp .eql 23 (.slice none 0 0) (.slice none 0 0)).run Try.prog w = .ok (.bool true) w := fun _ => by kernel_rfl
  go_enter Try.func50, Try.ntmps50
  go_wp2_with fail
  go_ret
  exact ⟨rfl, rfl⟩
set_option maxRecDepth 100000 in
theorem copied_nil (w : World) : Calls Try.prog 36 #[.slice none 0 0] w (Says (.slice none 0 0) w) := by
  have HC := Lib.hid (clone_nil w)
  go_enter Try.func36, Try.ntmps36
  go_wp2_with fail
  refine (HC.out).mono ?_
  rintro e w1 ⟨rfl, rfl⟩
  go_wp2_with fail
  go_loop [12] (fun i => i = .int .i64 0) (fun _ => 0)
  case atStart => rfl
  case round =>
    subst hrel
    go_wp2_with fail
    go_ret
    exact ⟨rfl, rfl⟩
set_option maxRecDepth 100000 in
theorem macro_full (h : StAt B b mb n D E w) (s : ByteArray) (hn : nameErr s = 0) (hr : roomB D s = false) : Calls Try.prog 15 #[.pointer (some ⟨b, 0, none⟩), .string s, .slice none 0 0] w (Makes (.int .i64 9) w) := by
  have HT := Lib.hid (areLines_nil w)
  have HR := Lib.hid (refusal_fit s h.cell)
  rw [hn] at HR
  have hm := nameErr_max hn
  clear hn
  go_enter Try.func15, Try.ntmps15
  go_wp2_with fail
  refine (HT.out).mono ?_
  rintro e w1 ⟨rfl, rfl⟩
  go_wp2_with fail
  refine (HR.out).mono ?_
  rintro e w1 ⟨rfl, hb⟩
  have HP := Lib.hid (put_full (h.below hb) s hm ⟨2, ⟨#[]⟩, none, 0, 0⟩ hr)
  go_wp2_with fail
  refine (copied_nil _).mono ?_
  rintro e w1 ⟨rfl, rfl⟩
  go_wp2_with fail
  refine (HP.out).mono ?_
  rintro e w2 ⟨rfl, hb2⟩
  go_wp2_with fail
  go_ret
  exact ⟨rfl, step_below hb hb2⟩
theorem room_no {s : ByteArray} (hh : has D (bkey s) = false) (h5 : ¬ Maps.size D < 500) : roomB D s = false := by unfold roomB; rw [hh, decide_eq_false h5]; rfl
theorem room_has {s : ByteArray} (hr : roomB D s = false) : has D (bkey s) = false := by
  cases hh : has D (bkey s) with
  | false => rfl
  | true => unfold roomB at hr; rw [hh] at hr; cases hr
set_option maxRecDepth 100000 in
theorem append_full (h : StAt B b mb n D E w) (s : ByteArray) (hn : nameErr s = 0) (hr : roomB D s = false) : Calls Try.prog 12 #[.pointer (some ⟨b, 0, none⟩), .string s, .string ⟨#[]⟩] w (Makes (.int .i64 9) w) := by
  have hfd := field_text
  have HT := Lib.hid (isText_any ⟨#[]⟩ w)
  rw [show textB ⟨#[]⟩ = true from by decide] at HT
  have HR := Lib.hid (refusal_fit s h.cell)
  rw [hn] at HR
  have hm := nameErr_max hn
  have HRR := Lib.hid hr
  clear hn hr
  go_enter Try.func12, Try.ntmps12
  go_wp2_with fail
  refine (HT.out).mono ?_
  rintro e w1 ⟨rfl, rfl⟩
  go_wp2_with fail
  refine (HR.out).mono ?_
  rintro e w1 ⟨rfl, hb⟩
  have h1 := h.below hb
  have HA := Lib.hid (at_no h1 hm (room_has HRR.out))
  go_wp2_with fail
  refine (HA.out).mono ?_
  rintro e w2 ⟨rfl, hb2⟩
  have HP := Lib.hid (put_full (h1.below hb2) s hm (strE ⟨#[]⟩) HRR.out)
  go_wp2_with fail
  refine (HP.out).mono ?_
  rintro e w3 ⟨rfl, hb3⟩
  go_wp2_with fail
  go_ret
  exact ⟨rfl, step_below (step_below hb hb2) hb3⟩
end

/-- The law's names: n and two letters. -/
def twoL (i : Nat) : ByteArray := ⟨#[UInt8.ofNat (97 + i / 26), UInt8.ofNat (97 + i % 26)]⟩
def nName (i : Nat) : ByteArray := (⟨#[110]⟩ : ByteArray) ++ twoL i
theorem nName_data (i : Nat) : (nName i).data = #[110, UInt8.ofNat (97 + i / 26), UInt8.ofNat (97 + i % 26)] := by
  unfold nName
  rw [ByteArray.data_append]
  rfl
theorem two_back (w : World) {i : Nat} (h : i < 500) (c : Nat) : (convert 56 9 (.slice (some ⟨w.heap.size, 0, none⟩) 2 c)).run Try.prog (w.alloc (.cells #[.int .u8 (97 + (i : Int) / 26), .int .u8 (97 + (i : Int) % 26)] 5)) =
    .ok (.string (twoL i)) (w.alloc (.cells #[.int .u8 (97 + (i : Int) / 26), .int .u8 (97 + (i : Int) % 26)] 5)) := by
  have e1 : ((UInt8.ofNat (97 + i / 26)).toNat : Int) = 97 + (i : Int) / 26 := by rw [UInt8.toNat_ofNat', Nat.mod_eq_of_lt (by omega)]; omega
  have e2 : ((UInt8.ofNat (97 + i % 26)).toNat : Int) = 97 + (i : Int) % 26 := by rw [UInt8.toNat_ofNat', Nat.mod_eq_of_lt (by omega)]; omega
  exact run_convert_bytes_back (P := Try.prog) (w.alloc (.cells #[.int .u8 (97 + (i : Int) / 26), .int .u8 (97 + (i : Int) % 26)] 5)) 56 9 5 ⟨w.heap.size, 0, none⟩ c [UInt8.ofNat (97 + i / 26), UInt8.ofNat (97 + i % 26)] Try.underlying56 Try.underlying5 Try.underlying9 (fun j hj => by
    have hj' : j = 0 ∨ j = 1 := by simp at hj; omega
    rcases hj' with rfl | rfl
    · show World.cell? _ ⟨w.heap.size, 0 + 0, none⟩ = some (.int .u8 ((UInt8.ofNat (97 + i / 26)).toNat : Int))
      rw [e1]
      simp only [World.cell?, heap_alloc_new]
      rfl
    · show World.cell? _ ⟨w.heap.size, 0 + 1, none⟩ = some (.int .u8 ((UInt8.ofNat (97 + i % 26)).toNat : Int))
      rw [e2]
      simp only [World.cell?, heap_alloc_new]
      rfl)
theorem nName_all : ((List.range 500).all fun i => nameB (nName i)) = true := by decide +kernel
theorem nName_ok {i : Nat} (h : i < 500) : nameErr (nName i) = 0 := by
  unfold nameErr
  rw [List.all_eq_true.1 nName_all i (List.mem_range.2 h)]
  rfl
theorem nName_inj {i j : Nat} (hi : i < 500) (hj : j < 500) (h : nName i = nName j) : i = j := by
  have h2 : (nName i).data = (nName j).data := congrArg _ h
  rw [nName_data, nName_data] at h2
  simp only [Array.mk.injEq, List.cons.injEq, and_true, true_and] at h2
  have e1 := ofNat_inj (by omega) (by omega) h2.1
  have e2 := ofNat_inj (by omega) (by omega) h2.2
  omega
/-- k names are there. -/
structure Filled (k : Nat) (D : DataW Unit) : Prop where
  tidy : Tidy D
  size : Maps.size D = k
  mem : ∀ x : Lit, has D x = true ↔ ∃ j, j < k ∧ x = bkey (nName j)
theorem filled_zero : Filled 0 (.map []) := ⟨tidy_empty, rfl, fun k => ⟨fun h => by simp [has] at h, fun ⟨j, hj, _⟩ => absurd hj (Nat.not_lt_zero _)⟩⟩
theorem filled_new {k : Nat} {D : DataW Unit} (h : Filled k D) (hk : k < 500) : has D (bkey (nName k)) = false := by
  cases hh : has D (bkey (nName k)) with
  | false => rfl
  | true =>
    obtain ⟨j, hj, he⟩ := (h.mem _).1 hh
    have := nName_inj hk (by omega) (bkey_inj he)
    omega
theorem filled_next {k : Nat} {D : DataW Unit} (h : Filled k D) (hk : k < 500) (d : DataW Unit) : Filled (k + 1) (D.put (bkey (nName k)) d) := by
  have hn := filled_new h hk
  refine ⟨h.tidy.put (bkey_key _) d, by rw [size_put h.tidy, hn, h.size]; rfl, fun x => ?_⟩
  by_cases e : x = bkey (nName k)
  · subst e
    exact ⟨fun _ => ⟨k, by omega, rfl⟩, fun _ => has_put_same h.tidy.isMap (bkey_key _) d⟩
  · rw [has_put_other e, h.mem x]
    exact ⟨fun ⟨j, hj, he⟩ => ⟨j, by omega, he⟩, fun ⟨j, hj, he⟩ => ⟨j, by
      rcases Nat.lt_or_ge j k with h1 | h1
      · exact h1
      · exact absurd (by rw [he, show j = k from by omega]) e, he⟩⟩
def more : ByteArray := ⟨#[109, 111, 114, 101]⟩
theorem more_ne (i : Nat) : more ≠ nName i := by
  intro h
  have h2 : more.data = (nName i).data := congrArg _ h
  rw [nName_data] at h2
  have h3 : (#[109, 111, 114, 101] : Array UInt8) = #[110, UInt8.ofNat (97 + i / 26), UInt8.ofNat (97 + i % 26)] := h2
  simp at h3
theorem filled_more {k : Nat} {D : DataW Unit} (h : Filled k D) : has D (bkey more) = false := by
  cases hh : has D (bkey more) with
  | false => rfl
  | true =>
    obtain ⟨j, _, he⟩ := (h.mem _).1 hh
    exact absurd (bkey_inj he) (more_ne j)
theorem more_ok : nameErr more = 0 := by unfold nameErr; rw [show nameB more = true from by decide]; rfl
theorem one_more_no : nameErr ⟨#[111, 110, 101, 32, 109, 111, 114, 101]⟩ = 6 := by unfold nameErr; rw [show nameB _ = false from by decide]; rfl
theorem x_ok : textB ⟨#[120]⟩ = true := by decide
theorem y_ok : textB ⟨#[121]⟩ = true := by decide
theorem z_ok : textB ⟨#[122]⟩ = true := by decide
theorem umod500 (a : Int) : ∃ n : Nat, wrap64 ((IntKind.u64.wrap a).tmod 500) = n ∧ n < 500 := by
  have hu : 0 ≤ IntKind.u64.wrap a := by rw [IntKind.wrap_u64]; omega
  have e : (IntKind.u64.wrap a).tmod 500 = IntKind.u64.wrap a % 500 := Int.tmod_eq_emod_of_nonneg hu
  have l0 := Int.emod_nonneg (IntKind.u64.wrap a) (show (500 : Int) ≠ 0 from by omega)
  have l1 := Int.emod_lt_of_pos (IntKind.u64.wrap a) (show (0 : Int) < 500 from by omega)
  refine ⟨(IntKind.u64.wrap a % 500).toNat, ?_, by omega⟩
  rw [e, IntWalk.wrap64_in _ (by omega)]; omega

set_option maxRecDepth 100000 in
set_option maxHeartbeats 4000000 in
theorem full_any (x : Int) (w : World) : Calls Try.prog 7 #[.int .i64 x] w (Makes (.bool true) w) := by
  obtain ⟨K, eK, hK⟩ := umod500 x
  go_enter Try.func7, Try.ntmps7
  go_wp2_with fail
  refine (new_any _).mono ?_
  rintro e w1 ⟨b, mb, rfl, hS, hb⟩
  go_wp2_with fail
  go_loopw [4] (fun i wr => ∃ (k : Nat) (D : DataW Unit) (E : Nat → Option Ent), k ≤ 500 ∧ i = .int .i64 k ∧ Hid (StAt w.heap.size b mb k D E wr) ∧ Hid (Filled k D) ∧ Hid (Below w.heap.size w wr)) (fun i _ => 500 - (intOf i).toNat)
  case atStart => exact ⟨0, _, _, by omega, rfl, hS, filled_zero, hb⟩
  case round =>
    obtain ⟨k, D, E, hk, rfl, hSk, hfl, hbk⟩ := hrel
    by_cases hlt : k < 500
    · have hcv := two_back wr hlt
      have hz : (twoL k).size = 2 := rfl
      have HD := Lib.hid (define_new (hSk.out.alloc (.cells #[.int .u8 (97 + (k : Int) / 26), .int .u8 (97 + (k : Int) % 26)] 5)) (nName k) ⟨#[120]⟩ x_ok (nName_ok hlt) (filled_new hfl.out hlt) (by rw [hfl.out.size]; omega) (by unfold maxLen; omega))
      go_wp2_with fail
      refine (HD.out).mono ?_
      rintro e w3 ⟨rfl, nb, hnb, hS3, hg3⟩
      have HB := Lib.hid (hbk.out.trans ((grown_to_below (grown_trans (World.grownBy_alloc wr _ _) hg3) hSk.out.lo.2 hbk.out.size)))
      have HF := Lib.hid (filled_next hfl.out hlt (ptrD (some nb)))
      clear hcv HD hg3
      go_wp2_with fail
      go_roundw
      case rel => exact ⟨k + 1, _, _, by omega, by go_num, hS3, HF, HB⟩
      case measure => simp only [intOf]; omega
    · obtain rfl : k = 500 := by omega
      clear hS hb hlt hk
      have hh := (hfl.out.mem (bkey (nName K))).2 ⟨K, hK, rfl⟩
      obtain ⟨eb, y, ha, he⟩ := hSk.out.refs _ hh
      have HL : Hid (leads D (nName K) eb) := ⟨hh, ha⟩
      have HE := Lib.hid he
      have hm := filled_more hfl.out
      have HM := Lib.hid hm
      have HR : Hid (roomB D more = false) := room_no hm (by rw [hfl.out.size]; omega)
      have HNK := Lib.hid (nName_ok hK)
      have HSZ := Lib.hid (nameErr_max HNK.out)
      have HNE := Lib.hid (more_ne K)
      have hd2 : Maps.size (D.del (bkey (nName K))) + 1 = 500 := by have := size_del (k := bkey (nName K)) hfl.out.tidy; rw [hh, hfl.out.size] at this; exact this
      have hR2 : roomB ((D.del (bkey (nName K))).put (bkey more) (ptrD (some eb))) (nName K) = false := by
        refine room_no ?_ ?_
        · rw [has_put_other (fun e => more_ne K (bkey_inj e).symm), has_del_same]
        · rw [size_put (hfl.out.tidy.del _), has_del_other (fun e => more_ne K (bkey_inj e)), hm]
          simp only [Bool.false_eq_true, if_false]
          omega
      have HR2 := Lib.hid hR2
      have hcv := two_back wr hK
      have hz : (twoL K).size = 2 := rfl
      have hSa := Lib.hid (hSk.out.alloc (.cells #[.int .u8 (97 + (K : Int) / 26), .int .u8 (97 + (K : Int) % 26)] 5))
      have hBa := Lib.hid (hbk.out.trans (grown_to_below (World.grownBy_alloc wr (.cells #[.int .u8 (97 + (K : Int) / 26), .int .u8 (97 + (K : Int) % 26)] 5) (some mb)) hSk.out.lo.2 hbk.out.size))
      clear hh ha he hm hd2 hR2 hSk hbk
      have H1 := Lib.hid (define_name hSa.out ⟨#[111, 110, 101, 32, 109, 111, 114, 101]⟩ ⟨#[120]⟩ x_ok (by rw [one_more_no]; decide))
      rw [one_more_no] at H1
      go_wp2_with fail
      refine (H1.out).mono ?_
      rintro e w2 ⟨rfl, hb2⟩
      have hS2 := Lib.hid (hSa.out.below hb2)
      have hB2 := Lib.hid (hBa.out.trans (hb2.mono hBa.out.size))
      clear hcv H1
      go_wp2_with fail
      refine (define_full hS2.out more ⟨#[120]⟩ x_ok more_ok HR.out).mono ?_
      rintro e w3 ⟨rfl, hb3⟩
      have hS3 := Lib.hid (hS2.out.below hb3)
      have hB3 := Lib.hid (hB2.out.trans (hb3.mono hB2.out.size))
      go_wp2_with fail
      refine (alias_full hS3.out more (nName K) HSZ.out HL.out more_ok HNE.out HR.out).mono ?_
      rintro e w4 ⟨rfl, hb4⟩
      have hS4 := Lib.hid (hS3.out.below hb4)
      have hB4 := Lib.hid (hB3.out.trans (hb4.mono hB3.out.size))
      go_wp2_with fail
      refine (macro_full hS4.out more more_ok HR.out).mono ?_
      rintro e w5 ⟨rfl, hb5⟩
      have hS5 := Lib.hid (hS4.out.below hb5)
      have hB5 := Lib.hid (hB4.out.trans (hb5.mono hB4.out.size))
      go_wp2_with fail
      refine (append_full hS5.out more more_ok HR.out).mono ?_
      rintro e w6 ⟨rfl, hb6⟩
      have hS6 := Lib.hid (hS5.out.below hb6)
      have hB6 := Lib.hid (hB5.out.trans (hb6.mono hB5.out.size))
      go_wp2_with fail
      refine (define_old hS6.out (nName K) ⟨#[121]⟩ y_ok HNK.out HL.out HE.out).mono ?_
      rintro e w7 ⟨rfl, hS7', hg7⟩
      have hS7 := Lib.hid hS7'
      have hB7 := Lib.hid (hB6.out.trans (grown_to_below hg7 (hS6.out.ents _ _ HE.out).1 hB6.out.size))
      clear hS7' hg7
      go_wp2_with fail
      refine (rename_ok hS7.out (nName K) more HSZ.out HL.out (upd_same _ _ _) more_ok (by unfold maxLen; omega)).mono ?_
      rintro e w8 ⟨rfl, hS8', hg8⟩
      have hS8 := Lib.hid hS8'
      have hB8 := Lib.hid (hB7.out.trans (grown_to_below hg8 hS7.out.lo.2 hB7.out.size))
      clear hS8' hg8
      go_wp2_with fail
      refine (define_full hS8.out (nName K) ⟨#[122]⟩ z_ok HNK.out HR2.out).mono ?_
      rintro e w9 ⟨rfl, hb9⟩
      have hB9 := Lib.hid (hB8.out.trans (hb9.mono hB8.out.size))
      go_wp2_with fail
      refine (sane_any _).mono ?_
      rintro e w10 ⟨rfl, hb10⟩
      go_wp2_with fail
      go_ret
      exact ⟨rfl, hB9.out.trans (hb10.mono hB9.out.size)⟩
end Go.Proofs.Ytghpcfodjacdpaa
