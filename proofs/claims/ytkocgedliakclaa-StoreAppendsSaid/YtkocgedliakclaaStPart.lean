/- A part of a string is left. -/
import Derived.Test.YtkocgedliakclaaStOps
namespace Go.Proofs.Ytkocgedliakclaa
open Go.RowKit Go.PlainAid Go.Maps

def front (p l : Int) : Int := if p < 0 then p + l else p
def spanA (f t l : Int) : Int := if max (min f t) 0 > min (max f t) (l - 1) then 0 else max (min f t) 0
def spanB (f t l : Int) : Int := if max (min f t) 0 > min (max f t) (l - 1) then 0 else min (max f t) (l - 1) + 1
theorem span_bd (f t l : Int) (hl : 0 ≤ l) : 0 ≤ spanA f t l ∧ spanA f t l ≤ spanB f t l ∧ spanB f t l ≤ l := by
  unfold spanA spanB
  split <;> omega

theorem fromFront_any (p l : Int) (w : World) (h0 : -9223372036854775808 ≤ p) (h1 : p ≤ 9223372036854775807) (hl : 0 ≤ l) (hl1 : l ≤ 100000) : Calls Try.prog 46 #[.int .i64 p, .int .i64 l] w (Says (.int .i64 (front p l)) w) := by
  unfold front
  by_cases h : p < 0
  · rw [if_pos h]
    go_enter Try.func46, Try.ntmps46
    go_wp2_with fail
    go_ret
    exact ⟨rfl, rfl⟩
  · rw [if_neg h]
    go_enter Try.func46, Try.ntmps46
    go_wp2_with fail
    go_ret
    exact ⟨rfl, rfl⟩
theorem front_bd {p l : Int} (h0 : -9223372036854775808 ≤ p) (h1 : p ≤ 9223372036854775807) (hl : 0 ≤ l) (hl1 : l ≤ 100000) : -9223372036854775808 ≤ front p l ∧ front p l ≤ 9223372036854775807 := by
  unfold front; split <;> omega

set_option maxRecDepth 100000 in
set_option maxHeartbeats 1000000 in
theorem span_any (f t l : Int) (w : World) (f0 : -9223372036854775808 ≤ f) (f1 : f ≤ 9223372036854775807) (t0 : -9223372036854775808 ≤ t) (t1 : t ≤ 9223372036854775807) (hl : 0 ≤ l) (hl1 : l ≤ 100000) :
    Calls Try.prog 36 #[.int .i64 f, .int .i64 t, .int .i64 l] w (Says (.tuple #[.int .i64 (spanA (front f l) (front t l) l), .int .i64 (spanB (front f l) (front t l) l)]) w) := by
  have HF := Lib.hid (fromFront_any f l w f0 f1 hl hl1)
  have HT := Lib.hid (fromFront_any t l w t0 t1 hl hl1)
  obtain ⟨a0, a1⟩ := front_bd f0 f1 hl hl1
  obtain ⟨b0, b1⟩ := front_bd t0 t1 hl hl1
  obtain ⟨a, ha⟩ : ∃ a, front f l = a := ⟨_, rfl⟩
  obtain ⟨b, hb⟩ : ∃ b, front t l = b := ⟨_, rfl⟩
  rw [ha] at HF a0 a1
  rw [hb] at HT b0 b1
  rw [ha, hb]
  clear ha hb f0 f1 t0 t1
  by_cases hab : a > b
  · have m1 : min a b = b := by omega
    have m2 : max a b = a := by omega
    unfold spanA spanB
    rw [m1, m2]
    clear m1 m2
    by_cases hs : max b 0 > min a (l - 1)
    · rw [if_pos hs, if_pos hs]
      go_enter Try.func36, Try.ntmps36
      go_wp2_with fail
      refine (HF.out).mono ?_
      rintro e w1 ⟨rfl, rfl⟩
      go_wp2_with fail
      refine (HT.out).mono ?_
      rintro e w1 ⟨rfl, rfl⟩
      go_wp2_with fail
      go_ret2
      exact ⟨rfl, rfl⟩
    · rw [if_neg hs, if_neg hs]
      go_enter Try.func36, Try.ntmps36
      go_wp2_with fail
      refine (HF.out).mono ?_
      rintro e w1 ⟨rfl, rfl⟩
      go_wp2_with fail
      refine (HT.out).mono ?_
      rintro e w1 ⟨rfl, rfl⟩
      go_wp2_with fail
      go_ret2
      exact ⟨rfl, rfl⟩
  · have m1 : min a b = a := by omega
    have m2 : max a b = b := by omega
    unfold spanA spanB
    rw [m1, m2]
    clear m1 m2
    by_cases hs : max a 0 > min b (l - 1)
    · rw [if_pos hs, if_pos hs]
      go_enter Try.func36, Try.ntmps36
      go_wp2_with fail
      refine (HF.out).mono ?_
      rintro e w1 ⟨rfl, rfl⟩
      go_wp2_with fail
      refine (HT.out).mono ?_
      rintro e w1 ⟨rfl, rfl⟩
      go_wp2_with fail
      go_ret2
      exact ⟨rfl, rfl⟩
    · rw [if_neg hs, if_neg hs]
      go_enter Try.func36, Try.ntmps36
      go_wp2_with fail
      refine (HF.out).mono ?_
      rintro e w1 ⟨rfl, rfl⟩
      go_wp2_with fail
      refine (HT.out).mono ?_
      rintro e w1 ⟨rfl, rfl⟩
      go_wp2_with fail
      go_ret2
      exact ⟨rfl, rfl⟩

section
variable {B b mb n : Nat} {D : DataW Unit} {E : Nat → Option Ent} {w : World}
theorem length_str {eb : Nat} {x : Ent} (hx : w.heap[eb]? = some (.cells #[.int .i64 1, .string x.text, .slice x.la x.ln x.lc] 53 (0, 0))) : Calls Try.prog 37 #[.pointer (some ⟨eb, 0, none⟩)] w (Says (.int .i64 x.text.size) w) := by
  obtain ⟨⟨c0, c1, c2⟩, f0, f1, f2⟩ := cells3 hx
  clear hx
  go_enter Try.func37, Try.ntmps37
  go_wp2_with fail
  go_ret
  exact ⟨rfl, rfl⟩
theorem keep_str {eb : Nat} {x : Ent} (hx : w.heap[eb]? = some (.cells #[.int .i64 1, .string x.text, .slice x.la x.ln x.lc] 53 (0, 0))) (p q : Nat) (hpq : p ≤ q) (hq : q ≤ x.text.size) :
    Calls Try.prog 35 #[.pointer (some ⟨eb, 0, none⟩), .int .i64 p, .int .i64 q] w fun e w' => e = .returned (.tuple #[]) ∧ w' = w.setCell ⟨eb, 1, none⟩ (.string (x.text.extract p q)) := by
  obtain ⟨⟨c0, c1, c2⟩, f0, f1, f2⟩ := cells3 hx
  clear hx
  go_enter Try.func35, Try.ntmps35
  go_wp2_with fail
  exact bodyPost_ret (v := .tuple #[]) (by simp [results, Try.results35, go_sem]) rfl ⟨rfl, rfl⟩

/-- The text that Part leaves. -/
def partT (t : ByteArray) (p q : Int) : ByteArray := t.extract (spanA (front p t.size) (front q t.size) t.size).toNat (spanB (front p t.size) (front q t.size) t.size).toNat
set_option maxRecDepth 100000 in
theorem part_str (h : StAt B b mb n D E w) {s : ByteArray} (hs : s.size ≤ maxLen) {eb : Nat} {t : ByteArray} (hl : leads D s eb) (he : E eb = some (strE t)) (ht : t.size ≤ 100000) (p q : Int)
    (p0 : -9223372036854775808 ≤ p) (p1 : p ≤ 9223372036854775807) (q0 : -9223372036854775808 ≤ q) (q1 : q ≤ 9223372036854775807) :
    Calls Try.prog 21 #[.pointer (some ⟨b, 0, none⟩), .string s, .int .i64 p, .int .i64 q] w (PutOldP B b mb n D E eb (strE (partT t p q)) w) := by
  have HF := Lib.hid (find_yes h hs hl)
  have hx := (h.ents _ _ he).2
  have HL := Lib.hid (length_str (x := strE t) hx)
  have HS := Lib.hid (span_any p q t.size w p0 p1 q0 q1 (by omega) (by omega))
  obtain ⟨b0, b1, b2⟩ := span_bd (front p t.size) (front q t.size) t.size (by omega)
  have hP : partT t p q = t.extract (spanA (front p t.size) (front q t.size) t.size).toNat (spanB (front p t.size) (front q t.size) t.size).toNat := rfl
  obtain ⟨u, hu⟩ : ∃ u : Nat, spanA (front p t.size) (front q t.size) t.size = u := ⟨_, (Int.toNat_of_nonneg b0).symm⟩
  obtain ⟨v, hv⟩ : ∃ v : Nat, spanB (front p t.size) (front q t.size) t.size = v := ⟨_, (Int.toNat_of_nonneg (by omega)).symm⟩
  rw [hu, hv] at HS hP b1
  rw [hv] at b2
  rw [Int.toNat_natCast, Int.toNat_natCast] at hP
  have HK := Lib.hid (keep_str (x := strE t) hx u v (by omega) (show v ≤ t.size by omega))
  have hg := grown_set w eb 1 (.string (partT t p q))
  have hst := h.set (x := strE (partT t p q)) he hg (heap_set_at hx 1 _)
  rw [← hP] at HK
  have HST := Lib.hid hst
  have HG := Lib.hid hg
  clear hl he hx hu hv hP b0 b1 b2 hst hg
  go_enter Try.func21, Try.ntmps21
  go_wp2_with fail
  refine (HF.out).mono ?_
  rintro e w1 ⟨rfl, rfl⟩
  go_wp2_with fail
  refine (HL.out).mono ?_
  rintro e w1 ⟨rfl, rfl⟩
  go_wp2_with fail
  refine (HS.out).mono ?_
  rintro e w1 ⟨rfl, rfl⟩
  go_wp2_with fail
  refine (HK.out).mono ?_
  rintro e w1 ⟨rfl, rfl⟩
  go_wp2_with fail
  go_ret
  exact ⟨rfl, HST.out, HG.out⟩
end

def nmA : ByteArray := ⟨#[97]⟩
theorem nmA_ok : nameErr nmA = 0 := by
  unfold nameErr
  rw [nameB_of (by decide) (by decide) (by decide)]
  rfl
theorem abcde_ok : textB ⟨#[97, 98, 99, 100, 101]⟩ = true := by decide
theorem leads_put {D : DataW Unit} (hD : IsMap D) (s : ByteArray) (nb : Nat) : leads (D.put (bkey s) (ptrD (some nb))) s nb :=
  ⟨has_put_same hD (bkey_key s) _, atKey_put_same hD (bkey_key s) _ _⟩
theorem sane_part : partT ⟨#[97, 98, 99, 100, 101]⟩ 1 (-2) = ⟨#[98, 99, 100]⟩ := by decide
set_option maxRecDepth 100000 in
theorem sane_any (w : World) : Calls Try.prog 6 #[] w (Makes (.bool true) w) := by
  go_enter Try.func6, Try.ntmps6
  go_wp2_with fail
  refine (new_any _).mono ?_
  rintro e w1 ⟨b, mb, rfl, hS, hb⟩
  have h1 := Lib.hid (define_new hS nmA ⟨#[97, 98, 99, 100, 101]⟩ abcde_ok nmA_ok rfl (by decide) (by unfold maxLen; omega))
  go_wp2_with fail
  refine (h1.out).mono ?_
  rintro e w2 ⟨rfl, nb, hnb, hS2, hg2⟩
  have hl2 := leads_put isMap_empty nmA nb
  have h2 := Lib.hid (part_str hS2 (by decide) hl2 (upd_same _ _ _) (by decide) 1 (-2) (by omega) (by omega) (by omega) (by omega))
  go_wp2_with fail
  refine (h2.out).mono ?_
  rintro e w3 ⟨rfl, hS3, hg3⟩
  have h3 := Lib.hid (text_yes hS3 (by decide) hl2 (upd_same _ _ _))
  rw [sane_part] at h3
  go_wp2_with fail
  refine (h3.out).mono ?_
  rintro e w4 ⟨rfl, rfl⟩
  go_wp2_with fail
  go_ret
  exact ⟨rfl, hb.trans ((grown_to_below hg2 hS.lo.2 hb.size).trans (grown_to_below hg3 (by have := hS.lo.1; have := hS.lt; omega) (by have := hg2.size; have := hb.size; omega)))⟩
end Go.Proofs.Ytkocgedliakclaa
