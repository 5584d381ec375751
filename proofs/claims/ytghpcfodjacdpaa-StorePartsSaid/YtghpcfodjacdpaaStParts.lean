/- StoreParts's walk. -/
import Derived.Test.YtghpcfodjacdpaaStPart
namespace Go.Proofs.Ytghpcfodjacdpaa
open Go.RowKit Go.PlainAid Go.Maps

theorem bt_list {s : ByteArray} {j : Nat} {c : UInt8} (hj : j < s.size) : bt s j = (c.toNat : Int) ↔ s.data.toList[j]? = some c := by
  have hl : j < s.data.toList.length := by rw [← Lib.size_eq]; exact hj
  rw [bt_get hj, List.getElem?_eq_getElem hl, Option.some.injEq]
  constructor
  · intro h; exact UInt8.toNat_inj.1 (Int.ofNat_inj.1 h)
  · intro h; rw [h]
theorem textB_nl {s : ByteArray} {j : Nat} (hj : j < s.size) (h : (bt s j == 10) = true) : textB s = false := by
  have h : bt s j = ((10 : UInt8).toNat : Int) := by simpa using h
  have := (bt_list hj).1 h
  have hge := Lib.indexByte_ge s.data.toList 10
  have : 0 ≤ Lib.indexByte s.data.toList 10 := by
    rcases Int.lt_or_le (Lib.indexByte s.data.toList 10) 0 with h1 | h1
    · exact absurd this (Lib.indexByte_none (by omega) j)
    · exact h1
  simp [textB, this]
theorem textB_clean {s : ByteArray} (h : ∀ j, j < s.size → (bt s j == 10) = false) : textB s = decide (s.size ≤ 2000) := by
  have : ¬ 0 ≤ Lib.indexByte s.data.toList 10 := by
    intro h0
    obtain ⟨o, ho⟩ : ∃ o : Nat, Lib.indexByte s.data.toList 10 = o := ⟨_, (Int.toNat_of_nonneg h0).symm⟩
    have hs := (Lib.indexByte_some ho).1
    have hlt : o < s.size := by
      rw [Lib.size_eq]
      exact (List.getElem?_eq_some_iff.1 hs).1
    have := (bt_list hlt).2 hs
    have h2 := h o hlt
    rw [this] at h2
    exact absurd h2 (by decide)
  simp [textB, this]

set_option maxRecDepth 100000 in
set_option maxHeartbeats 1000000 in
theorem rIsText_any (s : ByteArray) (hs : s.size ≤ 9223372036854775807) (w : World) : Calls Try.prog 8 #[.string s] w (Says (.bool (textB s)) w) := by
  have hgb := get_bt s
  go_enter Try.func8, Try.ntmps8
  go_wp2_with fail
  go_loop [3] (fun i => ∃ k : Nat, k ≤ s.size ∧ i = .int .i64 k ∧ Hid (∀ j, j < k → (bt s j == 10) = false)) (fun i => s.size - (intOf i).toNat)
  case atStart => exact ⟨0, by omega, rfl, fun j hj => absurd hj (Nat.not_lt_zero _)⟩
  case round =>
    obtain ⟨k, hk, rfl, hn⟩ := hrel
    by_cases hlt : k < s.size
    · cases hb : (bt s k == 10) with
      | false =>
        have hne : Hid (∀ j, j < k + 1 → (bt s j == 10) = false) := fun j hj => by
          by_cases e : j = k
          · rw [e]; exact hb
          · exact hn.out j (by omega)
        clear hn
        go_wp2
        go_round
        case rel => exact ⟨k + 1, by omega, by go_num, hne⟩
        case measure => simp [intOf]; omega
      | true =>
        have HN : Hid (textB s = false) := textB_nl hlt hb
        clear hn
        go_wp2
        go_ret
        exact ⟨by rw [HN.out]; rfl, rfl⟩
    · have HN : Hid (textB s = decide (s.size ≤ 2000)) := textB_clean (fun j hj => hn.out j (by omega))
      clear hn
      obtain ⟨c, hc⟩ : ∃ c, decide (s.size ≤ 2000) = c := ⟨_, rfl⟩
      have hc2 : decide ((s.size : Int) ≤ 2000) = c := by rw [← hc]; exact decide_eq_decide.2 (by omega)
      rw [hc] at HN
      clear hc
      go_wp2
      go_ret
      exact ⟨by rw [HN.out]; rfl, rfl⟩

theorem ext_empty {t : ByteArray} {a b : Nat} (h : b ≤ a) : t.extract a b = ⟨#[]⟩ := by
  apply ByteArray.ext
  simp [ByteArray.data_extract]
  omega
theorem ext_snoc {t : ByteArray} {a k : Nat} (h : a ≤ k) (_hk : k < t.size) : t.extract a k ++ t.extract k (k + 1) = t.extract a (k + 1) := by
  apply ByteArray.ext
  rw [ByteArray.data_append]
  simp only [ByteArray.data_extract]
  rw [Array.extract_append_extract, Nat.min_eq_left h, Nat.max_eq_right (by omega)]
/-- A place that lies between the two ends, and one that does not. -/
theorem span_in {f g l : Int} {k : Nat} (hl : (k : Int) < l) (h : (f ≤ k ∧ (k : Int) ≤ g) ∨ (g ≤ k ∧ (k : Int) ≤ f)) : (spanA f g l).toNat ≤ k ∧ k + 1 ≤ (spanB f g l).toNat := by
  unfold spanA spanB
  split <;> omega
theorem span_out {f g l : Int} {k : Nat} (hl : (k : Int) < l) (h : ¬ ((f ≤ k ∧ (k : Int) ≤ g) ∨ (g ≤ k ∧ (k : Int) ≤ f))) : k + 1 ≤ (spanA f g l).toNat ∨ (spanB f g l).toNat ≤ k := by
  unfold spanA spanB
  split <;> omega

/-- What the law's loop has gathered. -/
def pickT (t : ByteArray) (f g : Int) (k : Nat) : ByteArray := t.extract (spanA f g t.size).toNat (min k (spanB f g t.size).toNat)
theorem pick_zero (t : ByteArray) (f g : Int) : pickT t f g 0 = ⟨#[]⟩ := ext_empty (by omega)
theorem pick_in {t : ByteArray} {f g : Int} {k : Nat} (hk : k < t.size) (h : (f ≤ k ∧ (k : Int) ≤ g) ∨ (g ≤ k ∧ (k : Int) ≤ f)) : pickT t f g k ++ t.extract k (k + 1) = pickT t f g (k + 1) := by
  obtain ⟨h1, h2⟩ := span_in (l := t.size) (by omega) h
  unfold pickT
  rw [Nat.min_eq_left (by omega), Nat.min_eq_left h2, ext_snoc h1 hk]
theorem pick_out {t : ByteArray} {f g : Int} {k : Nat} (hk : k < t.size) (h : ¬ ((f ≤ k ∧ (k : Int) ≤ g) ∨ (g ≤ k ∧ (k : Int) ≤ f))) : pickT t f g (k + 1) = pickT t f g k := by
  unfold pickT
  rcases span_out (l := t.size) (by omega) h with h1 | h1
  · rw [ext_empty (by omega), ext_empty (by omega)]
  · rw [Nat.min_eq_right (by omega), Nat.min_eq_right (by omega)]
theorem pick_all (t : ByteArray) (p q : Int) : pickT t (front p t.size) (front q t.size) t.size = partT t p q := by
  have := span_bd (front p t.size) (front q t.size) t.size (by omega)
  unfold pickT partT
  rw [Nat.min_eq_right (by omega)]
theorem pick_size {t : ByteArray} {f g : Int} {k : Nat} : (pickT t f g k).size ≤ t.size := by
  unfold pickT
  rw [ByteArray.size_extract]
  omega
theorem beq_of {a b : ByteArray} (h : a = b) : (b.toList == a.toList) = true := by rw [h]; exact beq_self_eq_true _
set_option maxRecDepth 100000 in
set_option maxHeartbeats 4000000 in
theorem parts_text (t : ByteArray) (p q : Int) (w : World) (ht : textB t = true)
    (p0 : -9223372036854775808 ≤ p) (p1 : p ≤ 9223372036854775807) (q0 : -9223372036854775808 ≤ q) (q1 : q ≤ 9223372036854775807) :
    Calls Try.prog 5 #[.string t, .int .i64 p, .int .i64 q] w (Makes (.bool true) w) := by
  have hsz := textB_size ht
  have HT := Lib.hid ht
  have HRT := Lib.hid (rIsText_any t (by omega) w)
  rw [ht] at HRT
  have hpa := pick_all t p q
  clear ht
  by_cases hp : p < 0
  case' pos =>
    obtain ⟨f, hf⟩ : ∃ f, p + (t.size : Int) = f := ⟨_, rfl⟩
    rw [show front p t.size = p + t.size from if_pos hp, hf] at hpa
  case' neg =>
    rw [show front p t.size = p from if_neg hp] at hpa
    obtain ⟨f, rfl⟩ : ∃ f, f = p := ⟨_, rfl⟩
    have hf : True := trivial
  all_goals
    by_cases hq : q < 0
    case' pos =>
      obtain ⟨g, hg⟩ : ∃ g, q + (t.size : Int) = g := ⟨_, rfl⟩
      rw [show front q t.size = q + t.size from if_pos hq, hg] at hpa
    case' neg =>
      rw [show front q t.size = q from if_neg hq] at hpa
      obtain ⟨g, rfl⟩ : ∃ g, g = q := ⟨_, rfl⟩
      have hg : True := trivial
  all_goals
    have HPA := Lib.hid hpa
    clear hpa
    go_enter Try.func5, Try.ntmps5
    go_wp2_with fail
    refine (HRT.out).mono ?_
    rintro e w1 ⟨rfl, rfl⟩
    go_wp2_with fail
    refine (new_any _).mono ?_
    rintro e w1 ⟨b, mb, rfl, hS, hb⟩
    have h1 := Lib.hid (define_new hS nmA t HT.out nmA_ok rfl (by decide) (by unfold maxLen; omega))
    go_wp2_with fail
    refine (h1.out).mono ?_
    rintro e w2 ⟨rfl, nb, hnb, hS2, hg2⟩
    have hl2 := leads_put isMap_empty nmA nb
    have h2 := Lib.hid (part_str hS2 (by decide) hl2 (upd_same _ _ _) (by omega) _ _ p0 p1 q0 q1)
    go_wp2_with fail
    refine (h2.out).mono ?_
    rintro e w3 ⟨rfl, hS3, hg3⟩
    have h3 := Lib.hid (text_yes hS3 (by decide) hl2 (upd_same _ _ _))
    go_wp2_with fail
    refine (h3.out).mono ?_
    rintro e w4 ⟨rfl, rfl⟩
    have hbw := Lib.hid (hb.trans ((grown_to_below hg2 hS.lo.2 hb.size).trans (grown_to_below hg3 (show w.heap.size ≤ nb by have := hS.lo.1; have := hS.lt; omega) (by have := hg2.size; have := hb.size; omega))))
    clear h1 h2 h3 hS hS2 hS3 hg2 hg3 hl2 hb hnb
    go_wp2_with fail
    try simp only [hf]
    try simp only [hg]
    clear hf hg
    go_loop [11, 12] (fun u i => ∃ k : Nat, k ≤ t.size ∧ i = .int .i64 k ∧ u = .string (pickT t f g k)) (fun _ i => t.size - (intOf i).toNat)
    case atStart => exact ⟨0, by omega, rfl, by rw [pick_zero]⟩
    case round =>
      obtain ⟨k, hk, rfl, rfl⟩ := hrel
      by_cases hlt : k < t.size
      · have hz0 := pick_size (t := t) (f := f) (g := g) (k := k)
        by_cases hin : (f ≤ k ∧ (k : Int) ≤ g) ∨ (g ≤ k ∧ (k : Int) ≤ f)
        · have HPI := Lib.hid (pick_in hlt hin)
          by_cases c1 : f ≤ k
          · by_cases c2 : (k : Int) ≤ g
            · clear hin
              go_wp2
              go_round
              case rel => exact ⟨k + 1, by omega, by go_num, by rw [HPI.out]⟩
              case measure => simp [intOf]; omega
            · have c3 : g ≤ k := by omega
              have c4 : (k : Int) ≤ f := by omega
              clear hin
              go_wp2
              go_round
              case rel => exact ⟨k + 1, by omega, by go_num, by rw [HPI.out]⟩
              case measure => simp [intOf]; omega
          · have c3 : g ≤ k := by omega
            have c4 : (k : Int) ≤ f := by omega
            clear hin
            go_wp2
            go_round
            case rel => exact ⟨k + 1, by omega, by go_num, by rw [HPI.out]⟩
            case measure => simp [intOf]; omega
        · have HPI := Lib.hid (pick_out hlt hin)
          by_cases c1 : f ≤ k
          · have c2 : ¬ (k : Int) ≤ g := by omega
            have c3 : g ≤ k := by omega
            have c4 : ¬ (k : Int) ≤ f := by omega
            clear hin
            go_wp2
            go_round
            case rel => exact ⟨k + 1, by omega, by go_num, by rw [HPI.out]⟩
            case measure => simp [intOf]; omega
          · have c3 : ¬ g ≤ k := by omega
            clear hin
            go_wp2
            go_round
            case rel => exact ⟨k + 1, by omega, by go_num, by rw [HPI.out]⟩
            case measure => simp [intOf]; omega
      · obtain rfl : k = t.size := by omega
        have hq := beq_of HPA.out
        have HSA := Lib.hid sane_any
        go_wp2_with fail
        refine (HSA.out _).mono ?_
        rintro e w5 ⟨rfl, hb5⟩
        go_wp2_with fail
        go_ret
        exact ⟨rfl, step_below hbw.out hb5⟩

set_option maxRecDepth 100000 in
theorem parts_any (t : ByteArray) (p q : Int) (w : World) (hs : t.size ≤ 9223372036854775807)
    (p0 : -9223372036854775808 ≤ p) (p1 : p ≤ 9223372036854775807) (q0 : -9223372036854775808 ≤ q) (q1 : q ≤ 9223372036854775807) :
    Calls Try.prog 5 #[.string t, .int .i64 p, .int .i64 q] w (Makes (.bool true) w) := by
  cases ht : textB t with
  | true => exact parts_text t p q w ht p0 p1 q0 q1
  | false =>
    have HRT := Lib.hid (rIsText_any t hs w)
    rw [ht] at HRT
    have HSA := Lib.hid sane_any
    clear ht hs
    go_enter Try.func5, Try.ntmps5
    go_wp2_with fail
    refine (HRT.out).mono ?_
    rintro e w1 ⟨rfl, rfl⟩
    go_wp2_with fail
    refine (HSA.out _).mono ?_
    rintro e w5 ⟨rfl, hb5⟩
    go_wp2_with fail
    go_ret
    exact ⟨rfl, hb5⟩
end Go.Proofs.Ytghpcfodjacdpaa
