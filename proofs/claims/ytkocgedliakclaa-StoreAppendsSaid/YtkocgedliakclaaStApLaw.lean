/- StoreAppends's walk. -/
import Derived.Test.YtkocgedliakclaaStAppend
import Derived.Test.YtkocgedliakclaaStAdd2
import Derived.Test.YtkocgedliakclaaStRIs
import Derived.Test.YtkocgedliakclaaStSame2
import Derived.Deep.DeepCutAuto
import Derived.Deep.CutBlock
namespace Go.Proofs.Ytkocgedliakclaa
open Go.RowKit Go.PlainAid Go.Maps Go.Shelf

/-- Texts that came in. -/
def PartsAt (ao : Option Addr) (ls : List ByteArray) (w : World) : Prop := ∃ b off, (0 < ls.length → ao = some ⟨b, off, none⟩ ∧ b < w.heap.size) ∧ ∀ i (h : i < ls.length), w.cell? ⟨b, off + i, none⟩ = some (.string ls[i])
def cat (ls : List ByteArray) (i : Nat) : ByteArray := (ls.take i).foldl (· ++ ·) ⟨#[]⟩
theorem cat_zero (ls : List ByteArray) : cat ls 0 = ⟨#[]⟩ := rfl
theorem cat_succ (ls : List ByteArray) (i : Nat) (h : i < ls.length) : cat ls (i + 1) = cat ls i ++ ls[i] := by
  unfold cat
  rw [List.take_succ_eq_append_getElem h, List.foldl_append]
  rfl

theorem bt_behind (a b : ByteArray) (j : Nat) (h : j < b.size) : bt (a ++ b) (a.size + j) = bt b j := by
  unfold bt
  rw [dif_pos (by rw [ByteArray.size_append]; omega), dif_pos h]
  congr 2
  rw [ByteArray.getElem_append_right (by omega)]
  congr 1
  omega
theorem textB_right {a b : ByteArray} (h : textB (a ++ b) = true) : textB b = true := by
  have hsz : (a ++ b).size ≤ 2000 := by
    rcases Nat.lt_or_ge 2000 (a ++ b).size with h' | h'
    · rw [textB_long (by omega)] at h; cases h
    · exact h'
  have hno : ∀ j, j < b.size → (bt b j == 10) = false := fun j hj => by
    cases hb : (bt b j == 10) with
    | false => rfl
    | true =>
      rw [← bt_behind a b j hj] at hb
      rw [textB_nl (by rw [ByteArray.size_append]; omega) hb] at h
      cases h
  rw [textB_clean hno]
  rw [ByteArray.size_append] at hsz
  exact decide_eq_true (by omega)
def nmBb : ByteArray := ⟨#[98]⟩
def nmCc : ByteArray := ⟨#[99]⟩
theorem nmBb_ok : nameErr nmBb = 0 := by decide
theorem nmCc_ok : nameErr nmCc = 0 := by decide
theorem leads_other {D : DataW Unit} {s t : ByteArray} {e : Nat} (h : leads D s e) (hne : s ≠ t) (x : DataW Unit) : leads (D.put (bkey t) x) s e :=
  ⟨by rw [has_put_other (fun e => hne (bkey_inj e))]; exact h.1, by rw [atKey_put_other (fun e => hne (bkey_inj e))]; exact h.2⟩
theorem StAt.low {A B b mb n : Nat} {D : DataW Unit} {E : Nat → Option Ent} {w : World} (h : StAt B b mb n D E w) (hA : A ≤ B) : StAt A b mb n D E w :=
  ⟨h.blk, h.map, fun eb x he => ⟨Nat.le_trans hA (h.ents eb x he).1, (h.ents eb x he).2⟩, h.refs, Nat.le_trans hA h.lo.1, Nat.le_trans hA h.lo.2⟩

theorem umod_len (a : Int) (m : Nat) (hm : m ≤ 300) : ∃ n : Nat, wrap64 ((IntKind.u64.wrap a).tmod ((m : Int) + 1)) = n ∧ n ≤ m := by
  have hu : 0 ≤ IntKind.u64.wrap a := by rw [IntKind.wrap_u64]; omega
  have e : (IntKind.u64.wrap a).tmod ((m : Int) + 1) = IntKind.u64.wrap a % ((m : Int) + 1) := Int.tmod_eq_emod_of_nonneg hu
  have l0 := Int.emod_nonneg (IntKind.u64.wrap a) (show ((m : Int) + 1) ≠ 0 from by omega)
  have l1 := Int.emod_lt_of_pos (IntKind.u64.wrap a) (show (0 : Int) < (m : Int) + 1 from by omega)
  rw [e, IntWalk.wrap64_in _ (by omega)]
  exact ⟨(IntKind.u64.wrap a % ((m : Int) + 1)).toNat, (Int.toNat_of_nonneg l0).symm, by omega⟩
theorem LinesRd.drop {S : Nat → Prop} {ao a' : Option Addr} {c c' : Nat} {l : List LineC} {w : World} (h : LinesRd S (.slice ao l.length c) l w) (k : Nat) (hk : k ≤ l.length) (ha : k < l.length → a' = ao.map fun x => x.add (k * 5)) : LinesRd S (.slice a' (l.drop k).length c') (l.drop k) w := by
  obtain ⟨ao', cap', e, hl, b, off, h1, h2⟩ := h
  cases e
  have hd : (l.drop k).length = l.length - k := List.length_drop
  refine ⟨a', c', rfl, by omega, b, off + k * 5, fun h0 => ?_, fun i hi => ?_⟩
  · obtain ⟨rfl, hS⟩ := h1 (by omega)
    exact ⟨by rw [ha (by omega)]; simp [add_none], hS⟩
  · obtain ⟨u, hu⟩ := h2 (k + i) (by omega)
    refine ⟨u, ?_⟩
    rw [List.getElem_drop]
    have e : off + k * 5 + i * 5 = off + (k + i) * 5 := by omega
    rw [e]
    exact hu
theorem LinesRd.cap {S : Nat → Prop} {ao : Option Addr} {c : Nat} {l : List LineC} {w : World} (h : LinesRd S (.slice ao l.length c) l w) (c' : Nat) : LinesRd S (.slice ao l.length c') l w := by
  obtain ⟨ao', cap', e, hl, h2⟩ := h
  cases e
  exact ⟨ao, c', rfl, hl, h2⟩
theorem Fit.take {l : List LineC} (h : Fit l) (k : Nat) : Fit (l.take k) :=
  ⟨fun x hx => h.texts x (List.mem_of_mem_take hx), by have := h.lines; rw [List.length_take]; omega, fun x hx => h.boxes x (List.mem_of_mem_take hx), fun x hx => h.nums x (List.mem_of_mem_take hx)⟩
theorem Fit.drop {l : List LineC} (h : Fit l) (k : Nat) : Fit (l.drop k) :=
  ⟨fun x hx => h.texts x (List.mem_of_mem_drop hx), by have := h.lines; rw [List.length_drop]; omega, fun x hx => h.boxes x (List.mem_of_mem_drop hx), fun x hx => h.nums x (List.mem_of_mem_drop hx)⟩
theorem linesC_take {l : List LineC} (h : linesC l = true) (k : Nat) : linesC (l.take k) = true := by
  simp only [linesC, List.all_eq_true] at h ⊢
  exact fun x hx => h x (List.mem_of_mem_take hx)
theorem linesC_drop {l : List LineC} (h : linesC l = true) (k : Nat) : linesC (l.drop k) = true := by
  simp only [linesC, List.all_eq_true] at h ⊢
  exact fun x hx => h x (List.mem_of_mem_drop hx)

set_option maxRecDepth 100000 in
set_option maxHeartbeats 16000000 in
theorem appends_any (pa : Option Addr) (pc : Nat) (ls : List ByteArray) (ao : Option Addr) (lc : Nat) (l : List LineC) (cut : Int) (w : World) (hls : ls.length ≤ maxLen) (hP : PartsAt pa ls w) (hsz : ∀ s ∈ ls, s.size ≤ 140737488355328)
    (hL : LinesRd (· < w.heap.size) (.slice ao l.length lc) l w) (hcap : l.length ≤ lc) (hlm : lc ≤ maxLen) (hf : Fit l) (hc0 : -9223372036854775808 ≤ cut) (hc1 : cut ≤ 9223372036854775807) :
    Calls Try.prog 3 #[.slice pa ls.length pc, .slice ao l.length lc, .int .i64 cut] w (Makes (.bool true) w) := by
  unfold maxLen at hls hlm
  have HP := Lib.hid hP
  have HL := Lib.hid hL
  have hml : l.length ≤ 9223372036854775807 := by obtain ⟨_, _, _, h, _⟩ := hL; exact h
  clear hP hL
  go_enter Try.func3, Try.ntmps3
  go_upto_block 0 with fail
  go_cut [7, 8] (fun m i wx => ∃ j : Nat, j ≤ ls.length ∧ j ≤ 50 ∧ Hid (j = ls.length ∨ j = 50) ∧ i = .int .i64 j ∧ m = .string (cat ls j) ∧ Hid (∀ i, i ≤ j → textB (cat ls i) = true) ∧ Hid (Below w.heap.size w wx))
  case first =>
    go_wp2_with fail
    go_loopw [7, 8] (fun m i wr => ∃ j : Nat, j ≤ ls.length ∧ j ≤ 50 ∧ i = .int .i64 j ∧ m = .string (cat ls j) ∧ Hid (∀ i, i ≤ j → textB (cat ls i) = true) ∧ Hid (Below w.heap.size w wr)) (fun _ i _ => ls.length - (intOf i).toNat)
    case atStart => exact ⟨0, by omega, by omega, rfl, rfl, Lib.hid (fun i hi => by obtain rfl : i = 0 := (by omega); show textB ⟨#[]⟩ = true; decide), Below.refl _ _⟩
    case round =>
      obtain ⟨j, hj, hj5, rfl, rfl, ht, hb⟩ := hrel
      by_cases hlt : j < ls.length
      · by_cases h50 : j < 50
        · obtain ⟨pb, po, h1, h2⟩ := HP.out
          obtain ⟨rfl, hpl⟩ := h1 (by omega)
          have c0 := h2 j hlt
          rw [← hb.out.cell (p := ⟨pb, _, none⟩) hpl] at c0
          obtain ⟨s, hs⟩ : ∃ s, ls[j] = s := ⟨_, rfl⟩
          have hss := hsz _ (List.getElem_mem hlt)
          have hcs := cat_succ ls j hlt
          rw [hs] at c0 hss hcs
          have h2k : (cat ls j).size ≤ 2000 := by
            have := ht.out j (Nat.le_refl _)
            rcases Nat.lt_or_ge 2000 (cat ls j).size with h | h
            · rw [textB_long (by omega)] at this; cases this
            · exact h
          have hsum : (cat ls j).size + s.size ≤ 9223372036854775807 := by omega
          have hjz : (j : Int) < ls.length := by omega
          have hjn : (0 : Int) ≤ j := by omega
          have hj50 : (j : Int) < 50 := by omega
          have HI := Lib.hid (fun W => rIsText_any (cat ls j ++ s) (by rw [ByteArray.size_append]; omega) W)
          have HCS := Lib.hid hcs
          have HLT := Lib.hid hlt
          clear h1 h2 hs hcs hlt
          cases htb : textB (cat ls j ++ s)
          · rw [htb] at HI
            clear htb
            go_wp2_with fail
            refine (HI.out _).mono ?_
            rintro e w1 ⟨rfl, rfl⟩
            go_wp2_with fail
            refine (sane_any _).mono ?_
            rintro e w2 ⟨rfl, hb2⟩
            go_wp2_with fail
            go_ret
            exact ⟨rfl, hb.out.trans (Below.mono hb2 hb.out.size)⟩
          · rw [htb] at HI
            have HTB := Lib.hid htb
            clear htb
            go_wp2_with fail
            refine (HI.out _).mono ?_
            rintro e w1 ⟨rfl, rfl⟩
            go_wp2_with fail
            go_roundw
            case rel => exact ⟨j + 1, HLT.out, by omega, by go_num, by rw [HCS.out], Lib.hid (fun i hi => by rcases Nat.lt_or_ge i (j + 1) with h | h; (exact ht.out i (by omega)); obtain rfl : i = j + 1 := (by omega); rw [HCS.out]; exact HTB.out), hb⟩
            case measure => have := HLT.out; simp only [intOf]; omega
        · have hjz : (j : Int) < ls.length := by omega
          have hj50 : ¬ ((j : Int) < 50) := by omega
          go_wp2_with fail
          go_meet
          case rel => exact ⟨j, hj, hj5, Lib.hid (Or.inr (by omega)), rfl, rfl, ht, hb⟩
      · have hjz : ¬ ((j : Int) < ls.length) := by omega
        go_wp2_with fail
        go_meet
        case rel => exact ⟨j, hj, hj5, Lib.hid (Or.inl (by omega)), rfl, rfl, ht, hb⟩
  case rest =>
    obtain ⟨j, hj, hj5, hje, rfl, rfl, ht, hb⟩ := hcut
    obtain ⟨wr, hwr⟩ : ∃ wr, wr = wc := ⟨_, rfl⟩
    subst hwr
    have h2k : (cat ls j).size ≤ 2000 := by
      have := ht.out j (Nat.le_refl _)
      rcases Nat.lt_or_ge 2000 (cat ls j).size with h | h
      · rw [textB_long (by omega)] at this; cases this
      · exact h
    go_wp2_with fail
    refine (new_any wr).mono ?_
    rintro e w1 ⟨sb, mb, rfl, hS1, hb1⟩
    have HD1 := Lib.hid (define_new hS1 nmA ⟨#[]⟩ (by decide) nmA_ok rfl (by decide) (by decide))
    have HB1 := Lib.hid (hb.out.trans (Below.mono hb1 hb.out.size))
    clear hb1 hS1
    go_wp2_with fail
    refine (HD1.out).mono ?_
    rintro e w2 ⟨rfl, ea, hea, hS2, hg2⟩
    have hle0 : w.heap.size ≤ wr.heap.size := hb.out.size
    have hS2 := hS2.low hle0
    have hh2 : has ((DataW.map []).put (bkey nmA) (ptrD (some ea))) (bkey nmBb) = false := by rw [has_put_other (fun e => absurd (bkey_inj e) (by decide))]; rfl
    have HD2 := Lib.hid (define_new hS2 nmBb (cat ls j) (ht.out j (Nat.le_refl _)) nmBb_ok hh2 (show (1 : Nat) < 500 by decide) (by unfold maxLen; omega))
    have hea2 := hS2.elt (upd_same _ _ _)
    have hl2 := leads_put isMap_empty nmA ea
    have hmlo := hS2.lo.2
    have hD1 := hS2.map.isMap
    have HB2 := Lib.hid (HB1.out.trans (grown_to_below hg2 hmlo HB1.out.size))
    clear hS2 hg2 HD1
    go_wp2_with fail
    refine (HD2.out).mono ?_
    rintro e w3 ⟨rfl, eb, heb, hS3, hg3⟩
    have HB3 := Lib.hid (HB2.out.trans (grown_to_below hg3 hmlo HB2.out.size))
    have hlA := leads_other hl2 (by decide : nmA ≠ nmBb) (ptrD (some eb))
    have hlB := leads_put hD1 nmBb eb
    have hab : ea ≠ eb := by omega
    have H3 : Hid (∃ E, StAt w.heap.size sb mb 2 (((DataW.map []).put (bkey nmA) (ptrD (some ea))).put (bkey nmBb) (ptrD (some eb))) E w3 ∧ E ea = some (strE (cat ls 0)) ∧ E eb = some (strE (cat ls j))) :=
      Lib.hid ⟨_, hS3, by rw [upd_other _ hab, upd_same]; rfl, upd_same _ _ _⟩
    obtain ⟨D2, hD2⟩ : ∃ D2, D2 = ((DataW.map []).put (bkey nmA) (ptrD (some ea))).put (bkey nmBb) (ptrD (some eb)) := ⟨_, rfl⟩
    rw [← hD2] at H3 hlA hlB
    have HSZ2 := Lib.hid (show Maps.size D2 = 2 by rw [hD2]; rfl)
    have HCC : Hid (has D2 (bkey nmCc) = false) := Lib.hid (by
      rw [hD2, has_put_other (fun e => absurd (bkey_inj e) (by decide)), has_put_other (fun e => absurd (bkey_inj e) (by decide))]; rfl)
    clear hS3 hg3 HD2 HB1 HB2 hD2 hl2 hh2 hea2 heb hea hD1
    go_upto_block 2 with fail
    go_cut [10] (fun _ wx => Hid (∃ E, StAt w.heap.size sb mb 2 D2 E wx ∧ E ea = some (strE (cat ls j)) ∧ E eb = some (strE (cat ls j))) ∧ Hid (Below w.heap.size w wx))
    case first =>
      go_wp2_with fail
      go_loopw [10] (fun i wr => ∃ k : Nat, k ≤ j ∧ i = .int .i64 k ∧ Hid (∃ E, StAt w.heap.size sb mb 2 D2 E wr ∧ E ea = some (strE (cat ls k)) ∧ E eb = some (strE (cat ls j))) ∧ Hid (Below w.heap.size w wr)) (fun i _ => j - (intOf i).toNat)
      case atStart => exact ⟨0, by omega, rfl, H3, HB3⟩
      case round =>
        obtain ⟨k, hk, rfl, h3, hb3⟩ := hrel
        by_cases hkj : k < j
        · obtain ⟨pb, po, h1, h2⟩ := HP.out
          obtain ⟨rfl, hpl⟩ := h1 (by omega)
          have c0 := h2 k (by omega)
          rw [← hb3.out.cell (p := ⟨pb, _, none⟩) hpl] at c0
          have hcs := cat_succ ls k (by omega)
          have htk := ht.out (k + 1) (by omega)
          obtain ⟨s, hs⟩ : ∃ s, ls[k] = s := ⟨_, rfl⟩
          rw [hs] at c0 hcs
          rw [hcs] at htk
          have hsum := textB_size htk
          rw [ByteArray.size_append] at hsum
          obtain ⟨E, hSE, hEa, hEb⟩ := h3.out
          have HA := Lib.hid (append_old hSE nmA s (textB_right htk) nmA_ok hlA hEa hsum)
          have hkl : (k : Int) < ls.length := by omega
          have hkn : (0 : Int) ≤ k := by omega
          have hk50 : (k : Int) < 50 := by omega
          have HCS := Lib.hid hcs
          have HEB := Lib.hid hEb
          have hlo := hSE.lo
          have hea0 := (hSE.ents _ _ hEa).1
          clear h1 h2 hs hcs hSE hEa hEb htk
          go_wp2_with fail
          refine (HA.out).mono ?_
          rintro e w4 ⟨rfl, hS4, hg4⟩
          have H4 : Hid (∃ E, StAt w.heap.size sb mb 2 D2 E w4 ∧ E ea = some (strE (cat ls (k + 1))) ∧ E eb = some (strE (cat ls j))) :=
            Lib.hid ⟨_, hS4, by rw [upd_same, HCS.out], by rw [upd_other _ (fun e => hab e.symm)]; exact HEB.out⟩
          have HB4 := Lib.hid (hb3.out.trans (grown_to_below hg4 hea0 hb3.out.size))
          clear hS4 hg4 HA
          go_wp2_with fail
          go_roundw
          case rel => exact ⟨k + 1, by omega, by go_num, H4, HB4⟩
          case measure => simp only [intOf]; omega
        · obtain rfl : k = j := by omega
          rcases hje.out with he | he
          · have hjz : ¬ ((k : Int) < ls.length) := by omega
            clear he
            go_wp2_with fail
            go_meet
            case rel => exact ⟨h3, hb3⟩
          · have hjz : ¬ ((k : Int) < 50) := by omega
            have HE5 := Lib.hid he
            clear he
            by_cases hlt : k < ls.length
            · have hlz : (k : Int) < ls.length := by omega
              go_wp2_with fail
              go_meet
              case rel => exact ⟨h3, hb3⟩
            · have hlz : ¬ ((k : Int) < ls.length) := by omega
              go_wp2_with fail
              go_meet
              case rel => exact ⟨h3, hb3⟩
    case rest =>
      obtain ⟨h3, hb3⟩ := hcut
      obtain ⟨wo, hwo⟩ : ∃ wo, wo = wc := ⟨_, rfl⟩
      subst hwo
      obtain ⟨E, hSE, hEa, hEb⟩ := h3.out
      have HTA := Lib.hid (text_yes hSE (by decide) hlA hEa)
      have HTB := Lib.hid (text_yes hSE (by decide) hlB hEb)
      have HSE := Lib.hid hSE
      have HLr := Lib.hid (HL.out.stay (Stay.below hb3.out fun _ h => h))
      clear hEa hEb h3 H3 HB3 hb HP hSE
      go_wp2_with fail
      refine (HTA.out).mono ?_
      rintro e w4 ⟨rfl, rfl⟩
      go_wp2_with fail
      refine (HTB.out).mono ?_
      rintro e w4 ⟨rfl, rfl⟩
      clear HTA HTB
      by_cases h300 : l.length ≤ 300
      · have h300z : ¬ ((300 : Int) < l.length) := by omega
        have hle3 := hb3.out.size
        have HLw := Lib.hid (HLr.out.mono (T := (· < wo.heap.size)) fun k hk => Nat.lt_of_lt_of_le hk hle3)
        obtain ⟨X, hX, hXc⟩ := heads_of HLr.out hf.texts
        have HAr := Lib.hid (rAreLines_any ao l.length lc X wo (by unfold maxLen; omega) hX)
        rw [hXc] at HAr
        clear hX hXc HLr
        cases hlc : linesC l
        · rw [hlc] at HAr
          go_wp2_with fail
          refine (HAr.out).mono ?_
          rintro e w4 ⟨rfl, hb4⟩
          go_wp2_with fail
          refine (sane_any _).mono ?_
          rintro e w5 ⟨rfl, hb5⟩
          go_wp2_with fail
          go_ret
          have h34 := hb3.out.trans (Below.mono hb4 hb3.out.size)
          exact ⟨rfl, h34.trans (Below.mono hb5 h34.size)⟩
        · rw [hlc] at HAr
          have HLC := Lib.hid hlc
          clear hlc
          go_wp2_with fail
          refine (HAr.out).mono ?_
          rintro e w4 ⟨rfl, hb4⟩
          have HB4 := Lib.hid hb4
          clear hb4 HAr
          obtain ⟨n, hn, hnl⟩ := umod_len cut l.length h300
          have hlt3 : (l.take n).length = n := by rw [List.length_take]; omega
          have HLt : Hid (LinesRd (· < wo.heap.size) (.slice ao (l.take n).length lc) (l.take n) wo) := Lib.hid (by rw [hlt3]; exact HLw.out.take n lc hnl)
          have hs4 := HB4.out.size
          have HE4 := Lib.hid (HSE.out.below HB4.out)
          have HBa := Lib.hid (hb3.out.trans (Below.mono HB4.out hb3.out.size))
          have HM := Lib.hid (macro_new (HSE.out.below HB4.out) nmCc nmCc_ok HCC.out (by rw [HSZ2.out]; decide) (by unfold maxLen; omega) ao lc (l.take n) ((HLt.out.stay (Stay.below HB4.out fun _ h => h)).mono fun k hk => Nat.lt_of_lt_of_le hk HB4.out.size) (hf.take n) (linesC_take HLC.out n) (by omega))
          rw [hlt3] at HM
          have hnz : (n : Int) ≤ l.length := by omega
          have hnc : (n : Int) ≤ lc := by omega
          have HLT3 := Lib.hid hlt3
          clear HLt HSE hlt3
          go_wp2_with fail
          refine (HM.out).mono ?_
          rintro e w5 ⟨rfl, nb, la, lm, lo, hi, hlo, hlh, hhn, hS5, hg5, hO5⟩
          have hmlo := HE4.out.lo.2
          have HB5 := Lib.hid (HBa.out.trans (grown_to_below hg5 hmlo (by have := hb3.out.size; omega)))
          have hsw : w.heap.size ≤ w5.heap.size := HB5.out.size
          have HDr : Hid (∀ a' c', (n < l.length → a' = ao.map fun x => x.add (n * 5)) → LinesRd (· < w5.heap.size) (.slice a' (l.drop n).length c') (l.drop n) w5) := Lib.hid fun a' c' ha =>
            ((HL.out.stay (Stay.below HB5.out fun _ h => h)).drop n hnl ha).mono fun k hk => Nat.lt_of_lt_of_le hk hsw
          have hl5 := leads_put HE4.out.map.isMap nmCc nb
          have hAl : ∀ k, (lo ≤ k ∧ k < hi) → w.heap.size ≤ k ∧ k < w5.heap.size ∧ Aloof sb mb (upd E nb ⟨2, ⟨#[]⟩, la, (l.take n).length, lm⟩) k := fun k hk => by
            have h1 := HE4.out.lt
            have h2 := HE4.out.mlt
            have h3 := hS5.elt (upd_same _ _ _)
            have h4 := hb3.out.size
            refine ⟨by omega, by omega, by omega, by omega, fun e x he => ?_⟩
            by_cases h : e = nb
            · omega
            · rw [upd_other _ h] at he
              have := HE4.out.elt he
              omega
          have hdl : (l.drop n).length = l.length - n := List.length_drop
          have HAd : Hid (∀ a' c', (n < l.length → a' = ao.map fun x => x.add (n * 5)) → Calls Try.prog 13 #[.pointer (some ⟨sb, 0, none⟩), .string nmCc, .slice a' (l.length - n) c'] w5 (AddP w.heap.size sb mb 3 (D2.put (bkey nmCc) (ptrD (some nb))) (upd E nb ⟨2, ⟨#[]⟩, la, (l.take n).length, lm⟩) nb (fun k => lo ≤ k ∧ k < hi) l w5)) := Lib.hid fun a' c' ha => by
            have := add_old hS5 nmCc nmCc_ok hl5 (upd_same _ _ _) hO5.own hAl a' c' (l.drop n) (HDr.out a' c' ha) (hf.drop n) (linesC_drop HLC.out n) (by rw [hdl, HLT3.out]; omega)
            rw [List.take_append_drop] at this
            rw [← hdl]
            exact this
          clear hS5 hg5 hO5 hAl HM HDr hdl
          go_wp2_with fail
          case inl h =>
            have HA2 := Lib.hid (HAd.out ao 0 (fun h2 => by omega))
            clear h
            refine (HA2.out).mono ?_
            rintro e w7 ⟨rfl, la7, lc7, hS7, hb7, hO7⟩
            have hmx : l.length ≤ maxLen := by unfold maxLen; omega
            have HLn := Lib.hid (lines_mac hS7 (by decide) hl5 (upd_same _ _ _) (hO7.rd hmx).lt hf)
            have HB7 := Lib.hid (HB5.out.trans hb7)
            clear hS7 hb7 hO7 HAd HA2
            go_wp2_with fail
            refine (HLn.out).mono ?_
            rintro e w8 ⟨v8, rfl, hb8, hO8⟩
            have HB8 := Lib.hid (HB7.out.trans (Below.mono hb8 HB7.out.size))
            have hr8 := (hO8.rd hmx).lt
            obtain ⟨la8, lc8, rfl⟩ := hO8.form
            have HSm := Lib.hid (same_any _ _ l w8 hr8 ((HL.out.stay (Stay.below HB8.out fun _ h => h)).cap n).lt)
            clear hb8 hO8 hr8 HLn
            go_wp2_with fail
            refine (HSm.out).mono ?_
            rintro e w9 ⟨rfl, hb9⟩
            have HB9 := Lib.hid (HB8.out.trans (Below.mono hb9 HB8.out.size))
            clear hb9 HSm
            go_wp2_with fail
            refine (sane_any _).mono ?_
            rintro e w10 ⟨rfl, hb10⟩
            go_wp2_with fail
            go_ret
            exact ⟨rfl, HB9.out.trans (Below.mono hb10 HB9.out.size)⟩
          case inr h =>
            have HA2 := Lib.hid (HAd.out (ao.map fun x => x.add (n * 5)) (lc - n) (fun _ => rfl))
            refine (HA2.out).mono ?_
            rintro e w7 ⟨rfl, la7, lc7, hS7, hb7, hO7⟩
            have hmx : l.length ≤ maxLen := by unfold maxLen; omega
            have HLn := Lib.hid (lines_mac hS7 (by decide) hl5 (upd_same _ _ _) (hO7.rd hmx).lt hf)
            have HB7 := Lib.hid (HB5.out.trans hb7)
            clear hS7 hb7 hO7 HAd HA2
            go_wp2_with fail
            refine (HLn.out).mono ?_
            rintro e w8 ⟨v8, rfl, hb8, hO8⟩
            have HB8 := Lib.hid (HB7.out.trans (Below.mono hb8 HB7.out.size))
            have hr8 := (hO8.rd hmx).lt
            obtain ⟨la8, lc8, rfl⟩ := hO8.form
            have HSm := Lib.hid (same_any _ _ l w8 hr8 (HL.out.stay (Stay.below HB8.out fun _ h => h)).lt)
            clear hb8 hO8 hr8 HLn
            go_wp2_with fail
            refine (HSm.out).mono ?_
            rintro e w9 ⟨rfl, hb9⟩
            have HB9 := Lib.hid (HB8.out.trans (Below.mono hb9 HB8.out.size))
            clear hb9 HSm
            go_wp2_with fail
            refine (sane_any _).mono ?_
            rintro e w10 ⟨rfl, hb10⟩
            go_wp2_with fail
            go_ret
            exact ⟨rfl, HB9.out.trans (Below.mono hb10 HB9.out.size)⟩
      · have h300z : (300 : Int) < l.length := by omega
        go_wp2_with fail
        refine (sane_any _).mono ?_
        rintro e w5 ⟨rfl, hb5⟩
        go_wp2_with fail
        go_ret
        exact ⟨rfl, hb3.out.trans (Below.mono hb5 hb3.out.size)⟩
end Go.Proofs.Ytkocgedliakclaa
