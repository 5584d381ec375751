/- The document's Lines; the law's look whether texts are the same. -/
import Derived.Test.YtkocgedliakclaaDoorSoText
import Derived.Deep.QuietTactic
import Derived.BigQuiet
namespace Go.Proofs.YtkocgedliakclaaDoor
open Go.RowKit Go.PlainAid Go.Maps Go.Shelf

theorem bt_nl {s : ByteArray} {j : Nat} (hj : j < s.size) : (bt s j == 10) = true ↔ s.data.toList[j]? = some 10 := by
  have hl : j < s.data.toList.length := by rw [← Lib.size_eq]; exact hj
  rw [bt_get hj, List.getElem?_eq_getElem hl, Option.some.injEq, beq_iff_eq]
  constructor
  · intro h; exact UInt8.toNat_inj.1 (Int.ofNat_inj.1 h)
  · intro h; rw [h]; rfl
/-- Strings of one's own read as they lie. -/
theorem own_strs {B : Nat} {v : Value} {l : List ByteArray} {w : World} (h : w.ownsRow B 9 1 v l.length (l.map Value.string)) : StrsRd (B ≤ ·) v l w := by
  rcases id h.2 with ⟨rfl, h0⟩ | ⟨g, cap, cur, rfl, hg, hh, h1, h2, h3, h4⟩
  · exact ⟨none, 0, by rw [h0], by omega, Nat.zero_le _, 0, 0, fun hp => by omega, fun i hi => by omega⟩
  · refine ⟨some ⟨g, 0, none⟩, cap, rfl, h1, h2, g, 0, fun _ => ⟨rfl, hg⟩, fun i hi => ?_⟩
    have e : (l.map Value.string)[i]? = some (.string l[i]) := by rw [List.getElem?_map, List.getElem?_eq_getElem hi]; rfl
    rw [← h4, List.getElem?_take, if_pos (by omega)] at e
    rw [Nat.zero_add]
    simp only [World.cell?, hh]
    simpa using e

def RefLinesP (s : ByteArray) (w : World) (e : Ending) (w' : World) : Prop :=
  ∃ la lc, e = .returned (.slice la (refL s).length lc) ∧ Below w.heap.size w w' ∧ StrsRd (w.heap.size ≤ ·) (.slice la (refL s).length lc) (refL s) w'
set_option maxRecDepth 100000 in
set_option maxHeartbeats 4000000 in
theorem refLines_any (s : ByteArray) (w : World) (hs : s.size ≤ 100000) : Calls Tryd.prog 22 #[.string s] w (RefLinesP s w) := by
  obtain ⟨i0, hi, hz0, hz1, hz2⟩ := info_parts strs_info
  have HI := Lib.hid hi
  have HZ0 := Lib.hid hz0
  have HZ1 := Lib.hid hz1
  have HZ2 := Lib.hid hz2
  have HS := Lib.hid hs
  have hs63 : s.size ≤ 9000000000000000000 := Nat.le_trans hs (by decide)
  have hgb := get_bt s
  have hdl := doneL_len s
  have HDL := Lib.hid hdl
  clear hi hz0 hz1 hz2 hs hdl
  go_enter Tryd.func22, Tryd.ntmps22
  go_wp2_with fail
  go_loopw [3, 4, 5] (fun v f i wr => ∃ j : Nat, j ≤ s.size ∧ i = .int .i64 j ∧ f = .int .i64 (doneL s j).2 ∧ Hid (wr.ownsRow w.heap.size 9 1 v (doneL s j).1.length ((doneL s j).1.map Value.string)) ∧ Hid (Below w.heap.size w wr)) (fun _ _ i _ => s.size - (intOf i).toNat)
  case atStart => exact ⟨0, by omega, rfl, rfl, World.ownsRow_nil .., Below.refl _ _⟩
  case round =>
    obtain ⟨j, hj, rfl, rfl, hown, hb⟩ := hrel
    obtain ⟨hf1, hf2⟩ := doneL_from s j
    obtain ⟨f, hf⟩ : ∃ f, (doneL s j).2 = f := ⟨_, rfl⟩
    rw [hf] at hf1 ⊢
    have HFF := Lib.hid hf
    clear hf2 hf
    by_cases hlt : j < s.size
    · have hbt := bt_nl hlt
      have hjz : (j : Int) < s.size := by omega
      have hjn : (0 : Int) ≤ j := by omega
      have hfz : (f : Int) ≤ j := by omega
      have hfn : (0 : Int) ≤ f := by omega
      cases hc : (bt s j == 10) with
      | true =>
        have HD := Lib.hid (show doneL s (j + 1) = ((doneL s j).1 ++ [s.extract f j], j + 1) by
          rw [← HFF.out]
          show (if s.data.toList[j]? = some 10 then _ else _) = _
          rw [if_pos (hbt.1 hc)])
        have HN := Lib.hid (show (doneL s j).1.length + 1 ≤ 100001 by have := HDL.out j; have := HS.out; omega)
        have HW := Lib.hid (show w.heap.size ≤ wr.heap.size from hb.out.size)
        clear hbt
        go_wp2_with (at_builtin; refine wpList_append_own _ rfl _ _ 23 rfl w.heap.size 9 i0 _ 1 16 Tryd.underlying23 HI.out HZ0.out HZ1.out HZ2.out rfl (by decide) _ _ _ rfl (own_below hown.out ((Below.refl _ _).alloc (Nat.le_refl _) _)) ⟨wr.heap.size, 0, none⟩ 1 1 [.string (s.extract f j)] rfl ?qc1 ?qc2 ?qc3 ?qc4 ?qc5 ?qc6 ?_)
        case qc1 => rfl
        case qc2 => exact new_cells rfl _ _
        case qc3 => simp [Value.oneCell']
        case qc4 => have := HN.out; unfold maxLen; omega
        case qc5 => have := HN.out; omega
        case qc6 => simp; have := HW.out; omega
        intro v' w2 hown2 hgrow hnil
        obtain ⟨ao, c', hv⟩ := own_form hown2
        subst hv
        have HO2 := Lib.hid (show w2.ownsRow w.heap.size 9 1 (.slice ao ((doneL s j).1.length + 1) c') (doneL s (j + 1)).1.length ((doneL s (j + 1)).1.map Value.string) by
          rw [HD.out]
          simp only [List.length_append, List.length_cons, List.length_nil, Nat.zero_add, List.map_append, List.map_cons, List.map_nil]
          exact hown2)
        have HB2 := Lib.hid ((hb.out.trans (((Below.refl wr.heap.size wr).alloc (Nat.le_refl _) _).mono hb.out.size)).trans (grown_low hgrow (fun k hk => own_lo hown.out hk) (by have := HW.out; simp; omega)))
        have HF2 := Lib.hid (show (doneL s (j + 1)).2 = j + 1 by rw [HD.out])
        clear hown2 hgrow hnil hown hb HD
        go_wp2_with fail
        go_roundw
        case rel => exact ⟨j + 1, by omega, by go_num, by rw [HF2.out]; go_num, HO2, HB2⟩
        case measure => simp only [intOf]; omega
      | false =>
        have HD := Lib.hid (show doneL s (j + 1) = doneL s j by
          show (if s.data.toList[j]? = some 10 then _ else _) = _
          rw [if_neg (fun e => by rw [hbt.2 e] at hc; cases hc)])
        clear hbt
        go_wp2_with fail
        go_roundw
        case rel => exact ⟨j + 1, by omega, by go_num, by rw [HD.out, HFF.out], by rw [HD.out]; exact hown, hb⟩
        case measure => simp only [intOf]; omega
    · obtain rfl : j = s.size := by omega
      by_cases hfs : f < s.size
      · have HR := Lib.hid (show refL s = (doneL s s.size).1 ++ [s.extract f s.size] by unfold refL; rw [HFF.out, if_pos hfs])
        have HN := Lib.hid (show (doneL s s.size).1.length + 1 ≤ 100001 by have := HDL.out s.size; have := HS.out; omega)
        have HW := Lib.hid (show w.heap.size ≤ wr.heap.size from hb.out.size)
        have hfz : (f : Int) < s.size := by omega
        have hfn : (0 : Int) ≤ f := by omega
        go_wp2_with (at_builtin; refine wpList_append_own _ rfl _ _ 23 rfl w.heap.size 9 i0 _ 1 16 Tryd.underlying23 HI.out HZ0.out HZ1.out HZ2.out rfl (by decide) _ _ _ rfl (own_below hown.out ((Below.refl _ _).alloc (Nat.le_refl _) _)) ⟨wr.heap.size, 0, none⟩ 1 1 [.string (s.extract f s.size)] rfl ?qc1 ?qc2 ?qc3 ?qc4 ?qc5 ?qc6 ?_)
        case qc1 => rfl
        case qc2 => exact new_cells rfl _ _
        case qc3 => simp [Value.oneCell']
        case qc4 => have := HN.out; unfold maxLen; omega
        case qc5 => have := HN.out; omega
        case qc6 => simp; have := HW.out; omega
        intro v' w2 hown2 hgrow hnil
        obtain ⟨ao, c', hv⟩ := own_form hown2
        subst hv
        have HO2 := Lib.hid (show w2.ownsRow w.heap.size 9 1 (.slice ao ((doneL s s.size).1.length + 1) c') (refL s).length ((refL s).map Value.string) by
          rw [HR.out]
          simp only [List.length_append, List.length_cons, List.length_nil, Nat.zero_add, List.map_append, List.map_cons, List.map_nil]
          exact hown2)
        have HB2 := Lib.hid ((hb.out.trans (((Below.refl wr.heap.size wr).alloc (Nat.le_refl _) _).mono hb.out.size)).trans (grown_low hgrow (fun k hk => own_lo hown.out hk) (by have := HW.out; simp; omega)))
        have HL2 := Lib.hid (show (refL s).length = (doneL s s.size).1.length + 1 by rw [HR.out]; simp)
        clear hown2 hgrow hnil hown hb
        go_wp2_with fail
        go_ret
        refine ⟨ao, c', by rw [HL2.out]; rfl, HB2.out, ?_⟩
        have := own_strs HO2.out
        rw [HL2.out]
        exact this
      · have HR := Lib.hid (show refL s = (doneL s s.size).1 by unfold refL; rw [HFF.out, if_neg hfs])
        obtain ⟨ao, c', hv⟩ := own_form hown.out
        subst hv
        have hfz : ¬ (f : Int) < s.size := by omega
        go_wp2_with fail
        go_ret
        refine ⟨ao, c', by rw [HR.out]; rfl, hb.out, ?_⟩
        rw [HR.out]
        exact own_strs hown.out

set_option maxRecDepth 100000 in
set_option maxHeartbeats 2000000 in
theorem texts_same (v u : Value) (l : List ByteArray) (w : World) (h : StrsRd (· < w.heap.size) v l w) (k : StrsRd (· < w.heap.size) u l w) : Calls Tryd.prog 21 #[v, u] w (Makes (.bool true) w) := by
  obtain ⟨ao, ac, rfl, hl, hm, h1⟩ := h
  obtain ⟨uo, uc, rfl, _, _, k1⟩ := k
  have hl63 : l.length ≤ 9223372036854775807 := by unfold maxLen at hm; omega
  have HA := Lib.hid h1
  have HB := Lib.hid k1
  clear h1 k1 hl hm
  go_enter Tryd.func21, Tryd.ntmps21
  go_wp2_with fail
  go_loopw [5] (fun i wr => ∃ j : Nat, j ≤ l.length ∧ i = .int .i64 j ∧ Hid (Below w.heap.size w wr)) (fun i _ => l.length - (intOf i).toNat)
  case atStart => exact ⟨0, by omega, rfl, Below.refl _ _⟩
  case round =>
    obtain ⟨j, hj, rfl, hb⟩ := hrel
    by_cases hlt : j < l.length
    · obtain ⟨b, off, h1, h2⟩ := HA.out
      obtain ⟨c, ofg, k1, k2⟩ := HB.out
      obtain ⟨rfl, hbl⟩ := h1 (by omega)
      obtain ⟨rfl, hcl⟩ := k1 (by omega)
      have c0 := h2 j hlt
      have d0 := k2 j hlt
      rw [← hb.out.cell (p := ⟨b, _, none⟩) hbl] at c0
      rw [← hb.out.cell (p := ⟨c, _, none⟩) hcl] at d0
      obtain ⟨z, hz⟩ : ∃ z, l[j] = z := ⟨_, rfl⟩
      rw [hz] at c0 d0
      clear hz
      have hlz : (j : Int) < l.length := by omega
      have hjz : (0 : Int) ≤ j := by omega
      have hlt' := Lib.hid hlt
      clear h1 h2 k1 k2 hlt
      go_wp2_with fail
      go_quiet (fail)
      have hb1 := Lib.hid (show Below w.heap.size w (wr.drewN nq) from ⟨hb.out.os, hb.out.tape, hb.out.output, hb.out.size, hb.out.block⟩)
      clear c0 d0 hb HA HB
      go_wp2_with fail
      go_roundw
      case rel => exact ⟨j + 1, by have := hlt'.out; omega, by go_num, hb1⟩
      case measure => have := hlt'.out; simp only [intOf]; omega
    · go_wp2_with fail
      go_ret
      exact ⟨rfl, hb.out⟩
end Go.Proofs.YtkocgedliakclaaDoor
