/- Whether a name and arguments are read again. -/
import Derived.Test.YtejffadjakajcaaDoorRqWrite
import Derived.Shelf.Slices.Equal
namespace Go.Proofs.YtejffadjakajcaaDoor
open Go.RowKit Go.PlainAid Go.Shelf

set_option maxRecDepth 100000 in
set_option maxHeartbeats 2000000 in
theorem canName_any (l : List UInt8) (hl : l.length ≤ 100000) (W : World) : Calls Tryd.prog 38 #[.string (mk8 l)] W (Makes (.bool (nameOk l)) W) := by
  by_cases h0 : l = []
  · have e1 : l.isEmpty = true := by rw [h0]; rfl
    have hv : nameOk l = false := by unfold nameOk; rw [e1]; rfl
    rw [hv]
    clear h0 hv
    go_enter Tryd.func38, Tryd.ntmps38
    go_wp2_with fail
    go_ret
    exact ⟨rfl, Below.refl _ _⟩
  · have e1 : l.isEmpty = false := List.isEmpty_eq_false_iff.2 h0
    have HC := Lib.hid (fun w => contains_any (mk8 l) ⟨#[32, 9, 10]⟩ w (by decide) (by decide) cut_three (by rw [mk8_size]; omega))
    have hcb : Lib.containsAny (mk8 l).data.toList (⟨#[32, 9, 10]⟩ : ByteArray).data.toList = l.any badB := contains_bad l
    rw [hcb] at HC
    have hv : nameOk l = !l.any badB := by unfold nameOk; rw [e1]; rfl
    rw [hv]
    obtain ⟨b, hb⟩ : ∃ b, l.any badB = b := ⟨_, rfl⟩
    rw [hb] at HC ⊢
    clear h0 hv hb hcb
    go_enter Tryd.func38, Tryd.ntmps38
    go_wp2_with fail
    refine (HC.out _).mono ?_
    rintro e w1 ⟨rfl, hb⟩
    go_wp2_with fail
    go_ret
    exact ⟨rfl, hb⟩

theorem mk8_inj {a b : List UInt8} : mk8 a = mk8 b ↔ a = b := ⟨fun h => by have := congrArg (fun x : ByteArray => x.data.toList) h; simpa using this, fun h => by rw [h]⟩
theorem getD_txt (xs : List (List UInt8)) (j : Nat) (h : j < xs.length) : (xs.map mk8).getD j ByteArray.empty = mk8 (xs[j]) := by
  rw [List.getD_eq_getElem?_getD, List.getElem?_map, List.getElem?_eq_getElem h]
  rfl
/-- slices.Equal of a row of texts and of one text in a new block. -/
theorem equal_one (v : Value) (ws : List (List UInt8)) (a : List UInt8) (g : Nat) (W : World) (hv : TxAt v ws W) (hl : ws.length ≤ 100000) (hg : W.cell? ⟨g, 0, none⟩ = some (strV a)) :
    Calls Tryd.prog 63 #[v, .slice (some ⟨g, 0, none⟩) 1 1] W (Makes (.bool (decide (ws = [a]))) W) := by
  obtain ⟨ao, cap, b, off, rfl, h1, h2⟩ := hv
  by_cases hz : ws.length = 0
  · obtain rfl : ws = [] := List.eq_nil_of_length_eq_zero hz
    refine (Any.slices_Equal_string_empty Tryd.equalL ao (some ⟨g, 0, none⟩) cap 1 1 W (by omega)).mono fun e w' ⟨e1, e2⟩ => ⟨by rw [e1]; simp, by rw [e2]; exact Below.refl _ _⟩
  · obtain ⟨rfl, hb⟩ := h1 (by omega)
    refine (Any.slices_Equal_string Tryd.equalL b off ws.length cap g 0 1 1 (ws.map mk8) [mk8 a] W (by simp) (by simp) (by omega) (by omega)
      (fun j hj => by
        rw [List.length_map] at hj
        rw [getD_txt ws j hj]
        exact h2 j _ (List.getElem?_eq_getElem hj))
      (fun j hj => by
        obtain rfl : j = 0 := by simp at hj; omega
        exact hg)).mono fun e w' ⟨e1, q, e2⟩ => ⟨?_, by rw [e2]; exact below_drewN (Below.refl _ _) _⟩
    rw [e1]
    congr 2
    have : (ws.map mk8).take ws.length = ws.map mk8 := List.take_of_length_le (by simp)
    rw [this]
    rw [Bool.eq_iff_iff, decide_eq_true_eq, decide_eq_true_eq]
    constructor
    · intro h
      match ws, h with
      | [x], h => injection h with h _; rw [mk8_inj.1 h]
    · intro h; rw [h]; rfl
/-- What an argument must be to be read again. -/
def readsB (a : List UInt8) : Prop := Lib.indexByte a 10 < 0 ∧ Wds (wrtL a) [a]

set_option maxRecDepth 100000 in
set_option maxHeartbeats 4000000 in
theorem canRead_any (v : Value) (ax : List (List UInt8)) (W : World) (hv : TxAt v ax W) (hm : MaxAt W) (hl : ax.length ≤ 100000) (hsz : ∀ a ∈ ax, a.length ≤ 10000) :
    Calls Tryd.prog 39 #[v] W (fun e W' => ∃ b, e = .returned (.bool b) ∧ (b = true → ∀ a ∈ ax, readsB a) ∧ Below W.heap.size W W') := by
  obtain ⟨ao, cap, ba, off, rfl, h1, h2⟩ := hv
  have HV := Lib.hid h2
  have HV1 := Lib.hid h1
  have HM := Lib.hid hm
  have HSz := Lib.hid hsz
  clear h1 h2 hm hsz
  go_enter Tryd.func39, Tryd.ntmps39
  go_wp2_with fail
  go_loopw [4, 7] (fun s i wr => ∃ k : Nat, k ≤ ax.length ∧ i = .int .i64 k ∧ Hid (∀ j a, j < k → ax[j]? = some a → readsB a) ∧ Hid (Below W.heap.size W wr)) (fun _ i _ => ax.length - (intOf i).toNat)
  case atStart => exact ⟨0, by omega, rfl, fun j a hj => absurd hj (Nat.not_lt_zero _), Below.refl _ _⟩
  case round =>
    obtain ⟨k, hk, rfl, hsm, hb⟩ := hrel
    by_cases hlt : k < ax.length
    · obtain ⟨a, hak⟩ : ∃ a, ax[k]? = some a := ⟨_, List.getElem?_eq_getElem hlt⟩
      obtain ⟨rfl, hba⟩ := HV1.out (by omega)
      have c1 := (hb.out.cell (p := ⟨ba, off + k, none⟩) hba).trans (HV.out k a hak)
      have hal := HSz.out a (List.mem_of_getElem? hak)
      have HC := Lib.hid (fun w => contains_lf a w)
      have hkz : (k : Int) < ax.length := by omega
      have hk0 : (0 : Int) ≤ k := by omega
      by_cases hlf : 0 ≤ Lib.indexByte a 10
      · rw [decide_eq_true hlf] at HC
        clear hsm hlf hak
        go_wp2_with fail
        refine (HC.out _).mono ?_
        rintro e w1 ⟨rfl, rfl⟩
        go_wp2_with fail
        go_ret
        exact ⟨false, rfl, fun h => (by cases h), hb.out⟩
      · rw [decide_eq_false hlf] at HC
        have hwl := wrtL_length a
        have HWr := Lib.hid (written_any a hal wr (HM.out.below hb.out))
        have HWo := Lib.hid (fun w => words_any (wrtL a) (by omega) w)
        have HN : Hid (Lib.indexByte a 10 < 0) := by show _ < _; omega
        have hwb : (wrtL a).length ≤ 30000 := by omega
        have HA := Lib.hid hak
        clear hlf hak hal
        go_wp2_with fail
        refine (HC.out _).mono ?_
        rintro e w1 ⟨rfl, rfl⟩
        go_wp2_with fail
        refine HWr.out.mono ?_
        rintro e w1 ⟨rfl, hb1⟩
        have HB1 := Lib.hid (hb.out.trans (hb1.mono hb.out.size))
        clear hb1
        go_wp2_with fail
        refine (HWo.out w1).mono ?_
        rintro e w2 ⟨u, ws, rfl, hwd, hwn, hown, hb2⟩
        have HB2 := Lib.hid (HB1.out.trans (hb2.mono HB1.out.size))
        have HT := Lib.hid ((tx_own hown).below ((Below.refl w2.heap.size w2).alloc (o := .cells #[strV a] 9) (Nat.le_refl _)))
        have HE := Lib.hid (equal_one u ws a w2.heap.size (w2.alloc (.cells #[strV a] 9)) HT.out (by omega) (cell_new _ _ _))
        have HB3 := Lib.hid (HB2.out.alloc HB2.out.size (.cells #[strV a] 9))
        have HW := Lib.hid hwd
        obtain ⟨uo, uc, rfl⟩ := own_form hown
        clear hb2 hwd hown
        by_cases hq : ws = [a]
        · rw [decide_eq_true hq] at HE
          have HS : Hid (∀ j x, j < k + 1 → ax[j]? = some x → readsB x) := fun j x hj hx => by
            by_cases e : j = k
            · subst e
              obtain rfl : a = x := Option.some.inj (HA.out.symm.trans hx)
              exact ⟨HN.out, by rw [← hq]; exact hq ▸ HW.out⟩
            · exact hsm.out j x (by omega) hx
          clear hsm hq
          go_wp2_with fail
          refine HE.out.mono ?_
          rintro e w3 ⟨rfl, hb3⟩
          have HB4 := Lib.hid (HB3.out.trans (hb3.mono HB3.out.size))
          clear hb3
          go_wp2_with fail
          go_roundw
          case rel => exact ⟨k + 1, by omega, by go_num, HS, HB4⟩
          case measure => simp only [intOf]; omega
        · rw [decide_eq_false hq] at HE
          clear hsm hq
          go_wp2_with fail
          refine HE.out.mono ?_
          rintro e w3 ⟨rfl, hb3⟩
          have HB4 := Lib.hid (HB3.out.trans (hb3.mono HB3.out.size))
          clear hb3
          go_wp2_with fail
          go_ret
          exact ⟨false, rfl, fun h => (by cases h), HB4.out⟩
    · obtain rfl : k = ax.length := by omega
      have HS : Hid (∀ a ∈ ax, readsB a) := fun a ha => by
        obtain ⟨j, hj⟩ := List.getElem?_of_mem ha
        exact hsm.out j a (List.getElem?_eq_some_iff.1 hj).1 hj
      clear hsm
      go_wp2_with fail
      go_ret
      exact ⟨true, rfl, fun _ => HS.out, hb.out⟩
end Go.Proofs.YtejffadjakajcaaDoor
