/- Write: a line is written, or refused. -/
import Derived.Test.YtejffadjakajcaaDoorRqRead
namespace Go.Proofs.YtejffadjakajcaaDoor
open Go.RowKit Go.PlainAid Go.Shelf

/-- How long some arguments are at most, ax they are written. -/
def totW : List (List UInt8) → Nat
  | [] => 0
  | a :: ax => (2 * a.length + 3) + totW ax
theorem joinW_le : ∀ ax : List (List UInt8), (joinW ax).length ≤ totW ax
  | [] => Nat.le_refl _
  | a :: ax => by
    have h1 := joinW_le ax
    have h2 := wrtL_length a
    show (32 :: (wrtL a ++ joinW ax)).length ≤ (2 * a.length + 3) + totW ax
    simp
    omega
theorem joinW_app : ∀ (ax bs : List (List UInt8)), joinW (ax ++ bs) = joinW ax ++ joinW bs
  | [], bs => rfl
  | a :: ax, bs => by
    show 32 :: (wrtL a ++ joinW (ax ++ bs)) = 32 :: (wrtL a ++ joinW ax) ++ joinW bs
    rw [joinW_app ax bs]
    simp
theorem joinW_take {ax : List (List UInt8)} {k : Nat} {a : List UInt8} (h : ax[k]? = some a) : joinW (ax.take (k + 1)) = joinW (ax.take k) ++ (32 :: wrtL a) := by
  obtain ⟨h1, h2⟩ := List.getElem?_eq_some_iff.1 h
  rw [List.take_succ_eq_append_getElem h1, joinW_app, h2]
  show _ ++ (32 :: (wrtL a ++ [])) = _
  rw [List.append_nil]
theorem totW_take : ∀ (ax : List (List UInt8)) (k : Nat), totW (ax.take k) ≤ totW ax
  | [], k => by simp
  | a :: ax, 0 => by simp [totW]
  | a :: ax, k + 1 => by
    have := totW_take ax k
    show (2 * a.length + 3) + totW (ax.take k) ≤ (2 * a.length + 3) + totW ax
    omega
theorem totW_mem : ∀ {ax : List (List UInt8)} {a : List UInt8}, a ∈ ax → 2 * a.length + 3 ≤ totW ax
  | b :: ax, a, h => by
    show _ ≤ (2 * b.length + 3) + totW ax
    rcases List.mem_cons.1 h with rfl | h
    · omega
    · have := totW_mem h
      omega

/-- What Write gives. -/
def WriteP (name : List UInt8) (ax : List (List UInt8)) (W : World) (e : Ending) (W' : World) : Prop :=
  ∃ s er, e = .returned (.tuple #[strV s, .int .i64 er]) ∧ Below W.heap.size W W' ∧ (er = 0 → s = 46 :: name ++ joinW ax ∧ s.length ≤ 2000 ∧ nameOk name = true ∧ ∀ a ∈ ax, readsB a)

set_option maxRecDepth 100000 in
set_option maxHeartbeats 4000000 in
theorem write_any (name : List UInt8) (v : Value) (ax : List (List UInt8)) (W : World) (hn : name.length ≤ 140737488351232) (hv : TxAt v ax W) (hm : MaxAt W) (hl : ax.length ≤ 1000) (ht : totW ax ≤ 4000) :
    Calls Tryd.prog 19 #[.string (mk8 name), v] W (WriteP name ax W) := by
  have HR0 := Lib.hid (fun w (hb : Below W.heap.size W w) => canRead_any v ax w (hv.below hb) (hm.below hb) (by omega) (fun a ha => by have := totW_mem ha; omega))
  obtain ⟨ao, cap, ba, off, rfl, h1, h2⟩ := hv
  have HV := Lib.hid h2
  have HV1 := Lib.hid h1
  have HM := Lib.hid hm
  have z1 : (mk8 name).size = name.length := mk8_size name
  have hfit : 1 + name.length ≤ 140737488351233 := by omega
  have HA0 : Hid ((⟨#[46]⟩ : ByteArray) ++ mk8 name = mk8 (46 :: name)) := mk8_app [46] name
  have hb0 : Below W.heap.size W (W.alloc (.cells #[.pointer none, .slice none 0 0] 67)) := (Below.refl _ _).alloc (Nat.le_refl _) _
  have HW0 := Lib.hid (write_at W.heap.size W.heap.size [] (46 :: name) (W.alloc (.cells #[.pointer none, .slice none 0 0] 67)) (isB_new W) (by simp; omega) hb0.size)
  have HB0 := Lib.hid hb0
  clear h1 h2 hm hb0
  go_enter Tryd.func19, Tryd.ntmps19
  go_wp2_with fail
  rw [HA0.out]
  refine HW0.out.mono ?_
  rintro e w1 ⟨rfl, hI, hb1⟩
  rw [List.nil_append] at hI
  have HI1 := Lib.hid hI
  have HB1 := Lib.hid (HB0.out.trans hb1)
  clear hI hb1
  go_wp2_with fail
  go_loopw [8, 14] (fun s i wr => ∃ k : Nat, k ≤ ax.length ∧ i = .int .i64 k ∧ Hid (IsB W.heap.size W.heap.size (46 :: name ++ joinW (ax.take k)) wr) ∧ Hid (Below W.heap.size W wr)) (fun _ i _ => ax.length - (intOf i).toNat)
  case atStart => exact ⟨0, by omega, rfl, Lib.hid (by simpa [joinW] using HI1.out), HB1⟩
  case round =>
    obtain ⟨k, hk, rfl, hI, hb⟩ := hrel
    by_cases hlt : k < ax.length
    · obtain ⟨a, hak⟩ : ∃ a, ax[k]? = some a := ⟨_, List.getElem?_eq_getElem hlt⟩
      obtain ⟨rfl, hba⟩ := HV1.out (by omega)
      have c1 := (hb.out.cell (p := ⟨ba, off + k, none⟩) hba).trans (HV.out k a hak)
      have hal : 2 * a.length + 3 ≤ 4000 := Nat.le_trans (totW_mem (List.mem_of_getElem? hak)) ht
      have hwl := wrtL_length a
      have HWr := Lib.hid (written_any a (by omega) wr (HM.out.below hb.out))
      have HA := Lib.hid (show (⟨#[32]⟩ : ByteArray) ++ mk8 (wrtL a) = mk8 (32 :: wrtL a) from mk8_app [32] (wrtL a))
      have hfit2 : 1 + (wrtL a).length ≤ 5000 := by omega
      have hjl : (joinW (ax.take k)).length ≤ 4000 := Nat.le_trans (joinW_le _) (Nat.le_trans (totW_take ax k) ht)
      have hjl2 : (joinW (ax.take k)).length + 1 + (wrtL a).length ≤ 4000 := by
        have h1 := Nat.le_trans (joinW_le (ax.take (k + 1))) (Nat.le_trans (totW_take ax (k + 1)) ht)
        rw [joinW_take hak] at h1
        simp at h1
        omega
      have HWS := Lib.hid (fun w (h1 : IsB W.heap.size W.heap.size (46 :: name ++ joinW (ax.take k)) w) (h2 : W.heap.size ≤ w.heap.size) => write_at W.heap.size W.heap.size (46 :: name ++ joinW (ax.take k)) (32 :: wrtL a) w h1 (by simp; omega) h2)
      have HJ : Hid (46 :: name ++ joinW (ax.take k) ++ (32 :: wrtL a) = 46 :: name ++ joinW (ax.take (k + 1))) := by show _ = _; rw [joinW_take hak]; simp
      have hkz : (k : Int) < ax.length := by omega
      have hk0 : (0 : Int) ≤ k := by omega
      clear hak hal hwl
      go_wp2_with fail
      refine HWr.out.mono ?_
      rintro e w2 ⟨rfl, hb2⟩
      have HI2 := Lib.hid (isB_below hI.out hb2)
      have HB2 := Lib.hid (hb.out.trans (hb2.mono hb.out.size))
      clear hb2
      go_wp2_with fail
      rw [HA.out]
      refine (HWS.out w2 HI2.out HB2.out.size).mono ?_
      rintro e w3 ⟨rfl, hI3, hb3⟩
      rw [HJ.out] at hI3
      have HI3 := Lib.hid hI3
      have HB3 := Lib.hid (HB2.out.trans hb3)
      clear hI3 hb3
      go_wp2_with fail
      go_roundw
      case rel => exact ⟨k + 1, by omega, by go_num, HI3, HB3⟩
      case measure => simp only [intOf]; omega
    · obtain rfl : k = ax.length := by omega
      have hI' : IsB W.heap.size W.heap.size (46 :: name ++ joinW ax) wr := by have := hI.out; rw [List.take_length] at this; exact this
      obtain ⟨line, hline⟩ : ∃ line, 46 :: name ++ joinW ax = line := ⟨_, rfl⟩
      rw [hline] at hI'
      have HI := Lib.hid hI'
      have HL := Lib.hid (len_at W.heap.size W.heap.size line wr hI')
      have HLine := Lib.hid hline
      clear hI hI' hline
      by_cases hlong : 2000 < line.length
      · have d1 : decide ((2000 : Int) < line.length) = true := decide_eq_true (by omega)
        go_wp2_with fail
        refine HL.out.mono ?_
        rintro e w2 ⟨rfl, rfl⟩
        go_wp2_with fail
        go_ret2
        exact ⟨[], 1, rfl, hb.out, fun h => by cases h⟩
      · have d1 : decide ((2000 : Int) < line.length) = false := decide_eq_false (by omega)
        have hnl : name.length ≤ 2000 := by
          have := congrArg List.length HLine.out
          simp at this
          omega
        have HC := Lib.hid (fun w => canName_any name (by omega) w)
        cases hok : nameOk name with
        | false =>
          rw [hok] at HC
          clear hok
          go_wp2_with fail
          refine HL.out.mono ?_
          rintro e w2 ⟨rfl, rfl⟩
          go_wp2_with fail
          refine (HC.out _).mono ?_
          rintro e w2 ⟨rfl, hb2⟩
          have HB2 := Lib.hid (hb.out.trans (hb2.mono hb.out.size))
          clear hb2
          go_wp2_with fail
          go_ret2
          exact ⟨[], 4, rfl, HB2.out, fun h => by cases h⟩
        | true =>
          rw [hok] at HC
          have HOk := Lib.hid hok
          have HS := Lib.hid (fun w (h1 : IsB W.heap.size W.heap.size line w) (h2 : W.heap.size ≤ w.heap.size) => string_at W.heap.size W.heap.size line w h1 h2)
          clear hok
          go_wp2_with fail
          refine HL.out.mono ?_
          rintro e w2 ⟨rfl, rfl⟩
          go_wp2_with fail
          refine (HC.out _).mono ?_
          rintro e w2 ⟨rfl, hb2⟩
          have HB2 := Lib.hid (hb.out.trans (hb2.mono hb.out.size))
          have HI2 := Lib.hid (isB_below HI.out hb2)
          clear hb2
          go_wp2_with fail
          refine (HR0.out w2 HB2.out).mono ?_
          rintro e w3 ⟨b, rfl, hrd, hb3⟩
          have HB3 := Lib.hid (HB2.out.trans (hb3.mono HB2.out.size))
          have HI3 := Lib.hid (isB_below HI2.out hb3)
          have HRd := Lib.hid hrd
          clear hb3 hrd
          cases b with
          | false =>
            go_wp2_with fail
            go_ret2
            exact ⟨[], 4, rfl, HB3.out, fun h => by cases h⟩
          | true =>
            go_wp2_with fail
            refine (HS.out w3 HI3.out HB3.out.size).mono ?_
            rintro e w4 ⟨rfl, hb4⟩
            have HB4 := Lib.hid (HB3.out.trans hb4)
            clear hb4
            go_wp2_with fail
            go_ret2
            exact ⟨line, 0, rfl, HB4.out, fun _ => ⟨HLine.out.symm, by omega, HOk.out, HRd.out (by trivial)⟩⟩
end Go.Proofs.YtejffadjakajcaaDoor
