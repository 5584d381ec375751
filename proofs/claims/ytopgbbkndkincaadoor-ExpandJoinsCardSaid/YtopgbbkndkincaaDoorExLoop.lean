/- A text is expanded: its loop. -/
import Derived.Test.YtopgbbkndkincaaDoorExAns
import Derived.Laws.IdiomStrings
import Derived.Laws.BytesArg
namespace Go.Proofs.YtopgbbkndkincaaDoor
open Go.RowKit Go.PlainAid Go.Lib

def strSize : Value → Nat
  | .string s => s.size
  | _ => 0
section
variable {A : Asker} {x : Nat} {cm : Bool} {a b : Nat} {W0 W W1 : World} {v v' : Value} {t u : ByteArray}
/-- The row as a string. -/
theorem Row.back {B : Nat} (h : Row A x B v t W) : (convert 40 9 v).run Tryd.prog W = .ok (.string t) W := by
  rcases h.own.2 with ⟨rfl, h2⟩ | ⟨g, cap, cur, rfl, h2, h3, h4⟩
  · have hz : t = ByteArray.empty := by
      apply ByteArray.ext
      have : t.data.size = 0 := h2
      exact Array.eq_empty_of_size_eq_zero this
    rw [hz]
    exact run_convert_bytes_nil (P := Tryd.prog) W 40 5 Tryd.underlying40 Tryd.underlying5 0 0 9 Tryd.underlying9
  · have hl : t.data.toList.length = t.size := (Lib.size_eq t).symm
    have := run_convert_bytes_back (P := Tryd.prog) W 40 9 5 ⟨g, 0, none⟩ cap t.data.toList Tryd.underlying40 Tryd.underlying5 Tryd.underlying9 (fun j hj => by
      have hc := h.own.cells (g := g) rfl j (.int .u8 (t.data.toList[j].toNat : Int)) (by
        unfold strCells
        rw [List.getElem?_map, List.getElem?_eq_getElem hj]
        rfl)
      exact hc)
    rw [hl] at this
    rw [this]
end

theorem own_form {B n size : Nat} {e : TypeId} {v : Value} {xs : List Value} {W : World} (h : W.ownsRow B e size v n xs) : ∃ ao c, v = .slice ao n c := by
  rcases h.2 with ⟨h1, h2⟩ | ⟨g, c, _, h1, _⟩
  · exact ⟨none, 0, by rw [h1, h2]⟩
  · exact ⟨_, c, h1⟩

/-- What holds at each piece. -/
structure At (A : Asker) (x : Nat) (cm : Bool) (a : Nat) (s : ByteArray) (W : World) (v : Value) (rest : ByteArray) (wr : World) (acc : ByteArray) (b : Nat) : Prop where
  i : In A x cm b W wr
  r : Row A x W.heap.size v acc wr
  le : acc.size + rest.size ≤ s.size
  ex : ∀ o, Ex A.r cm acc rest b o → Ex A.r cm ⟨#[]⟩ s a o

section
variable {A : Asker} {x : Nat} {cm : Bool} {a b : Nat} {W wr : World} {v : Value} {s rest acc : ByteArray}
set_option maxRecDepth 100000 in
set_option maxHeartbeats 4000000 in
theorem expand_of (n : Nat) (ih : ∀ m, m < n → ExC A m) : ExC A n := by
  intro s x cm a W hsn hs8 hI
  have HI := Lib.hid hI
  have HSN := Lib.hid hsn
  clear hI hsn
  go_enter Tryd.func22, Tryd.ntmps22
  go_wp2_with fail
  go_loopw [1, 5] (fun sv v wr => ∃ rest acc b, sv = .string rest ∧ Hid (At A x cm a s W v rest wr acc b)) (fun sv _ _ => strSize sv)
  case atStart => exact ⟨s, ⟨#[]⟩, a, rfl, ⟨HI.out, Row.nil _, Nat.le_of_eq (Nat.zero_add _), fun o h => h⟩⟩
  case round =>
    obtain ⟨rest, acc, b, rfl, hat⟩ := hrel
    rcases Nat.eq_zero_or_pos rest.size with hz | hz
    · have he := isEmpty_yes hz
      have hback := hat.out.r.back
      have HE := Lib.hid (hat.out.ex _ (.done hz))
      clear hz
      go_wp2_with fail
      go_ret
      exact ⟨_, HE.out, rfl, hat.out.i⟩
    · have he := isEmpty_no hz
      obtain ⟨c0, c1, c2, f0⟩ := hat.out.i.cells
      have hlr : rest.size ≤ 8000 := by have := hat.out.le; omega
      have HF := Lib.hid (first_any rest (by omega) hz cm)
      have HOK := Lib.hid (first_ok hz cm)
      have HX : Hid (∀ o, Ex A.r cm acc rest b o → Ex A.r cm ⟨#[]⟩ s a o) := hat.out.ex
      clear c0 c2 f0
      go_wp2_with fail
      refine (HF.out _).mono ?_
      rintro e w1 ⟨rfl, hb1⟩
      obtain ⟨p, hp⟩ : ∃ p, firstM rest cm = p := ⟨_, rfl⟩
      rw [hp] at HOK ⊢
      have hb2 : Below wr.heap.size wr (w1.alloc (pbox p)) := hb1.alloc hb1.size _
      have hbx : (w1.alloc (pbox p)).heap[w1.heap.size]? = some (pboxA p) := heap_alloc_new _ _
      have HI2 := Lib.hid (hat.out.i.below hb2)
      have HR2 := Lib.hid (hat.out.r.below hat.out.i hb2)
      have HP := Lib.hid hp
      have HLE := Lib.hid hat.out.le
      obtain ⟨g, hg⟩ : ∃ g, w1.heap.size = g := ⟨_, rfl⟩
      clear hb1 hb2 hp c1 hat
      obtain ⟨k, nm, st, sz⟩ := p
      have l1 : 1 ≤ sz := HOK.out.pos
      have l2 : sz ≤ rest.size := HOK.out.le
      have HK := Lib.hid HOK.out.kind
      have HIH : Hid (k = 119 → ExC A nm.size) := fun _ => ih _ (by have h1 : nm.size < sz := HOK.out.inner; have := HSN.out; have := HLE.out; omega)
      have HNM : Hid (nm.size ≤ 8000) := by have h1 : nm.size < sz := HOK.out.inner; show nm.size ≤ 8000; omega
      go_wp2_with fail
      obtain ⟨w2, hw2⟩ : ∃ w2, w1.alloc (pbox ⟨k, nm, st, sz⟩) = w2 := ⟨_, rfl⟩
      rw [hg] at hbx
      rw [hw2] at HI2 HR2 hbx
      simp only [pbox] at hw2
      simp only [hw2]
      have c0 : w2.cell? ⟨g, 0, none⟩ = some (.int .u8 k) := by unfold World.cell?; rw [hbx]; rfl
      have c1 : w2.cell? ⟨g, 1, none⟩ = some (.string nm) := by unfold World.cell?; rw [hbx]; rfl
      have c2 : w2.cell? ⟨g, 2, none⟩ = some (.int .i64 st) := by unfold World.cell?; rw [hbx]; rfl
      have c3 : w2.cell? ⟨g, 3, none⟩ = some (.int .i64 sz) := by unfold World.cell?; rw [hbx]; rfl
      clear hg hw2 hbx
      go_quiet (fail)
      have HI3 := Lib.hid (HI2.out.below (below_drewN (Below.refl _ _) nq))
      have HR3 := Lib.hid (HR2.out.below HI2.out (below_drewN (Below.refl _ _) nq))
      clear HI2 HR2
      have HTS : Hid ((rest.extract sz rest.size).size = rest.size - sz) := tail_size rest sz
      have hl3 : (rest.extract sz rest.size).size ≤ 8000 := by rw [HTS.out]; omega
      have hal : acc.size + (rest.extract sz rest.size).size ≤ 8000 - sz := by rw [HTS.out]; have := HLE.out; omega
      have hrs := A.small
      have hal2 : acc.size + (rest.size - sz) ≤ 8000 - sz := by have := HLE.out; omega
      have hBW := HI3.out.size
      have meas : Hid (strSize (.string (rest.extract sz rest.size)) < strSize (.string rest)) := by show (rest.extract sz rest.size).size < rest.size; rw [HTS.out]; omega
      have hac : acc.size ≤ 8000 := by have := HLE.out; omega
      rcases HK.out with hk | hk | hk | hk | hk | hk
      · have hk : k = 0 := hk
        subst hk
        have hcm := HI3.out.cells.2.1
        have HW := Lib.hid (written_any (x := x) cm (rest.extract 0 sz) (w2.drewN nq) hcm)
        have hwl : (writM cm (rest.extract 0 sz)).size ≤ sz := by
          have h1 := writM_le cm (rest.extract 0 sz)
          rw [ByteArray.size_extract] at h1
          omega
        have HRL : Hid (∀ v' w', w'.ownsRow W.heap.size 5 1 v' (acc.size + (writM cm (rest.extract 0 sz)).size) (strCells acc ++ strCells (writM cm (rest.extract 0 sz))) → (w2.drewN nq).grownBy w' u5.ownBlock → (v'.ownBlock = u5.ownBlock ∨ v'.ownBlock = some (w2.drewN nq).heap.size) →
            At A x cm a s W v' (rest.extract sz rest.size) w' (acc ++ writM cm (rest.extract 0 sz)) b) := fun v' w' h1 h2 h3 => by
          obtain ⟨q1, q2⟩ := HR3.out.grown HI3.out h1 h2 h3
          refine ⟨q2, q1, ?_, fun o ho => HX.out o (.stay hz (by rw [HP.out]) ?_)⟩
          · rw [ByteArray.size_append, HTS.out]
            have := HLE.out
            omega
          · rw [HP.out]; exact ho
        obtain ⟨t, ht⟩ : ∃ t, writM cm (rest.extract 0 sz) = t := ⟨_, rfl⟩
        rw [ht] at HW hwl HRL
        clear hcm ht HX c1 c2 c3 HIH HNM HLE
        go_wp2_with fail
        refine HW.out.mono ?_
        rintro e w3 ⟨rfl, rfl⟩
        go_wp2_with (at_builtin; refine wpList_str rfl (.tmp 31) (.tmp 34) rfl rfl rfl _ rfl HR3.out.own (by omega) hBW ?_; intro v' w' h1 h2 h3; have HA := Lib.hid (HRL.out v' w' h1 h2 h3); clear h1 h2 h3)
        go_roundw
        case rel => exact ⟨_, _, _, rfl, HA⟩
        case measure => exact meas.out
      · have hk : k = 34 := hk
        subst hk
        have HA : Hid (At A x cm a s W u5 (rest.extract sz rest.size) (w2.drewN nq) acc b) := by
          refine ⟨HI3.out, HR3.out, (by rw [HTS.out]; have := HLE.out; omega), fun o ho => ?_⟩
          have e : sz = rest.size := (HOK.out.cut rfl).2
          have := ho.empty (by rw [HTS.out]; omega)
          subst this
          exact HX.out _ (.rem hz (by rw [HP.out]))
        clear HX HIH HNM HLE HP HOK c1 c2 c3
        go_wp2_with fail
        go_roundw
        case rel => exact ⟨_, _, _, rfl, HA⟩
        case measure => exact meas.out
      · have hk : k = 110 := hk
        subst hk
        have HAN := Lib.hid (ans_any ⟨110, nm, st, sz⟩ HNM.out HIH.out HI3.out.again)
        have HNO : Hid (AnsR A.r cm ⟨110, nm, st, sz⟩ b none → Ex A.r cm ⟨#[]⟩ s a none) := fun h => HX.out _ (ans_none hz HP.out (show (110 : Int) ≠ 0 by decide) (show (110 : Int) ≠ 34 by decide) h)
        have HYE : Hid (∀ b' w3 v' w', AnsR A.r cm ⟨110, nm, st, sz⟩ b (some b') → In A x cm b' (w2.drewN nq) w3 → w'.ownsRow W.heap.size 5 1 v' (acc.size + A.r.size) (strCells acc ++ strCells A.r) → w3.grownBy w' u5.ownBlock → (v'.ownBlock = u5.ownBlock ∨ v'.ownBlock = some w3.heap.size) →
            At A x cm a s W v' (rest.extract sz rest.size) w' (acc ++ A.r) b') := fun b' w3 v' w' h0 hi h1 h2 h3 => by
          obtain ⟨q1, q2⟩ := (HR3.out.keep hi).grown (HI3.out.trans hi) h1 h2 h3
          refine ⟨q2, q1, ?_, fun o ho => HX.out o (ans_num hz HP.out (by simp) h0 ho)⟩
          rw [ByteArray.size_append, HTS.out]
          have := HLE.out
          have h3s : 3 ≤ sz := HOK.out.asks (show (110 : Int) ≠ 0 by decide) (show (110 : Int) ≠ 34 by decide)
          omega
        have h3s : 3 ≤ sz := HOK.out.asks (show (110 : Int) ≠ 0 by decide) (show (110 : Int) ≠ 34 by decide)
        clear HX HIH HNM HLE HP HOK
        go_wp2_with fail
        refine HAN.out.mono ?_
        rintro e w3 ⟨o, hA, hO⟩
        rcases o with _ | b'
        · obtain ⟨rfl, b', hI⟩ := hO
          have HE := Lib.hid (HNO.out hA)
          have HI4 := Lib.hid (HI3.out.trans hI)
          clear hA hI
          go_wp2_with fail
          exact ⟨rfl, none, HE.out, rfl, b', HI4.out⟩
        · obtain ⟨rfl, hI⟩ := hO
          have HA := Lib.hid hA
          have HI4 := Lib.hid hI
          have HR4 := Lib.hid (HR3.out.keep hI)
          have hBW4 : W.heap.size ≤ w3.heap.size := Nat.le_trans HI3.out.size hI.size
          clear hA hI c0 c1 c2 c3
          go_wp2_with (at_builtin; refine wpList_str rfl (.tmp 42) (.tmp 43) rfl rfl rfl _ rfl HR4.out.own (by omega) hBW4 ?_; intro v' w' h1 h2 h3; have HAT := Lib.hid (HYE.out b' w3 v' w' HA.out HI4.out h1 h2 h3); obtain ⟨ao, c, hv'⟩ := own_form h1; clear h1 h2 h3; subst hv')
          refine (fit_any _ _ (by omega) (by omega) (by omega) _).mono ?_
          rintro e w4 ⟨rfl, rfl⟩
          go_wp2_with fail
          go_roundw
          case rel => exact ⟨_, _, _, rfl, HAT⟩
          case measure => exact meas.out
      · have hk : k = 42 := hk
        subst hk
        have HAN := Lib.hid (ans_any ⟨42, nm, st, sz⟩ HNM.out HIH.out HI3.out.again)
        have HNO : Hid (AnsR A.r cm ⟨42, nm, st, sz⟩ b none → Ex A.r cm ⟨#[]⟩ s a none) := fun h => HX.out _ (ans_none hz HP.out (show (42 : Int) ≠ 0 by decide) (show (42 : Int) ≠ 34 by decide) h)
        have h3s : 3 ≤ sz := HOK.out.asks (show (42 : Int) ≠ 0 by decide) (show (42 : Int) ≠ 34 by decide)
        have HRS : Hid ((A.r ++ rest.extract sz rest.size).size = A.r.size + (rest.size - sz)) := by show (A.r ++ rest.extract sz rest.size).size = _; rw [ByteArray.size_append, HTS.out]
        have hfit : acc.size + (A.r ++ rest.extract sz rest.size).size ≤ 8000 := by rw [HRS.out]; have := HLE.out; omega
        have hfit2 : acc.size + (A.r.size + (rest.size - sz)) ≤ 8000 := by have := HLE.out; omega
        have meas2 : Hid (strSize (.string (A.r ++ rest.extract sz rest.size)) < strSize (.string rest)) := by show (A.r ++ rest.extract sz rest.size).size < rest.size; rw [HRS.out]; omega
        have HYE : Hid (∀ b' w3, AnsR A.r cm ⟨42, nm, st, sz⟩ b (some b') → In A x cm b' (w2.drewN nq) w3 → At A x cm a s W u5 (A.r ++ rest.extract sz rest.size) w3 acc b') := fun b' w3 h0 hi => by
          refine ⟨HI3.out.trans hi, HR3.out.keep hi, ?_, fun o ho => HX.out o (ans_read hz HP.out (by simp) h0 ho)⟩
          rw [HRS.out]
          have := HLE.out
          omega
        obtain ⟨ao, c, hv⟩ := own_form HR3.out.own
        clear HX HIH HNM HLE HP HOK
        go_wp2_with fail
        refine HAN.out.mono ?_
        rintro e w3 ⟨o, hA, hO⟩
        rcases o with _ | b'
        · obtain ⟨rfl, b', hI⟩ := hO
          have HE := Lib.hid (HNO.out hA)
          have HI4 := Lib.hid (HI3.out.trans hI)
          clear hA hI
          go_wp2_with fail
          exact ⟨rfl, none, HE.out, rfl, b', HI4.out⟩
        · obtain ⟨rfl, hI⟩ := hO
          have HAT := Lib.hid (HYE.out b' w3 hA hI)
          clear hA hI c0 c1 c2 c3
          subst hv
          go_wp2_with fail
          refine (fit_any _ _ (by omega) (by omega) (by omega) _).mono ?_
          rintro e w4 ⟨rfl, rfl⟩
          go_wp2_with fail
          go_roundw
          case rel => exact ⟨_, _, _, rfl, HAT⟩
          case measure => exact meas2.out
      · have hk : k = 36 := hk
        subst hk
        have HAN := Lib.hid (ans_any ⟨36, nm, st, sz⟩ HNM.out HIH.out HI3.out.again)
        have HNO : Hid (AnsR A.r cm ⟨36, nm, st, sz⟩ b none → Ex A.r cm ⟨#[]⟩ s a none) := fun h => HX.out _ (ans_none hz HP.out (show (36 : Int) ≠ 0 by decide) (show (36 : Int) ≠ 34 by decide) h)
        have h3s : 3 ≤ sz := HOK.out.asks (show (36 : Int) ≠ 0 by decide) (show (36 : Int) ≠ 34 by decide)
        have HRS : Hid ((A.r ++ rest.extract sz rest.size).size = A.r.size + (rest.size - sz)) := by show (A.r ++ rest.extract sz rest.size).size = _; rw [ByteArray.size_append, HTS.out]
        have hfit : acc.size + (A.r ++ rest.extract sz rest.size).size ≤ 8000 := by rw [HRS.out]; have := HLE.out; omega
        have hfit2 : acc.size + (A.r.size + (rest.size - sz)) ≤ 8000 := by have := HLE.out; omega
        have meas2 : Hid (strSize (.string (A.r ++ rest.extract sz rest.size)) < strSize (.string rest)) := by show (A.r ++ rest.extract sz rest.size).size < rest.size; rw [HRS.out]; omega
        have HYE : Hid (∀ b' w3, AnsR A.r cm ⟨36, nm, st, sz⟩ b (some b') → In A x cm b' (w2.drewN nq) w3 → At A x cm a s W u5 (A.r ++ rest.extract sz rest.size) w3 acc b') := fun b' w3 h0 hi => by
          refine ⟨HI3.out.trans hi, HR3.out.keep hi, ?_, fun o ho => HX.out o (ans_read hz HP.out (by simp) h0 ho)⟩
          rw [HRS.out]
          have := HLE.out
          omega
        obtain ⟨ao, c, hv⟩ := own_form HR3.out.own
        clear HX HIH HNM HLE HP HOK
        go_wp2_with fail
        refine HAN.out.mono ?_
        rintro e w3 ⟨o, hA, hO⟩
        rcases o with _ | b'
        · obtain ⟨rfl, b', hI⟩ := hO
          have HE := Lib.hid (HNO.out hA)
          have HI4 := Lib.hid (HI3.out.trans hI)
          clear hA hI
          go_wp2_with fail
          exact ⟨rfl, none, HE.out, rfl, b', HI4.out⟩
        · obtain ⟨rfl, hI⟩ := hO
          have HAT := Lib.hid (HYE.out b' w3 hA hI)
          clear hA hI c0 c1 c2 c3
          subst hv
          go_wp2_with fail
          refine (fit_any _ _ (by omega) (by omega) (by omega) _).mono ?_
          rintro e w4 ⟨rfl, rfl⟩
          go_wp2_with fail
          go_roundw
          case rel => exact ⟨_, _, _, rfl, HAT⟩
          case measure => exact meas2.out
      · have hk : k = 119 := hk
        subst hk
        have HAN := Lib.hid (ans_any ⟨119, nm, st, sz⟩ HNM.out HIH.out HI3.out.again)
        have HNO : Hid (AnsR A.r cm ⟨119, nm, st, sz⟩ b none → Ex A.r cm ⟨#[]⟩ s a none) := fun h => HX.out _ (ans_none hz HP.out (show (119 : Int) ≠ 0 by decide) (show (119 : Int) ≠ 34 by decide) h)
        have HYE : Hid (∀ b' w3 v' w', AnsR A.r cm ⟨119, nm, st, sz⟩ b (some b') → In A x cm b' (w2.drewN nq) w3 → w'.ownsRow W.heap.size 5 1 v' (acc.size + A.r.size) (strCells acc ++ strCells A.r) → w3.grownBy w' u5.ownBlock → (v'.ownBlock = u5.ownBlock ∨ v'.ownBlock = some w3.heap.size) →
            At A x cm a s W v' (rest.extract sz rest.size) w' (acc ++ A.r) b') := fun b' w3 v' w' h0 hi h1 h2 h3 => by
          obtain ⟨q1, q2⟩ := (HR3.out.keep hi).grown (HI3.out.trans hi) h1 h2 h3
          refine ⟨q2, q1, ?_, fun o ho => HX.out o (ans_num hz HP.out (by simp) h0 ho)⟩
          rw [ByteArray.size_append, HTS.out]
          have := HLE.out
          have h3s : 3 ≤ sz := HOK.out.asks (show (119 : Int) ≠ 0 by decide) (show (119 : Int) ≠ 34 by decide)
          omega
        have h3s : 3 ≤ sz := HOK.out.asks (show (119 : Int) ≠ 0 by decide) (show (119 : Int) ≠ 34 by decide)
        clear HX HIH HNM HLE HP HOK
        go_wp2_with fail
        refine HAN.out.mono ?_
        rintro e w3 ⟨o, hA, hO⟩
        rcases o with _ | b'
        · obtain ⟨rfl, b', hI⟩ := hO
          have HE := Lib.hid (HNO.out hA)
          have HI4 := Lib.hid (HI3.out.trans hI)
          clear hA hI
          go_wp2_with fail
          exact ⟨rfl, none, HE.out, rfl, b', HI4.out⟩
        · obtain ⟨rfl, hI⟩ := hO
          have HA := Lib.hid hA
          have HI4 := Lib.hid hI
          have HR4 := Lib.hid (HR3.out.keep hI)
          have hBW4 : W.heap.size ≤ w3.heap.size := Nat.le_trans HI3.out.size hI.size
          clear hA hI c0 c1 c2 c3
          go_wp2_with (at_builtin; refine wpList_str rfl (.tmp 42) (.tmp 43) rfl rfl rfl _ rfl HR4.out.own (by omega) hBW4 ?_; intro v' w' h1 h2 h3; have HAT := Lib.hid (HYE.out b' w3 v' w' HA.out HI4.out h1 h2 h3); obtain ⟨ao, c, hv'⟩ := own_form h1; clear h1 h2 h3; subst hv')
          refine (fit_any _ _ (by omega) (by omega) (by omega) _).mono ?_
          rintro e w4 ⟨rfl, rfl⟩
          go_wp2_with fail
          go_roundw
          case rel => exact ⟨_, _, _, rfl, HAT⟩
          case measure => exact meas.out
end

theorem expand_all (A : Asker) : ∀ n, ExC A n := fun n => Nat.strongRecOn n fun n ih => expand_of n ih
end Go.Proofs.YtopgbbkndkincaaDoor
