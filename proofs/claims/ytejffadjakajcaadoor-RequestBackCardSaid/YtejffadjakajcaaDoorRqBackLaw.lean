/- RequestBack, walked. -/
import Derived.Test.YtejffadjakajcaaDoorRqWriteAll
namespace Go.Proofs.YtejffadjakajcaaDoor
open Go.RowKit Go.PlainAid Go.Shelf

def sumN : List (List UInt8) → Nat
  | [] => 0
  | a :: ax => a.length + sumN ax
theorem totW_sum : ∀ ax : List (List UInt8), totW ax = 2 * sumN ax + 3 * ax.length
  | [] => rfl
  | a :: ax => by
    have := totW_sum ax
    show (2 * a.length + 3) + totW ax = 2 * (a.length + sumN ax) + 3 * (ax.length + 1)
    omega
theorem sumN_take {ax : List (List UInt8)} {k : Nat} {a : List UInt8} (h : ax[k]? = some a) : sumN (ax.take (k + 1)) = sumN (ax.take k) + a.length := by
  obtain ⟨h1, h2⟩ := List.getElem?_eq_some_iff.1 h
  rw [List.take_succ_eq_append_getElem h1, h2]
  have app : ∀ (x y : List (List UInt8)), sumN (x ++ y) = sumN x + sumN y := fun x y => by
    induction x with
    | nil => simp [sumN]
    | cons b x ih => show b.length + sumN (x ++ y) = b.length + sumN x + sumN y; omega
  rw [app]
  rfl
theorem byte_free {l : List UInt8} {c : UInt8} : Lib.indexByte l c < 0 ↔ c ∉ l := by
  constructor
  · intro h hm
    obtain ⟨j, hj⟩ := List.getElem?_of_mem hm
    exact Lib.indexByte_none (by have := Lib.indexByte_ge l c; omega) j hj
  · intro h
    rcases Int.lt_or_le (Lib.indexByte l c) 0 with h1 | h1
    · exact h1
    · exfalso
      obtain ⟨o, ho⟩ : ∃ o : Nat, Lib.indexByte l c = o := ⟨_, (Int.toNat_of_nonneg h1).symm⟩
      exact h (List.mem_of_getElem? (Lib.indexByte_some ho).1)
theorem dblQ_mem {l : List UInt8} {b : UInt8} (h : b ∈ dblQ l) : b ∈ l := by
  obtain ⟨c, h1, h2⟩ := List.mem_flatMap.1 h
  split at h2
  · rename_i hc
    subst hc
    simp at h2
    rw [h2]; exact h1
  · simp at h2
    rw [h2]; exact h1
theorem wrtL_free {a : List UInt8} (h : (10 : UInt8) ∉ a) : (10 : UInt8) ∉ wrtL a := by
  unfold wrtL
  split
  · exact h
  · intro hm
    rcases List.mem_append.1 hm with hm | hm
    · rcases List.mem_cons.1 hm with hm | hm
      · cases hm
      · exact h (dblQ_mem hm)
    · simp at hm
theorem joinW_free : ∀ {ax : List (List UInt8)}, (∀ a ∈ ax, readsB a) → (10 : UInt8) ∉ joinW ax
  | [], _ => by simp [joinW]
  | a :: ax, h => by
    intro hm
    rcases List.mem_cons.1 hm with hm | hm
    · cases hm
    · rcases List.mem_append.1 hm with hm | hm
      · exact wrtL_free (byte_free.1 (h a (by simp)).1) hm
      · exact joinW_free (fun x hx => h x (by simp [hx])) hm
/-- A line that Write gives is cut into the name and the rest again. -/
structure BackIs (name : List UInt8) (ax : List (List UInt8)) (line : List UInt8) : Prop where
  fit : fitB line 46 39 = true
  start : startB line 46 39 = true
  nm : nameL line.tail = name
  rest : restL line.tail = (joinW ax).drop 1
  wds : Wds ((joinW ax).drop 1) ax
  b0 : bt (mk8 line) 0 = 46
theorem takeW_app {p : UInt8 → Bool} : ∀ {a b : List UInt8}, (∀ c ∈ a, p c = true) → (∀ c, b.head? = some c → p c = false) → (a ++ b).takeWhile p = a
  | [], b, _, h2 => by
    cases b with
    | nil => rfl
    | cons c r => rw [List.nil_append, List.takeWhile_cons_of_neg (by simp [h2 c rfl])]
  | c :: a, b, h1, h2 => by
    rw [List.cons_append, List.takeWhile_cons_of_pos (h1 c (by simp)), takeW_app (fun x hx => h1 x (by simp [hx])) h2]
theorem back_is {name : List UInt8} {ax : List (List UInt8)} {line : List UInt8} (he : line = 46 :: name ++ joinW ax) (hl : line.length ≤ 2000) (hn : nameOk name = true) (hr : ∀ a ∈ ax, readsB a) : BackIs name ax line := by
  simp only [nameOk, Bool.and_eq_true, Bool.not_eq_true', List.isEmpty_eq_false_iff, List.any_eq_false] at hn
  obtain ⟨n1, n2⟩ := hn
  have nb : ∀ c ∈ name, blk c = false ∧ c ≠ 10 := fun c hc => by
    have := n2 c hc
    simp only [badB, Bool.or_eq_true, beq_iff_eq, not_or, Bool.not_eq_true] at this
    exact this
  have ht : line.tail = name ++ joinW ax := by rw [he]; rfl
  have hd : line.tail.dropWhile blk = name ++ joinW ax := by
    rw [ht]
    cases name with
    | nil => exact absurd rfl n1
    | cons c r => rw [List.cons_append, List.dropWhile_cons_of_neg (by simp [(nb c (by simp)).1])]
  have hw : wordN (name ++ joinW ax) = name.length := by
    unfold wordN
    rw [takeW_app (fun c hc => by simp [(nb c hc).1]) (fun c hc => by simp [joinW_behind ax c hc])]
  refine ⟨?_, ?_, ?_, ?_, wds_rest fun a ha => (hr a ha).2, ?_⟩
  · have hfree : (10 : UInt8) ∉ line := by
      rw [he]
      intro hm
      rcases List.mem_append.1 hm with hm | hm
      · rcases List.mem_cons.1 hm with hm | hm
        · cases hm
        · exact (nb 10 hm).2 rfl
      · exact joinW_free hr hm
    have h1 : lineL line = true := by
      unfold lineL
      rw [decide_eq_true hl, decide_eq_false (by have := byte_free.2 hfree; omega)]
      rfl
    unfold fitB
    rw [h1]
    decide
  · rw [he]; rfl
  · unfold nameL
    rw [hd, hw, List.take_left]
  · unfold restL
    rw [hd, hw, List.drop_left]
  · rw [he]; exact bt_mk (l := 46 :: name ++ joinW ax) (k := 0) (c := 46) rfl

/-- The rest of the law, behind the sum. -/
structure Ins (W : World) (name : List UInt8) (v : Value) (ax : List (List UInt8)) : Prop where
  name : name.length ≤ 140737488351232
  args : TxAt v ax W
  max : MaxAt W

set_option maxRecDepth 100000 in
set_option maxHeartbeats 4000000 in
theorem law_back_many (name : List UInt8) (ao : Option Addr) (cap : Nat) (ax : List (List UInt8)) (W : World) (hv : TxAt (.slice ao ax.length cap) ax W) (hl : 30 < ax.length) (hl2 : ax.length ≤ 9223372036854775807) :
    Calls Tryd.prog 9 #[.string (mk8 name), .slice ao ax.length cap] W (Makes (.bool true) W) := by
  have HS := Lib.hid sane_any
  obtain ⟨ao', cap', ba, off, he, h1, h2⟩ := hv
  injection he with e1 e2 e3
  subst e1 e3
  have HV := Lib.hid h2
  have HV1 := Lib.hid h1
  clear h1 h2
  have d2 : decide ((30 : Int) < ax.length) = true := decide_eq_true (by omega)
  go_enter Tryd.func9, Tryd.ntmps9
  go_wp2_with fail
  go_loopw [5, 6] (fun n i wr => ∃ (k : Nat) (z : Int), k ≤ ax.length ∧ i = .int .i64 k ∧ n = .int .i64 z ∧ wr = W) (fun _ i _ => ax.length - (intOf i).toNat)
  case atStart => exact ⟨0, 0, by omega, rfl, rfl, rfl⟩
  case round =>
    obtain ⟨k, z, hk, rfl, rfl, rfl⟩ := hrel
    by_cases hlt : k < ax.length
    · obtain ⟨a, hak⟩ : ∃ a, ax[k]? = some a := ⟨_, List.getElem?_eq_getElem hlt⟩
      obtain ⟨rfl, hba⟩ := HV1.out (by omega)
      have c1 := HV.out k a hak
      have hkz : (k : Int) < ax.length := by omega
      have hk0 : (0 : Int) ≤ k := by omega
      clear hak d2
      go_wp2_with fail
      go_roundw
      case rel => exact ⟨k + 1, _, by omega, by go_num, rfl, by trivial⟩
      case measure => simp only [intOf]; omega
    · obtain rfl : k = ax.length := by omega
      have hkz : ¬ (ax.length : Int) < ax.length := by omega
      by_cases hz : 1500 < z
      · have d1 : decide ((1500 : Int) < z) = true := decide_eq_true hz
        go_wp2_with fail
        refine (HS.out _).mono ?_
        rintro e w1 ⟨rfl, hb⟩
        go_wp2_with fail
        go_ret
        exact ⟨rfl, hb⟩
      · have d1 : decide ((1500 : Int) < z) = false := decide_eq_false hz
        go_wp2_with fail
        refine (HS.out _).mono ?_
        rintro e w1 ⟨rfl, hb⟩
        go_wp2_with fail
        go_ret
        exact ⟨rfl, hb⟩

set_option maxRecDepth 100000 in
set_option maxHeartbeats 4000000 in
theorem law_back_few (name : List UInt8) (ao : Option Addr) (cap : Nat) (ax : List (List UInt8)) (W : World) (hn : name.length ≤ 140737488351232) (hv : TxAt (.slice ao ax.length cap) ax W) (hm : MaxAt W) (hl : ax.length ≤ 30) (hsz : ∀ a ∈ ax, a.length ≤ 140737488355328) :
    Calls Tryd.prog 9 #[.string (mk8 name), .slice ao ax.length cap] W (Makes (.bool true) W) := by
  have HS := Lib.hid sane_any
  have HTx := Lib.hid hv
  have HWr := Lib.hid (fun (ht : totW ax ≤ 4000) => write_any name (.slice ao ax.length cap) ax W hn hv hm (by omega) ht)
  have HSp := Lib.hid (fun (line : List UInt8) w => split_any line 46 39 w)
  have HWo := Lib.hid (fun (l : List UInt8) (h : l.length ≤ 90000) w => words_any l h w)
  have HLi : Hid (∀ (u : Value) w, TxAt u ax w → Below W.heap.size W w → Calls Tryd.prog 12 #[u, .slice ao ax.length cap] w (Makes (.bool true) w)) := fun u w h1 h2 => by
    have h := list_any u (.slice ao ax.length cap) ax ax w h1 (hv.below h2) (by omega)
    rw [show (ax == ax) = true from by simp] at h
    exact h
  obtain ⟨ao', cap', ba, off, he, h1, h2⟩ := hv
  injection he with e1 e2 e3
  subst e1 e3
  have HV := Lib.hid h2
  have HV1 := Lib.hid h1
  have HSz := Lib.hid hsz
  clear h1 h2 hsz hm
  have d2 : decide ((30 : Int) < ax.length) = false := decide_eq_false (by omega)
  go_enter Tryd.func9, Tryd.ntmps9
  go_wp2_with fail
  go_loopw [5, 6] (fun n i wr => ∃ (k S : Nat), k ≤ ax.length ∧ i = .int .i64 k ∧ n = .int .i64 S ∧ S ≤ k * 140737488355328 ∧ Hid (S = sumN (ax.take k)) ∧ wr = W) (fun _ i _ => ax.length - (intOf i).toNat)
  case atStart => exact ⟨0, 0, by omega, rfl, rfl, by omega, rfl, rfl⟩
  case round =>
    obtain ⟨k, S, hk, rfl, rfl, hS, hsum, rfl⟩ := hrel
    by_cases hlt : k < ax.length
    · obtain ⟨a, hak⟩ : ∃ a, ax[k]? = some a := ⟨_, List.getElem?_eq_getElem hlt⟩
      obtain ⟨rfl, hba⟩ := HV1.out (by omega)
      have c1 := HV.out k a hak
      have ha := HSz.out a (List.mem_of_getElem? hak)
      have z1 : ((mk8 a).size : Int) = a.length := by rw [mk8_size]
      have hkz : (k : Int) < ax.length := by omega
      have hk0 : (0 : Int) ≤ k := by omega
      have HS2 : Hid (S + a.length = sumN (ax.take (k + 1))) := by show _ = _; rw [sumN_take hak, hsum.out]
      have hSz : (S : Int) + a.length ≤ 9000000000000000 := by omega
      clear hak d2
      go_wp2_with fail
      go_roundw
      case rel => exact ⟨k + 1, S + a.length, by omega, by go_num, by go_num, by omega, HS2, by trivial⟩
      case measure => simp only [intOf]; omega
    · obtain rfl : k = ax.length := by omega
      have hkz : ¬ (ax.length : Int) < ax.length := by omega
      by_cases hz : 1500 < S
      · have d1 : decide ((1500 : Int) < S) = true := decide_eq_true (by omega)
        go_wp2_with fail
        refine (HS.out _).mono ?_
        rintro e w1 ⟨rfl, hb⟩
        go_wp2_with fail
        go_ret
        exact ⟨rfl, hb⟩
      · have d1 : decide ((1500 : Int) < S) = false := decide_eq_false (by omega)
        have htot : totW ax ≤ 4000 := by
          rw [totW_sum]
          have := hsum.out
          rw [List.take_length] at this
          omega
        have HW1 := Lib.hid (HWr.out htot)
        clear hz hS hsum hkz
        go_wp2_with fail
        refine HW1.out.mono ?_
        rintro e w1 ⟨line, er, rfl, hb, hok⟩
        have HB := Lib.hid hb
        have HOk := Lib.hid hok
        clear hb hok
        by_cases h0 : er = 0
        · subst h0
          obtain ⟨o1, o2, o3, o4⟩ := HOk.out rfl
          have HI := Lib.hid (back_is o1 o2 o3 o4)
          have hjl : (joinW ax).length ≤ 4000 := Nat.le_trans (joinW_le ax) htot
          clear o1 o2 o3 o4 HOk
          go_wp2_with fail
          have hsp := HSp.out line w1
          rw [splitP_yes HI.out.fit HI.out.start, HI.out.nm, HI.out.rest, HI.out.b0] at hsp
          refine hsp.mono ?_
          rintro e w2 ⟨u, ws, rfl, hwd, _, hown, hb2⟩
          have hws := hwd.eq HI.out.wds
          rw [hws] at hown
          have HB2 := Lib.hid (HB.out.trans (hb2.mono HB.out.size))
          have HT := Lib.hid (tx_own hown)
          obtain ⟨uo, uc, rfl⟩ := own_form hown
          have HWd : Hid (Wds (joinW ax).tail ax) := by have := HI.out.wds; rw [List.drop_one] at this; exact this
          have hjt : (joinW ax).tail.length ≤ 90000 := by rw [List.length_tail]; omega
          have HWT := Lib.hid (HWo.out (joinW ax).tail hjt)
          clear hsp hwd hown hb2 hws hjt hjl HW1
          go_wp2_with fail
          have ho2 : Below w2.heap.size w2 (w2.alloc (.cells #[.string (mk8 name), .slice uo ax.length uc, .string (mk8 (joinW ax).tail), .bool false] 44)) := (Below.refl _ _).alloc (Nat.le_refl _) _
          have hq2 : Rq w2.heap.size name (.slice uo ax.length uc) (joinW ax).tail false (w2.alloc (.cells #[.string (mk8 name), .slice uo ax.length uc, .string (mk8 (joinW ax).tail), .bool false] 44)) := heap_alloc_new w2 _
          have HB3 := Lib.hid (HB2.out.trans (ho2.mono HB2.out.size))
          refine (HLi.out _ _ (HT.out.below ho2) HB3.out).mono ?_
          rintro e w3 ⟨rfl, hb3⟩
          have HQ3 := Lib.hid (hq2.below hb3)
          have HB4 := Lib.hid (HB3.out.trans (hb3.mono HB3.out.size))
          have k2 := HQ3.out.c2
          clear ho2 hq2 hb3
          go_wp2_with fail
          refine (HWT.out w3).mono ?_
          rintro e w4 ⟨u4, ws4, rfl, hwd4, _, hown4, hb4⟩
          have hws4 := hwd4.eq HWd.out
          rw [hws4] at hown4
          have HB5 := Lib.hid (HB4.out.trans (hb4.mono HB4.out.size))
          have HT4 := Lib.hid (tx_own hown4)
          obtain ⟨uo4, uc4, rfl⟩ := own_form hown4
          clear hwd4 hws4 hown4 hb4 k2
          go_wp2_with fail
          refine (HLi.out _ w4 HT4.out HB5.out).mono ?_
          rintro e w5 ⟨rfl, hb5⟩
          have HB6 := Lib.hid (HB5.out.trans (hb5.mono HB5.out.size))
          clear hb5
          go_wp2_with fail
          refine (HS.out _).mono ?_
          rintro e w6 ⟨rfl, hb6⟩
          go_wp2_with fail
          go_ret
          exact ⟨rfl, HB6.out.trans (hb6.mono HB6.out.size)⟩
        · have e0 : (er != 0) = true := by simpa using h0
          clear h0 HOk
          go_wp2_with fail
          refine (HS.out _).mono ?_
          rintro e w2 ⟨rfl, hb2⟩
          go_wp2_with fail
          go_ret
          exact ⟨rfl, HB.out.trans (hb2.mono HB.out.size)⟩
end Go.Proofs.YtejffadjakajcaaDoor
