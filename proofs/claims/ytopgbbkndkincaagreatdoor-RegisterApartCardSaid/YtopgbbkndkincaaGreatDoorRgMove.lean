/- A book's Set, Step, Format that are refused; Move. -/
import Derived.Test.YtopgbbkndkincaaGreatDoorRgAsk
import Derived.Test.YtopgbbkndkincaaGreatDoorRdMove
namespace Go.Proofs.YtopgbbkndkincaaGreatDoor
open Go.RowKit Go.PlainAid Go.Maps

section
variable {b mb n : Nat} {D : DataW Unit} {w : World}
theorem range_is (v : Int) : rangeErr v = if fitB v then 0 else 5 := by
  unfold rangeErr fitB
  by_cases h1 : -1000000000 ≤ v <;> by_cases h2 : v ≤ 1000000000 <;> simp [h1, h2]
/-- What is told by a change that is refused. -/
def Refused (s : ByteArray) (c k : Int) : Prop := (nameErr s ≠ 0 ∧ k = nameErr s) ∨ (nameErr s = 0 ∧ c = k ∧ k ≠ 0)
theorem change_err (hB : BookAt b mb n D w) (s : ByteArray) (hs : s.size ≤ 9223372036854775807) {c k : Int} (hk : Refused s c k) (f : Value) :
    Calls Tryz.prog 30 #[.pointer (some ⟨b, 0, none⟩), .string s, .int .i64 c, f] w (SaysErr k w) := by
  rcases hk with ⟨h1, rfl⟩ | ⟨h1, rfl, h2⟩
  · exact change_name hB s hs c f h1
  · exact change_wrong hB s c f h1 h2
set_option maxRecDepth 100000 in
set_option maxHeartbeats 1000000 in
theorem set_err (hB : BookAt b mb n D w) (s : ByteArray) (hs : s.size ≤ 9223372036854775807) (v : Int) {k : Int} (hk : Refused s (rangeErr v) k) :
    Calls Tryz.prog 11 #[.pointer (some ⟨b, 0, none⟩), .string s, .int .i64 v] w (SaysErr k w) := by
  have hmf : ∀ (fn : Fn) (first cap : Array Value) (w : World), (Instr.makeFunc fn first cap).run Tryz.prog w = .ok (.func fn first cap) w := fun _ _ _ _ => rfl
  have HC := Lib.hid (fun f => change_err (hB.alloc (.cells #[.int .i64 v] 3)) s hs hk f)
  have HR := Lib.hid (rangeError_any v)
  obtain ⟨c, hc⟩ : ∃ c, rangeErr v = c := ⟨_, rfl⟩
  rw [hc] at HC HR
  clear hk hB hc
  go_enter Tryz.func11, Tryz.ntmps11
  go_wp2_with fail
  refine (HR.out _).mono ?_
  rintro e w1 ⟨rfl, rfl⟩
  go_wp2_with fail
  refine (HC.out _).mono ?_
  rintro e w2 ⟨rfl, hb⟩
  go_wp2_with fail
  go_ret
  exact ⟨rfl, ((Below.refl _ _).alloc (Nat.le_refl _) _).trans (hb.mono (by simp))⟩
set_option maxRecDepth 100000 in
set_option maxHeartbeats 1000000 in
theorem step_err (hB : BookAt b mb n D w) (s : ByteArray) (hs : s.size ≤ 9223372036854775807) (v : Int) {k : Int} (hk : Refused s (rangeErr v) k) :
    Calls Tryz.prog 13 #[.pointer (some ⟨b, 0, none⟩), .string s, .int .i64 v] w (SaysErr k w) := by
  have hmf : ∀ (fn : Fn) (first cap : Array Value) (w : World), (Instr.makeFunc fn first cap).run Tryz.prog w = .ok (.func fn first cap) w := fun _ _ _ _ => rfl
  have HC := Lib.hid (fun f => change_err (hB.alloc (.cells #[.int .i64 v] 3)) s hs hk f)
  have HR := Lib.hid (rangeError_any v)
  obtain ⟨c, hc⟩ : ∃ c, rangeErr v = c := ⟨_, rfl⟩
  rw [hc] at HC HR
  clear hk hB hc
  go_enter Tryz.func13, Tryz.ntmps13
  go_wp2_with fail
  refine (HR.out _).mono ?_
  rintro e w1 ⟨rfl, rfl⟩
  go_wp2_with fail
  refine (HC.out _).mono ?_
  rintro e w2 ⟨rfl, hb⟩
  go_wp2_with fail
  go_ret
  exact ⟨rfl, ((Below.refl _ _).alloc (Nat.le_refl _) _).trans (hb.mono (by simp))⟩
set_option maxRecDepth 100000 in
set_option maxHeartbeats 1000000 in
theorem format_err (hB : BookAt b mb n D w) (s : ByteArray) (hs : s.size ≤ 9223372036854775807) (v : ByteArray) {c k : Int} (hf : ∀ w, Calls Tryz.prog 27 #[.string v] w fun e w' => e = .returned (.int .i64 c) ∧ Below w.heap.size w w') (hk : Refused s c k) :
    Calls Tryz.prog 15 #[.pointer (some ⟨b, 0, none⟩), .string s, .string v] w (SaysErr k w) := by
  have hmf : ∀ (fn : Fn) (first cap : Array Value) (w : World), (Instr.makeFunc fn first cap).run Tryz.prog w = .ok (.func fn first cap) w := fun _ _ _ _ => rfl
  have HC : Hid (∀ f w1, Below (w.alloc (.cells #[.string v] 9)).heap.size (w.alloc (.cells #[.string v] 9)) w1 → Calls Tryz.prog 30 #[.pointer (some ⟨b, 0, none⟩), .string s, .int .i64 c, f] w1 (SaysErr k w1)) := fun f w1 h1 => change_err ((hB.alloc (.cells #[.string v] 9)).below h1) s hs hk f
  have HR := Lib.hid hf
  clear hk hB hf
  go_enter Tryz.func15, Tryz.ntmps15
  go_wp2_with fail
  refine (HR.out _).mono ?_
  rintro e w1 ⟨rfl, hb1⟩
  have HB := Lib.hid hb1
  clear hb1
  go_wp2_with fail
  refine (HC.out _ _ HB.out).mono ?_
  rintro e w2 ⟨rfl, hb⟩
  go_wp2_with fail
  go_ret
  have h1 : Below w.heap.size w w1 := ((Below.refl _ _).alloc (Nat.le_refl _) _).trans (HB.out.mono (by simp))
  exact ⟨rfl, h1.trans (hb.mono h1.size)⟩
set_option maxRecDepth 100000 in
set_option maxHeartbeats 1000000 in
theorem format_ok2 (hB : BookAt b mb n D w) (s : ByteArray) (v : ByteArray) (hf : ∀ w, Calls Tryz.prog 27 #[.string v] w fun e w' => e = .returned (.int .i64 0) ∧ Below w.heap.size w w') (hn : nameErr s = 0) (hroom : has D (bkey s) = true ∨ Maps.size D ≠ 500) (hnm : n < maxLen) :
    Calls Tryz.prog 15 #[.pointer (some ⟨b, 0, none⟩), .string s, .string v] w (ChangedP b mb n D s (setF v) w) := by
  have hmf : ∀ (fn : Fn) (first cap : Array Value) (w : World), (Instr.makeFunc fn first cap).run Tryz.prog w = .ok (.func fn first cap) w := fun _ _ _ _ => rfl
  have HC : Hid (∀ w1, Below (w.alloc (.cells #[.string v] 9)).heap.size (w.alloc (.cells #[.string v] 9)) w1 → Calls Tryz.prog 30 #[.pointer (some ⟨b, 0, none⟩), .string s, .int .i64 0, .func (.func 37) #[] #[.pointer (some ⟨w.heap.size, 0, none⟩)]] w1 (ChangedP b mb n D s (setF v) w1)) := fun w1 h1 =>
    change_ok ((hB.alloc (.cells #[.string v] 9)).below h1) s 37 w.heap.size (setF v) (fun rb w => enters_format rb _ w) (fun rb r W h2 h3 h4 => format1_does v w rb r W (h1.trans (h2.mono h1.size)) (Nat.le_trans h1.size h3) h4) hn hroom hnm
  have HR := Lib.hid hf
  clear hn hroom hB
  go_enter Tryz.func15, Tryz.ntmps15
  go_wp2_with fail
  refine (HR.out _).mono ?_
  rintro e w1 ⟨rfl, hb1⟩
  have HB := Lib.hid hb1
  clear hb1
  go_wp2_with fail
  refine (HC.out _ HB.out).mono ?_
  rintro e w2 ⟨rfl, r, hr, hB2, hg⟩
  go_wp2_with fail
  go_ret
  exact ⟨rfl, r, hr, hB2, grown_trans (grown_alloc1 (grown_below HB.out _)) hg⟩

set_option maxRecDepth 100000 in
set_option maxHeartbeats 1000000 in
theorem move_bad (hB : BookAt b mb n D w) (nm : ByteArray) (hnm : nm.size ≤ 9223372036854775807) (fwd : Bool) (hn : nameErr nm = 6) :
    Calls Tryz.prog 17 #[.pointer (some ⟨b, 0, none⟩), .string nm, .bool fwd] w (Makes (.tuple #[.int .i64 0, .int .i64 6]) w) := by
  have HN := Lib.hid (nameError_any b mb nm w hnm hB.cell)
  unfold NameP at HN
  rw [hn] at HN
  clear hn hB
  go_enter Tryz.func17, Tryz.ntmps17
  go_wp2_with fail
  refine HN.out.mono ?_
  rintro e w1 ⟨rfl, rfl⟩
  go_wp2_with fail
  go_ret2
  exact ⟨rfl, Below.refl _ _⟩
set_option maxRecDepth 100000 in
set_option maxHeartbeats 1000000 in
theorem move_none (hB : BookAt b mb n D w) (nm : ByteArray) (hnm : nm.size ≤ 9223372036854775807) (fwd : Bool) (hn : nameErr nm = 0) (hh : has D (bkey nm) = false) :
    Calls Tryz.prog 17 #[.pointer (some ⟨b, 0, none⟩), .string nm, .bool fwd] w (Makes (.tuple #[.int .i64 0, .int .i64 0]) w) := by
  have HN := Lib.hid (nameError_any b mb nm w hnm hB.cell)
  have HS := Lib.hid (has_any hB nm (by unfold maxLen; omega))
  unfold NameP at HN
  rw [hn] at HN
  rw [hh] at HS
  clear hn hB hh
  go_enter Tryz.func17, Tryz.ntmps17
  go_wp2_with fail
  refine HN.out.mono ?_
  rintro e w1 ⟨rfl, rfl⟩
  go_wp2_with fail
  refine HS.out.mono ?_
  rintro e w1 ⟨rfl, hb⟩
  go_wp2_with fail
  go_ret2
  exact ⟨rfl, hb⟩
set_option maxRecDepth 100000 in
set_option maxHeartbeats 2000000 in
theorem move_no (hB : BookAt b mb n D w) (nm : ByteArray) (hnm : nm.size ≤ 9223372036854775807) (fwd : Bool) (hn : nameErr nm = 0) (hh : has D (bkey nm) = true) {r : Reg} (hr : r.data = D.atKey (bkey nm) Reg.fresh.data)
    (hv : -1000000000 ≤ r.value ∧ r.value ≤ 1000000000) (hs : -1000000000 ≤ r.step ∧ r.step ≤ 1000000000) (hz : fitB (r.value + if fwd then r.step else -r.step) = false) :
    Calls Tryz.prog 17 #[.pointer (some ⟨b, 0, none⟩), .string nm, .bool fwd] w (Makes (.tuple #[.int .i64 0, .int .i64 5]) w) := by
  have HN := Lib.hid (nameError_any b mb nm w hnm hB.cell)
  have HS := Lib.hid (has_any hB nm (by unfold maxLen; omega))
  unfold NameP at HN
  rw [hh] at HS
  have HA : Hid (∀ w', Below w.heap.size w w' → Calls Tryz.prog 41 #[.pointer (some ⟨b, 0, none⟩), .string nm] w' (Makes (.agg #[.int .i64 r.value, .int .i64 r.step, .string r.fm]) w')) := fun w' hb => at_is (hB.below hb) nm (by unfold maxLen; omega) hr
  have HZ : Hid (∀ w' z, z = (r.value + if fwd then r.step else -r.step) → Below w.heap.size w w' → Calls Tryz.prog 11 #[.pointer (some ⟨b, 0, none⟩), .string nm, .int .i64 z] w' (SaysErr 5 w')) := fun w' z hz2 hb => set_err (hB.below hb) nm hnm z (.inr ⟨hn, by rw [range_is, hz2, hz]; rfl, by decide⟩)
  rw [hn] at HN
  clear hn hh hr hz hB
  obtain ⟨v1, v2⟩ := hv
  obtain ⟨s1, s2⟩ := hs
  cases fwd
  all_goals
    go_enter Tryz.func17, Tryz.ntmps17
    go_wp2_with fail
    refine HN.out.mono ?_
    rintro e w1 ⟨rfl, rfl⟩
    go_wp2_with fail
    refine HS.out.mono ?_
    rintro e w1 ⟨rfl, hb⟩
    go_wp2_with fail
    refine (HA.out _ hb).mono ?_
    rintro e w2 ⟨rfl, hb2⟩
    have HB := Lib.hid ((hb.trans (hb2.mono hb.size)).alloc (Nat.le_trans hb.size hb2.size) (.cells #[.int .i64 r.value, .int .i64 r.step, .string r.fm] 51))
    clear hb hb2
    go_wp2_with fail
    refine (HZ.out _ _ (by simp <;> omega) HB.out).mono ?_
    rintro e w3 ⟨rfl, hb3⟩
    go_wp2_with fail
    go_ret2
    exact ⟨rfl, HB.out.trans (hb3.mono HB.out.size)⟩
set_option maxRecDepth 100000 in
set_option maxHeartbeats 2000000 in
theorem move_ok (hB : BookAt b mb n D w) (nm : ByteArray) (hnm : nm.size ≤ 9223372036854775807) (fwd : Bool) (hn : nameErr nm = 0) (hh : has D (bkey nm) = true) {r : Reg} (hr : r.data = D.atKey (bkey nm) Reg.fresh.data)
    (hv : -1000000000 ≤ r.value ∧ r.value ≤ 1000000000) (hs : -1000000000 ≤ r.step ∧ r.step ≤ 1000000000) {y : Int} (hy : (r.value + if fwd then r.step else -r.step) = y) (hz : fitB y = true) (hnn : n < maxLen) :
    Calls Tryz.prog 17 #[.pointer (some ⟨b, 0, none⟩), .string nm, .bool fwd] w (TurnP b mb (n + 1) (D.put (bkey nm) (setV y r).data) (.tuple #[.int .i64 y, .int .i64 0]) w) := by
  have HN := Lib.hid (nameError_any b mb nm w hnm hB.cell)
  have HS := Lib.hid (has_any hB nm (by unfold maxLen; omega))
  unfold NameP at HN
  rw [hh] at HS
  have HA : Hid (∀ w', Below w.heap.size w w' → Calls Tryz.prog 41 #[.pointer (some ⟨b, 0, none⟩), .string nm] w' (Makes (.agg #[.int .i64 r.value, .int .i64 r.step, .string r.fm]) w')) := fun w' hb => at_is (hB.below hb) nm (by unfold maxLen; omega) hr
  have HZ : Hid (∀ w' z, z = y → Below w.heap.size w w' → Calls Tryz.prog 11 #[.pointer (some ⟨b, 0, none⟩), .string nm, .int .i64 z] w' (TurnP b mb (n + 1) (D.put (bkey nm) (setV y r).data) (.int .i64 0) w)) := fun w' z hz2 hb => by
    subst hz2
    refine (set_ok (hB.below hb) nm z (by rw [range_is, hz]; rfl) hn (.inl hh) hnn).mono ?_
    rintro e w2 ⟨he, q, hq, h1, h2⟩
    obtain rfl := Reg.data_inj (hq.trans hr.symm)
    exact ⟨he, h1, grown_trans (grown_below hb _) h2⟩
  rw [hn] at HN
  have HY := Lib.hid hy
  clear hn hh hr hz hB hy
  obtain ⟨v1, v2⟩ := hv
  obtain ⟨s1, s2⟩ := hs
  cases fwd
  all_goals
    go_enter Tryz.func17, Tryz.ntmps17
    go_wp2_with fail
    refine HN.out.mono ?_
    rintro e w1 ⟨rfl, rfl⟩
    go_wp2_with fail
    refine HS.out.mono ?_
    rintro e w1 ⟨rfl, hb⟩
    go_wp2_with fail
    refine (HA.out _ hb).mono ?_
    rintro e w2 ⟨rfl, hb2⟩
    have HB := Lib.hid ((hb.trans (hb2.mono hb.size)).alloc (Nat.le_trans hb.size hb2.size) (.cells #[.int .i64 r.value, .int .i64 r.step, .string r.fm] 51))
    clear hb hb2
    go_wp2_with fail
    refine (HZ.out _ _ (by rw [← HY.out]; simp <;> omega) HB.out).mono ?_
    rintro e w3 ⟨rfl, hb3, hg3⟩
    have H3 := Lib.hid hb3
    have G3 := Lib.hid hg3
    clear hb3 hg3
    go_wp2_with fail
    go_ret2
    exact ⟨by rw [← HY.out]; simp <;> omega, H3.out, G3.out⟩
end
end Go.Proofs.YtopgbbkndkincaaGreatDoor
