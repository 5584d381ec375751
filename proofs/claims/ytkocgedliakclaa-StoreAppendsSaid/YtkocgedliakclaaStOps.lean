/- A store's calls: New, Define, Text, Alias, Rename. -/
import Derived.Test.YtkocgedliakclaaStChange
namespace Go.Proofs.Ytkocgedliakclaa
open Go.RowKit Go.PlainAid Go.Maps

theorem two_allocs (w : World) (a c : Obj) : Below w.heap.size w ((w.alloc a).alloc c) := ((Below.refl _ _).alloc (Nat.le_refl _) _).alloc (by simp) _
theorem step_below {B : Nat} {w w1 w2 : World} (h1 : Below B w w1) (h2 : Below w1.heap.size w1 w2) (hB : B ≤ w.heap.size := by exact Nat.le_refl _) : Below B w w2 := h1.trans (Below.mono h2 (Nat.le_trans hB h1.size))

/-- A new store. -/
theorem new_any (w : World) : Calls Try.prog 7 #[] w fun e w' => ∃ b mb : Nat, e = .returned (.pointer (some ⟨b, 0, none⟩)) ∧ StAt w.heap.size b mb 0 (.map []) (fun _ => none) w' ∧ Below w.heap.size w w' := by
  have hmm := @run_makeMap Try.prog
  go_enter Try.func7, Try.ntmps7
  go_wp2
  go_ret
  refine ⟨_, w.heap.size, rfl, ⟨?_, ?_, ?_, ?_, by simp⟩, two_allocs _ _ _⟩
  · exact heap_alloc2_new _ _ _
  · exact (World.ownsMap_made w Try.prog 9 ptrElem).alloc _
  · intro eb x h; cases h
  · intro k h; simp [has] at h

section
variable {B b mb n : Nat} {D : DataW Unit} {E : Nat → Option Ent} {w : World}

set_option maxRecDepth 100000 in
set_option maxHeartbeats 1000000 in
theorem at_no (h : StAt B b mb n D E w) {s : ByteArray} (hs : s.size ≤ maxLen) (hh : has D (bkey s) = false) :
    Calls Try.prog 25 #[.pointer (some ⟨b, 0, none⟩), .string s] w (Makes (.agg #[.int .i64 0, .string ⟨#[]⟩, .slice none 0 0]) w) := by
  have h1 := look_no h hs hh _ (h.alloc (.cells #[.int .i64 0, .string ⟨#[]⟩, .slice none 0 0] 53)).map
  have hc1 : (w.alloc (.cells #[.int .i64 0, .string ⟨#[]⟩, .slice none 0 0] 53)).cell? ⟨b, 0, none⟩ = some (.map (some mb)) := (h.alloc _).cell
  clear hh
  go_enter Try.func25, Try.ntmps25
  go_wp2
  simp [bodyPost, results, Try.results25, go_sem]
  exact ⟨rfl, (Below.refl _ _).alloc (Nat.le_refl _) _⟩
set_option maxRecDepth 100000 in
set_option maxHeartbeats 1000000 in
theorem at_yes (h : StAt B b mb n D E w) {s : ByteArray} (hs : s.size ≤ maxLen) {eb : Nat} {x : Ent} (hl : leads D s eb) (he : E eb = some x) :
    Calls Try.prog 25 #[.pointer (some ⟨b, 0, none⟩), .string s] w (Makes (entV x) w) := by
  have ha := h.alloc (.cells #[.int .i64 0, .string ⟨#[]⟩, .slice none 0 0] 53)
  obtain ⟨e2, _, hl2, _, hrun⟩ := look_yes h hs hl.1
  obtain rfl := leads_one hl hl2
  have h1 := hrun _ ha.map
  have hc1 := ha.cell
  obtain ⟨⟨c0, c1, c2⟩, f0, f1, f2⟩ := cells3 (ha.ents _ _ he).2
  clear hrun hl2 hl
  go_enter Try.func25, Try.ntmps25
  go_wp2
  simp [bodyPost, results, Try.results25, go_sem]
  exact ⟨rfl, (Below.refl _ _).alloc (Nat.le_refl _) _⟩

abbrev strE (t : ByteArray) : Ent := ⟨1, t, none, 0, 0⟩
theorem nameErr_size {s : ByteArray} (h : nameErr s = 0) : s.size ≤ 20 := by
  unfold nameErr at h
  split at h
  · rename_i hn; exact (nameB_yes hn).2.1
  · omega
theorem nameErr_max {s : ByteArray} (h : nameErr s = 0) : s.size ≤ maxLen := by have := nameErr_size h; unfold maxLen; omega

set_option maxRecDepth 100000 in
theorem define_text (h : StAt B b mb n D E w) (s t : ByteArray) (ht : textB t = false) : Calls Try.prog 8 #[.pointer (some ⟨b, 0, none⟩), .string s, .string t] w (Makes (.int .i64 1) w) := by
  have HT := Lib.hid (isText_any t w)
  rw [ht] at HT
  have HR := Lib.hid (refusal_unfit s h.cell)
  clear ht
  go_enter Try.func8, Try.ntmps8
  go_wp2_with fail
  refine (HT.out).mono ?_
  rintro e w1 ⟨rfl, rfl⟩
  go_wp2_with fail
  refine (HR.out).mono ?_
  rintro e w1 ⟨rfl, rfl⟩
  go_wp2_with fail
  go_ret
  exact ⟨rfl, Below.refl _ _⟩
set_option maxRecDepth 100000 in
theorem define_name (h : StAt B b mb n D E w) (s t : ByteArray) (ht : textB t = true) (hn : nameErr s ≠ 0) : Calls Try.prog 8 #[.pointer (some ⟨b, 0, none⟩), .string s, .string t] w (Makes (.int .i64 (nameErr s)) w) := by
  have HT := Lib.hid (isText_any t w)
  rw [ht] at HT
  have HR := Lib.hid (refusal_fit s h.cell)
  obtain ⟨c, hc⟩ : ∃ c, nameErr s = c := ⟨_, rfl⟩
  rw [hc] at HR hn ⊢
  have hne : (c != 0) = true := by rw [bne_iff_ne]; exact hn
  clear ht hc hn
  go_enter Try.func8, Try.ntmps8
  go_wp2_with fail
  refine (HT.out).mono ?_
  rintro e w1 ⟨rfl, rfl⟩
  go_wp2_with fail
  refine (HR.out).mono ?_
  rintro e w1 ⟨rfl, hb⟩
  go_wp2_with fail
  go_ret
  exact ⟨rfl, hb⟩
set_option maxRecDepth 100000 in
theorem define_full (h : StAt B b mb n D E w) (s t : ByteArray) (ht : textB t = true) (hn : nameErr s = 0) (hr : roomB D s = false) : Calls Try.prog 8 #[.pointer (some ⟨b, 0, none⟩), .string s, .string t] w (Makes (.int .i64 9) w) := by
  have HT := Lib.hid (isText_any t w)
  rw [ht] at HT
  have HR := Lib.hid (refusal_fit s h.cell)
  rw [hn] at HR
  have hm := nameErr_max hn
  clear ht hn
  go_enter Try.func8, Try.ntmps8
  go_wp2_with fail
  refine (HT.out).mono ?_
  rintro e w1 ⟨rfl, rfl⟩
  go_wp2_with fail
  refine (HR.out).mono ?_
  rintro e w1 ⟨rfl, hb⟩
  have HP := Lib.hid (put_full (h.below hb) s hm (strE t) hr)
  go_wp2_with fail
  refine (HP.out).mono ?_
  rintro e w2 ⟨rfl, hb2⟩
  go_wp2_with fail
  go_ret
  exact ⟨rfl, step_below hb hb2⟩
set_option maxRecDepth 100000 in
theorem define_new (h : StAt B b mb n D E w) (s t : ByteArray) (ht : textB t = true) (hn : nameErr s = 0) (hh : has D (bkey s) = false) (hsz : Maps.size D < 500) (hnm : n < maxLen) :
    Calls Try.prog 8 #[.pointer (some ⟨b, 0, none⟩), .string s, .string t] w (PutNewP B b mb n D E s (strE t) w) := by
  have HT := Lib.hid (isText_any t w)
  rw [ht] at HT
  have HR := Lib.hid (refusal_fit s h.cell)
  rw [hn] at HR
  have hm := nameErr_max hn
  have HH := Lib.hid hh
  have HSZ := Lib.hid hsz
  clear ht hn hh hsz
  go_enter Try.func8, Try.ntmps8
  go_wp2_with fail
  refine (HT.out).mono ?_
  rintro e w1 ⟨rfl, rfl⟩
  go_wp2_with fail
  refine (HR.out).mono ?_
  rintro e w1 ⟨rfl, hb⟩
  have HP := Lib.hid (put_new (h.below hb) s hm (strE t) HH.out HSZ.out hnm)
  go_wp2_with fail
  refine (HP.out).mono ?_
  rintro e w2 ⟨rfl, nb, hnb, hS, hg⟩
  go_wp2_with fail
  go_ret
  exact ⟨rfl, nb, Nat.le_trans hb.size hnb, hS, grown_trans (grown_below hb _) hg⟩
set_option maxRecDepth 100000 in
theorem define_old (h : StAt B b mb n D E w) (s t : ByteArray) (ht : textB t = true) (hn : nameErr s = 0) {eb : Nat} {y : Ent} (hl : leads D s eb) (he : E eb = some y) :
    Calls Try.prog 8 #[.pointer (some ⟨b, 0, none⟩), .string s, .string t] w (PutOldP B b mb n D E eb (strE t) w) := by
  have HT := Lib.hid (isText_any t w)
  rw [ht] at HT
  have HR := Lib.hid (refusal_fit s h.cell)
  rw [hn] at HR
  have hm := nameErr_max hn
  have HL := Lib.hid hl
  have HE := Lib.hid he
  clear ht hn hl he
  go_enter Try.func8, Try.ntmps8
  go_wp2_with fail
  refine (HT.out).mono ?_
  rintro e w1 ⟨rfl, rfl⟩
  go_wp2_with fail
  refine (HR.out).mono ?_
  rintro e w1 ⟨rfl, hb⟩
  have HP := Lib.hid (put_old (h.below hb) hm (strE t) HL.out HE.out)
  go_wp2_with fail
  refine (HP.out).mono ?_
  rintro e w2 ⟨rfl, hS, hg⟩
  go_wp2_with fail
  go_ret
  exact ⟨rfl, hS, grown_trans (grown_below hb _) hg⟩

set_option maxRecDepth 100000 in
theorem text_yes (h : StAt B b mb n D E w) {s : ByteArray} (hs : s.size ≤ maxLen) {eb : Nat} {t : ByteArray} (hl : leads D s eb) (he : E eb = some (strE t)) :
    Calls Try.prog 10 #[.pointer (some ⟨b, 0, none⟩), .string s] w (Says (.tuple #[.string t, .int .i64 0]) w) := by
  have HF := Lib.hid (find_yes h hs hl)
  obtain ⟨⟨c0, c1, c2⟩, f0, f1, f2⟩ := cells3 (h.ents _ _ he).2
  clear hl he
  go_enter Try.func10, Try.ntmps10
  go_wp2_with fail
  refine (HF.out).mono ?_
  rintro e w1 ⟨rfl, rfl⟩
  go_wp2_with fail
  go_ret2
  exact ⟨rfl, rfl⟩

set_option maxRecDepth 100000 in
theorem alias_full (h : StAt B b mb n D E w) (fresh old : ByteArray) (hos : old.size ≤ maxLen) {eb : Nat} (hl : leads D old eb) (hn : nameErr fresh = 0) (hne : fresh ≠ old) (hr : roomB D fresh = false) :
    Calls Try.prog 17 #[.pointer (some ⟨b, 0, none⟩), .string fresh, .string old] w (Makes (.int .i64 9) w) := by
  have HF := Lib.hid (find_yes h hos hl)
  have hm := nameErr_max hn
  have HC := Lib.hid (canBe_any fresh w)
  rw [show nameB fresh = true from by unfold nameErr at hn; split at hn; assumption; omega] at HC
  have hq : (fresh.toList == old.toList) = false := by
    rw [beq_eq_false_iff_ne, Lib.toList_data, Lib.toList_data]
    intro e
    exact hne (bkey_inj (congrArg Lit.string e))
  have HR := Lib.hid hr
  clear hl hn hne hr
  go_enter Try.func17, Try.ntmps17
  go_wp2_with fail
  refine (HF.out).mono ?_
  rintro e w1 ⟨rfl, rfl⟩
  go_wp2_with fail
  refine (HC.out).mono ?_
  rintro e w1 ⟨rfl, hb⟩
  have HRM := Lib.hid (hasRoom_any (h.below hb) fresh hm)
  rw [HR.out] at HRM
  go_wp2_with fail
  refine (HRM.out).mono ?_
  rintro e w2 ⟨rfl, rfl⟩
  go_wp2_with fail
  go_ret
  exact ⟨rfl, hb⟩

/-- What Rename that is let gives: the new name leads where the old one did. -/
def RenameP (B b mb n : Nat) (D : DataW Unit) (E : Nat → Option Ent) (old new : ByteArray) (eb : Nat) (w : World) (e : Ending) (w' : World) : Prop :=
  e = .returned (.int .i64 0) ∧ StAt B b mb (n + 1) ((D.del (bkey old)).put (bkey new) (ptrD (some eb))) E w' ∧ w.grownBy w' (some mb)
theorem StAt.moved (h : StAt B b mb n D E w) {w' : World} {n' eb : Nat} {x : Ent} {old new : ByteArray} (he : E eb = some x) (hw : w'.ownsMap Try.prog 9 ptrElem mb n' ((D.del (bkey old)).put (bkey new) (ptrD (some eb)))) (hg : w.grownBy w' (some mb)) :
    StAt B b mb n' ((D.del (bkey old)).put (bkey new) (ptrD (some eb))) E w' := by
  refine ⟨by rw [hg.block b h.lt (by have := h.ne; simpa using this)]; exact h.blk, hw, fun i z hi => ?_, fun k hk => ?_, h.lo⟩
  · exact ⟨(h.ents _ _ hi).1, by rw [hg.block i (h.elt hi) (by have := h.ene hi; simpa using this)]; exact (h.ents _ _ hi).2⟩
  · by_cases e : k = bkey new
    · subst e
      exact ⟨eb, x, atKey_put_same (h.map.isMap.del _) (bkey_key new) _ _, he⟩
    · rw [has_put_other e] at hk
      by_cases e2 : k = bkey old
      · subst e2; rw [has_del_same] at hk; cases hk
      · rw [has_del_other e2] at hk
        obtain ⟨i, z, ha, hi⟩ := h.refs k hk
        exact ⟨i, z, by rw [atKey_put_other e, atKey_del_other e2]; exact ha, hi⟩
set_option maxRecDepth 100000 in
set_option maxHeartbeats 1000000 in
theorem rename_ok (h : StAt B b mb n D E w) (old new : ByteArray) (hos : old.size ≤ maxLen) {eb : Nat} {x : Ent} (hl : leads D old eb) (he : E eb = some x) (hn : nameErr new = 0) (hnm : n < maxLen) :
    Calls Try.prog 33 #[.pointer (some ⟨b, 0, none⟩), .string old, .string new] w (RenameP B b mb n D E old new eb w) := by
  have HF := Lib.hid (find_yes h hos hl)
  have hm := nameErr_max hn
  have HC := Lib.hid (canBe_any new w)
  rw [show nameB new = true from by unfold nameErr at hn; split at hn; assumption; omega] at HC
  have HE := Lib.hid he
  clear hl hn he
  go_enter Try.func33, Try.ntmps33
  go_wp2_with fail
  refine (HF.out).mono ?_
  rintro e w1 ⟨rfl, rfl⟩
  go_wp2_with fail
  refine (HC.out).mono ?_
  rintro e w1 ⟨rfl, hb⟩
  have h1 := h.below hb
  have hc1 := h1.cell
  obtain ⟨w2, hdel, hown2, hmt⟩ := World.ownsMap.drop (t := 47) h1.map str_keyed Try.underlying47 (key_of old hos) 0
  have hg2 := hmt.grown
  have hc2 : w2.cell? ⟨b, 0, none⟩ = some (.map (some mb)) := by
    simp only [World.cell?, hg2.block b h1.lt (by have := h1.ne; simpa using this), h1.blk]
    rfl
  obtain ⟨w3, hst, hown3, hg3⟩ := World.ownsMap.update (t := 47) hown2 str_keyed Try.underlying47 hnm (key_of new hm) (ptrElem_mk (some eb))
  simp only [ptrV, Option.map_some] at hst
  have hgg := grown_trans hg2 hg3
  have h3 := Lib.hid (h1.moved HE.out hown3 hgg)
  go_wp2_with fail
  go_ret
  exact ⟨rfl, h3.out, grown_trans (grown_below hb _) hgg⟩
end
end Go.Proofs.Ytkocgedliakclaa
