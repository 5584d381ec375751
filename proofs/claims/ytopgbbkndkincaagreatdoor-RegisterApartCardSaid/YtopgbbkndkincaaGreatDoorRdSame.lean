/- The document's sorted rows and the program's map: no walk. -/
import Derived.Test.YtopgbbkndkincaaGreatDoorRgRename
import Derived.Test.YtopgbbkndkincaaGreatDoorRgNames
import Derived.Test.YtopgbbkndkincaaGreatDoorRdNames
import Derived.Sort.KeysCollected
import Derived.Sort.Walk0
namespace Go.Proofs.YtopgbbkndkincaaGreatDoor
open Go.RowKit Go.PlainAid Go.Maps Go.Shelf

abbrev nk (r : Row) : List UInt8 := r.name.data.toList
def Srt (l : List Row) : Prop := l.Pairwise fun a b => nk a < nk b
theorem lessB_is (a b : ByteArray) : lessB a b = decide (a.data.toList < b.data.toList) := by
  unfold lessB
  rw [bytesLess_eq, Lib.toList_data, Lib.toList_data]
theorem above {x k : List UInt8} (h : ¬ x < k) (hne : x ≠ k) : k < x :=
  Decidable.byContradiction fun hn => hne (List.le_antisymm (List.not_lt.1 hn) (List.not_lt.1 h))
theorem nk_inj {a b : ByteArray} (h : a.data.toList = b.data.toList) : a = b := ba_ext h
theorem pos_split (nm : ByteArray) : ∀ {l : List Row}, Srt l → (∀ x ∈ l.take (pos nm l), nk x < nm.data.toList) ∧ (∀ x ∈ l.drop (pos nm l), ¬ nk x < nm.data.toList)
  | [], _ => ⟨fun x hx => by simp at hx, fun x hx => by simp at hx⟩
  | a :: t, h => by
    obtain ⟨h1, h2⟩ := List.pairwise_cons.1 h
    obtain ⟨i1, i2⟩ := pos_split nm (l := t) h2
    by_cases ha : nk a < nm.data.toList
    · have hp : pos nm (a :: t) = pos nm t + 1 := by
        show (if lessB a.name nm then _ else _) = _
        rw [if_pos (by rw [lessB_is]; exact decide_eq_true ha)]
      rw [hp]
      refine ⟨fun x hx => ?_, fun x hx => i2 x (by simpa using hx)⟩
      rw [List.take_succ_cons] at hx
      rcases List.mem_cons.1 hx with rfl | hx
      · exact ha
      · exact i1 x hx
    · have hp : pos nm (a :: t) = 0 := by
        show (if lessB a.name nm then _ else _) = _
        rw [if_neg (by rw [lessB_is]; simpa using ha)]
      rw [hp]
      refine ⟨fun x hx => by simp at hx, fun x hx => ?_⟩
      rw [List.drop_zero] at hx
      rcases List.mem_cons.1 hx with rfl | hx
      · exact ha
      · exact fun hl => ha (List.lt_trans (h1 x hx) hl)
theorem at_of {nm : ByteArray} {l : List Row} (hs : Srt l) {r : Row} (hr : r ∈ l) (he : r.name = nm) : l[pos nm l]? = some r := by
  obtain ⟨h1, h2⟩ := pos_split nm hs
  rw [← List.take_append_drop (pos nm l) l, List.mem_append] at hr
  have hk : nk r = nm.data.toList := by rw [← he]
  rcases hr with hr | hr
  · have := h1 r hr
    rw [hk] at this
    exact absurd this (List.lt_irrefl _)
  · have hd : Srt (l.drop (pos nm l)) := hs.sublist (List.drop_sublist _ _)
    cases hc : l.drop (pos nm l) with
    | nil => rw [hc] at hr; simp at hr
    | cons h t =>
      have hl : l[pos nm l]? = some h := by
        have := congrArg (fun z => z[0]?) hc
        simpa using this
      rw [hc] at hr hd h2
      rcases List.mem_cons.1 hr with rfl | hr
      · exact hl
      · have h3 := (List.pairwise_cons.1 hd).1 r hr
        rw [hk] at h3
        exact absurd h3 (h2 h (by simp))
theorem isAt_of {nm : ByteArray} {l : List Row} (hs : Srt l) {r : Row} (hr : r ∈ l) (he : r.name = nm) : isAt nm l = true := by
  rw [isAt_row (at_of hs hr he), he]
  exact same_self nm
theorem isAt_iff {nm : ByteArray} {l : List Row} (hs : Srt l) : isAt nm l = true ↔ ∃ r ∈ l, r.name = nm := by
  constructor
  · intro h
    obtain ⟨r, hr, hn⟩ := isAt_yes h
    exact ⟨r, List.mem_of_getElem? hr, same_name hn⟩
  · rintro ⟨r, hr, he⟩
    exact isAt_of hs hr he
theorem getR_of {nm : ByteArray} {l : List Row} (hs : Srt l) {r : Row} (hr : r ∈ l) (he : r.name = nm) : getR nm l = r := getR_yes (at_of hs hr he) (isAt_of hs hr he)
theorem cut_at {nm : ByteArray} {l : List Row} (hs : Srt l) (hi : isAt nm l = true) : ∃ A q C, l = A ++ q :: C ∧ pos nm l = A.length ∧ q.name = nm ∧ (∀ x ∈ A, nk x < nm.data.toList) ∧ (∀ x ∈ C, nm.data.toList < nk x) := by
  obtain ⟨q, hq, hn⟩ := isAt_yes hi
  have hn := same_name hn
  obtain ⟨h1, h2⟩ := pos_split nm hs
  have hlt := (List.getElem?_eq_some_iff.1 hq).1
  have hd : Srt (l.drop (pos nm l)) := hs.sublist (List.drop_sublist _ _)
  have hc : l.drop (pos nm l) = q :: l.drop (pos nm l + 1) := by
    rw [List.drop_eq_getElem_cons hlt]
    congr 1
    exact (List.getElem?_eq_some_iff.1 hq).2
  refine ⟨l.take (pos nm l), q, l.drop (pos nm l + 1), ?_, by rw [List.length_take]; omega, hn, h1, fun x hx => ?_⟩
  · rw [← hc, List.take_append_drop]
  · rw [hc] at hd
    have := (List.pairwise_cons.1 hd).1 x hx
    rwa [show nk q = nm.data.toList from by rw [← hn]] at this
theorem cut_no {nm : ByteArray} {l : List Row} (hs : Srt l) (hi : isAt nm l = false) : ∃ A C, l = A ++ C ∧ pos nm l = A.length ∧ (∀ x ∈ A, nk x < nm.data.toList) ∧ (∀ x ∈ C, nm.data.toList < nk x) := by
  obtain ⟨h1, h2⟩ := pos_split nm hs
  have hle := pos_le nm l
  refine ⟨l.take (pos nm l), l.drop (pos nm l), (List.take_append_drop _ _).symm, by rw [List.length_take]; omega, h1, fun x hx => above (h2 x hx) (fun e => ?_)⟩
  have := isAt_of hs (List.mem_of_mem_drop hx) (nk_inj e)
  rw [hi] at this
  cases this
theorem ne_lt {x k : List UInt8} (h : x < k) : x ≠ k := fun e => List.lt_irrefl k (e ▸ h)
theorem ne_gt {x k : List UInt8} (h : k < x) : x ≠ k := fun e => List.lt_irrefl k (e ▸ h)
theorem srt_mid {A C : List Row} {r : Row} (hs : Srt (A ++ C)) (h1 : ∀ x ∈ A, nk x < nk r) (h2 : ∀ x ∈ C, nk r < nk x) : Srt (A ++ r :: C) := by
  obtain ⟨a1, a2, a3⟩ := List.pairwise_append.1 hs
  refine List.pairwise_append.2 ⟨a1, List.pairwise_cons.2 ⟨h2, a2⟩, fun x hx y hy => ?_⟩
  rcases List.mem_cons.1 hy with rfl | hy
  · exact h1 x hx
  · exact a3 x hx y hy
theorem del_mem {nm : ByteArray} {l : List Row} (hs : Srt l) (hi : isAt nm l = true) : Srt (delR nm l) ∧ (∀ x, x ∈ delR nm l ↔ x ∈ l ∧ x.name ≠ nm) ∧ (delR nm l).length + 1 = l.length := by
  obtain ⟨A, q, C, hl, hp, hq, h1, h2⟩ := cut_at hs hi
  have hd : delR nm l = A ++ C := by
    unfold delR
    rw [hp, hl]
    simp
  rw [hd]
  refine ⟨?_, fun x => ?_, by rw [hl]; simp; omega⟩
  · rw [hl] at hs
    exact hs.sublist (List.Sublist.append_left (List.sublist_cons_self _ _) _)
  · rw [hl]
    simp only [List.mem_append, List.mem_cons]
    constructor
    · rintro (hx | hx)
      · exact ⟨.inl hx, fun e => ne_lt (h1 x hx) (by rw [← e])⟩
      · exact ⟨.inr (.inr hx), fun e => ne_gt (h2 x hx) (by rw [← e])⟩
    · rintro ⟨hx | rfl | hx, hn⟩
      · exact .inl hx
      · exact absurd hq hn
      · exact .inr hx
theorem put_mem {r : Row} {l : List Row} (hs : Srt l) (hroom : isAt r.name l = true ∨ l.length < 500) : Srt (putR r l).1 ∧ (∀ x, x ∈ (putR r l).1 ↔ x = r ∨ (x ∈ l ∧ x.name ≠ r.name)) ∧ (putR r l).2 = 0 ∧ (putR r l).1.length ≤ l.length + 1 := by
  unfold putR
  cases hi : isAt r.name l with
  | true =>
    rw [if_pos rfl]
    obtain ⟨A, q, C, hl, hp, hq, h1, h2⟩ := cut_at hs hi
    have hd : l.set (pos r.name l) r = A ++ r :: C := by
      rw [hp, hl]
      simp
    have hac : Srt (A ++ C) := by
      rw [hl] at hs
      exact hs.sublist (List.Sublist.append_left (List.sublist_cons_self _ _) _)
    simp only [hd]
    refine ⟨srt_mid hac h1 h2, fun x => ?_, trivial, by rw [hl]; simp⟩
    rw [hl]
    simp only [List.mem_append, List.mem_cons]
    constructor
    · rintro (hx | rfl | hx)
      · exact .inr ⟨.inl hx, fun e => ne_lt (h1 x hx) (by rw [← e])⟩
      · exact .inl rfl
      · exact .inr ⟨.inr (.inr hx), fun e => ne_gt (h2 x hx) (by rw [← e])⟩
    · rintro (rfl | ⟨hx | rfl | hx, hn⟩)
      · exact .inr (.inl rfl)
      · exact .inl hx
      · exact absurd hq hn
      · exact .inr (.inr hx)
  | false =>
    have hlt : l.length < 500 := hroom.resolve_left (by rw [hi]; simp)
    rw [if_neg (by simp), if_pos hlt]
    obtain ⟨A, C, hl, hp, h1, h2⟩ := cut_no hs hi
    have hd : insR r l = A ++ r :: C := by
      unfold insR
      rw [hp, hl]
      simp
    simp only [hd]
    refine ⟨srt_mid (by rw [← hl]; exact hs) h1 h2, fun x => ?_, trivial, by rw [hl]; simp; omega⟩
    rw [hl]
    simp only [List.mem_append, List.mem_cons]
    constructor
    · rintro (hx | rfl | hx)
      · exact .inr ⟨.inl hx, fun e => ne_lt (h1 x hx) (by rw [← e])⟩
      · exact .inl rfl
      · exact .inr ⟨.inr hx, fun e => ne_gt (h2 x hx) (by rw [← e])⟩
    · rintro (rfl | ⟨hx | hx, hn⟩)
      · exact .inr (.inl rfl)
      · exact .inl hx
      · exact .inr (.inr hx)

abbrev regOf (r : Row) : Reg := ⟨r.value, r.step, r.form⟩
/-- A row that may be: in range, its form a form. -/
def Fine (r : Row) : Prop := RowOk r ∧ formB r.form = true
/-- The map has what the rows have. -/
structure Same (D : DataW Unit) (l : List Row) : Prop where
  srt : Srt l
  has : ∀ s : ByteArray, has D (bkey s) = true ↔ ∃ r ∈ l, r.name = s
  val : ∀ r ∈ l, D.atKey (bkey r.name) Reg.fresh.data = (regOf r).data
  fine : ∀ r ∈ l, Fine r
theorem bkey_key (s : ByteArray) : WideAt.IsKeyLit (bkey s) := trivial
theorem bkey_ne {a c : ByteArray} (h : a ≠ c) : bkey a ≠ bkey c := fun e => h (by injection e with e; exact nk_inj e)
section
variable {D : DataW Unit} {l : List Row}
theorem Same.isHas (h : Same D l) (s : ByteArray) : Maps.has D (bkey s) = isAt s l := by
  rw [Bool.eq_iff_iff, h.has s, isAt_iff h.srt]
theorem Same.reg (h : Same D l) (s : ByteArray) : (regOf (getR s l)).data = D.atKey (bkey s) Reg.fresh.data := by
  cases hi : isAt s l with
  | false =>
    rw [getR_no hi]
    exact (atKey_of_not_has (by rw [h.isHas, hi]) _).symm
  | true =>
    obtain ⟨r, hr, he⟩ := (isAt_iff h.srt).1 hi
    rw [getR_of h.srt hr he, ← he]
    exact (h.val r hr).symm
theorem fine_fresh (s : ByteArray) : Fine ⟨s, 0, 0, ⟨#[48]⟩⟩ := ⟨⟨by show (-1000000000 : Int) ≤ 0; decide, by show (0 : Int) ≤ 1000000000; decide, by show (-1000000000 : Int) ≤ 0; decide, by show (0 : Int) ≤ 1000000000; decide⟩, by show formB ⟨#[48]⟩ = true; decide +kernel⟩
theorem Same.fineR (h : Same D l) (s : ByteArray) : Fine (getR s l) := by
  cases hi : isAt s l with
  | false => rw [getR_no hi]; exact fine_fresh s
  | true =>
    obtain ⟨r, hr, he⟩ := (isAt_iff h.srt).1 hi
    rw [getR_of h.srt hr he]
    exact h.fine r hr
theorem Same.put (h : Same D l) (hD : IsMap D) {r : Row} (hf : Fine r) (hroom : isAt r.name l = true ∨ l.length < 500) : Same (D.put (bkey r.name) (regOf r).data) (putR r l).1 := by
  obtain ⟨h1, h2, _⟩ := put_mem h.srt hroom
  refine ⟨h1, fun s => ?_, fun x hx => ?_, fun x hx => ?_⟩
  · by_cases e : s = r.name
    · subst e
      exact ⟨fun _ => ⟨r, (h2 r).2 (.inl rfl), rfl⟩, fun _ => has_put_same hD (bkey_key _) _⟩
    · rw [has_put_other (bkey_ne e), h.has s]
      constructor
      · rintro ⟨x, hx, rfl⟩
        exact ⟨x, (h2 x).2 (.inr ⟨hx, e⟩), rfl⟩
      · rintro ⟨x, hx, rfl⟩
        rcases (h2 x).1 hx with rfl | ⟨hx, _⟩
        · exact absurd rfl e
        · exact ⟨x, hx, rfl⟩
  · rcases (h2 x).1 hx with rfl | ⟨hx, hn⟩
    · exact atKey_put_same hD (bkey_key _) _ _
    · rw [atKey_put_other (bkey_ne hn)]
      exact h.val x hx
  · rcases (h2 x).1 hx with rfl | ⟨hx, _⟩
    · exact hf
    · exact h.fine x hx
theorem Same.del (h : Same D l) {nm : ByteArray} (hi : isAt nm l = true) : Same (D.del (bkey nm)) (delR nm l) := by
  obtain ⟨h1, h2, _⟩ := del_mem h.srt hi
  refine ⟨h1, fun s => ?_, fun x hx => ?_, fun x hx => h.fine x ((h2 x).1 hx).1⟩
  · by_cases e : s = nm
    · subst e
      rw [has_del_same]
      constructor
      · intro hh; cases hh
      · rintro ⟨x, hx, he⟩
        exact absurd he ((h2 x).1 hx).2
    · rw [has_del_other (bkey_ne e), h.has s]
      constructor
      · rintro ⟨x, hx, rfl⟩
        exact ⟨x, (h2 x).2 ⟨hx, e⟩, rfl⟩
      · rintro ⟨x, hx, rfl⟩
        exact ⟨x, ((h2 x).1 hx).1, rfl⟩
  · obtain ⟨hx, hn⟩ := (h2 x).1 hx
    rw [atKey_del_other (bkey_ne hn)]
    exact h.val x hx
theorem Same.delNo (h : Same D l) {nm : ByteArray} (hi : isAt nm l = false) : Same (D.del (bkey nm)) l := by
  have hne : ∀ x ∈ l, x.name ≠ nm := fun x hx e => by
    have := isAt_of h.srt hx e
    rw [hi] at this
    cases this
  refine ⟨h.srt, fun s => ?_, fun x hx => ?_, h.fine⟩
  · by_cases e : s = nm
    · subst e
      rw [has_del_same]
      constructor
      · intro hh; cases hh
      · rintro ⟨x, hx, he⟩
        exact absurd he (hne x hx)
    · rw [has_del_other (bkey_ne e), h.has s]
  · rw [atKey_del_other (bkey_ne (hne x hx))]
    exact h.val x hx
theorem Same.again (h : Same D l) (hD : IsMap D) {nm : ByteArray} (hi : isAt nm l = true) : Same ((D.del (bkey nm)).put (bkey nm) (regOf (getR nm l)).data) l := by
  obtain ⟨r, hr, he⟩ := (isAt_iff h.srt).1 hi
  refine ⟨h.srt, fun s => ?_, fun x hx => ?_, h.fine⟩
  · by_cases e : s = nm
    · subst e
      exact ⟨fun _ => ⟨r, hr, he⟩, fun _ => has_put_same (hD.del _) (bkey_key _) _⟩
    · rw [has_put_other (bkey_ne e), has_del_other (bkey_ne e), h.has s]
  · by_cases e : x.name = nm
    · rw [e, atKey_put_same (hD.del _) (bkey_key _), getR_of h.srt hx e]
    · rw [atKey_put_other (bkey_ne e), atKey_del_other (bkey_ne e)]
      exact h.val x hx
theorem Same.names (h : Same D l) {b mb n : Nat} {w : World} (hB : BookAt b mb n D w) {ss : List (List UInt8)} (hp : ss.Perm (strKeys D)) : (ss.mergeSort (fun x y => decide (x ≤ y))).map encStr = namesOf l := by
  obtain ⟨es, hD, hpw, _⟩ := hB.map.entries str_keyed
  obtain ⟨es', hD', hko⟩ := hB.map.keysOf
  obtain rfl : es = es' := by rw [hD] at hD'; simpa using hD'
  subst hD
  have hnd : (l.map nk).Nodup := List.pairwise_map.2 (h.srt.imp fun {a c} hl => ne_lt hl)
  have hperm : (l.map nk).Perm (strKeys (.map es)) := perm_strKeys hpw (fun p hp => by obtain ⟨v, hv⟩ := hko p hp; obtain ⟨x, _, hx, _⟩ := Maps.keyOf_str Tryz.underlying9 hv; exact ⟨x, hx⟩) hnd (fun x => by
    have := h.has ⟨x.toArray⟩
    rw [show bkey ⟨x.toArray⟩ = .string x from by simp [bkey]] at this
    rw [this, List.mem_map]
    constructor
    · rintro ⟨r, hr, rfl⟩
      exact ⟨r, hr, by cases r; rfl⟩
    · rintro ⟨r, hr, e⟩
      exact ⟨r, hr, by simp [nk, e]⟩)
  have hms : ss.mergeSort (fun x y => decide (x ≤ y)) = l.map nk := by
    rw [mergeSort_of_perm (hp.trans hperm.symm)]
    refine List.mergeSort_of_pairwise ?_
    refine List.pairwise_map.2 (h.srt.imp fun {a c} hl => ?_)
    exact decide_eq_true (List.le_of_lt hl)
  rw [hms]
  simp [namesOf, encStr]
end
end Go.Proofs.YtopgbbkndkincaaGreatDoor
