/- What is written is read again: no Go. -/
import Derived.Test.YtejffadjakajcaaDoorRqPure
import Derived.Lib.Replace
import Derived.Lib.IndexBytes
namespace Go.Proofs.YtejffadjakajcaaDoor
open Go.PlainAid

/-- Each 34 twice. -/
def dblQ (l : List UInt8) : List UInt8 := l.flatMap fun b => if b = 34 then [34, 34] else [b]
theorem dblQ_yes (l : List UInt8) : dblQ (34 :: l) = 34 :: 34 :: dblQ l := by simp [dblQ]
theorem dblQ_no {b : UInt8} (h : b ≠ 34) (l : List UInt8) : dblQ (b :: l) = b :: dblQ l := by simp [dblQ, h]
theorem dblQ_length : ∀ l : List UInt8, l.length ≤ (dblQ l).length ∧ (dblQ l).length ≤ 2 * l.length
  | [] => by simp [dblQ]
  | b :: l => by
    have := dblQ_length l
    by_cases h : b = 34
    · subst h; rw [dblQ_yes]; simp; omega
    · rw [dblQ_no h]; simp; omega
theorem indexQ_ne {b : UInt8} {l : List UInt8} {i : Nat} (hb : b ≠ 34) (h : Lib.index l [34] = i) : Lib.index (b :: l) [34] = (i + 1 : Nat) := by
  rw [Lib.index_one] at h ⊢
  have hg := Lib.indexByte_ge l 34
  unfold Lib.indexByte
  have h1 : (b == 34) = false := by simpa using hb
  rw [h1]
  simp only [h]
  split <;> first | omega | (rename_i q; first | (simp at q; omega) | (simp; omega)) | simp_all
theorem indexQ_eq (l : List UInt8) : Lib.index (34 :: l) [34] = (0 : Nat) := by
  rw [Lib.index_one]
  unfold Lib.indexByte
  simp
theorem replace_dblQ : ∀ l : List UInt8, Lib.replaceK [34] [34, 34] (l.count 34) l = dblQ l
  | [] => rfl
  | b :: l => by
    have ih := replace_dblQ l
    by_cases h : b = 34
    · subst h
      rw [List.count_cons_self, Lib.replaceK_hit _ _ _ _ 0 (indexQ_eq l), dblQ_yes, ← ih]
      rfl
    · rw [List.count_cons_of_ne h, dblQ_no h]
      rcases Nat.eq_zero_or_pos (l.count 34) with hz | hz
      · rw [hz] at ih ⊢
        rw [← ih]
        rfl
      · obtain ⟨i, hi⟩ := Lib.index_of_count (s := l) (old := [34]) (by rw [Lib.count_one]; exact hz)
        obtain ⟨k, hk⟩ : ∃ k, l.count 34 = k + 1 := ⟨l.count 34 - 1, by omega⟩
        rw [hk] at ih ⊢
        rw [Lib.replaceK_hit _ _ _ _ i hi] at ih
        rw [Lib.replaceK_hit _ _ _ _ (i + 1) (indexQ_ne h hi), ← ih]
        simp
theorem replaceAll_dblQ (l : List UInt8) : Lib.replaceAll l [34] [34, 34] = dblQ l := by
  unfold Lib.replaceAll Lib.replace Lib.replaceNum
  rw [if_neg (by decide), if_pos (.inl (by decide)), Lib.count_one]
  exact replace_dblQ l

/-- Does a text end in a 92 of an odd row? Read from the front. -/
def oddF : List UInt8 → Bool
  | [] => false
  | [c] => c == 92
  | c :: d :: r => if c = 92 then oddF r else oddF (d :: r)
/-- The same, read from the end. -/
def tcQ (l : List UInt8) : Nat := (l.reverse.takeWhile (· == 92)).length
theorem tcQ_le (l : List UInt8) : tcQ l ≤ l.length := by
  unfold tcQ
  have h := congrArg List.length (List.takeWhile_append_dropWhile (p := (· == (92 : UInt8))) (l := l.reverse))
  rw [List.length_append, List.length_reverse] at h
  omega
theorem tcQ_trim (l : List UInt8) : (Lib.trimRightB l 92).length = l.length - tcQ l := by
  unfold Lib.trimRightB tcQ
  have h := congrArg List.length (List.takeWhile_append_dropWhile (p := (· == (92 : UInt8))) (l := l.reverse))
  rw [List.length_append, List.length_reverse] at h
  rw [List.length_reverse]
  omega
theorem tcQ_app (a b : List UInt8) : tcQ (a ++ b) = if tcQ b = b.length then b.length + tcQ a else tcQ b := by
  unfold tcQ
  rw [List.reverse_append, List.takeWhile_append]
  rw [List.length_reverse]
  split <;> simp
theorem tcQ_one (c : UInt8) : tcQ [c] = if c = 92 then 1 else 0 := by
  unfold tcQ
  by_cases e : c = 92
  · subst e; rfl
  · simp [e]
theorem tcQ_two (c d : UInt8) (r : List UInt8) (h : c = 92) : tcQ (c :: d :: r) % 2 = tcQ r % 2 := by
  subst h
  rw [show (92 : UInt8) :: d :: r = [92, d] ++ r from rfl, tcQ_app]
  split
  · rename_i e
    rw [show ([92, d] : List UInt8) = [92] ++ [d] from rfl, tcQ_app, tcQ_one, tcQ_one]
    have := tcQ_le r
    by_cases hd : d = 92
    · subst hd; simp; omega
    · rw [if_neg hd, if_neg (by simp)]; omega
  · rfl
theorem tcQ_cons (c : UInt8) (r : List UInt8) (h : c ≠ 92) : tcQ (c :: r) = tcQ r := by
  rw [show c :: r = [c] ++ r from rfl, tcQ_app]
  split
  · rename_i e
    rw [tcQ_one, if_neg h]; omega
  · rfl
theorem oddF_tc : ∀ l : List UInt8, oddF l = (tcQ l % 2 == 1)
  | [] => rfl
  | [c] => by
    unfold oddF
    rw [tcQ_one]
    by_cases h : c = 92
    · subst h; rfl
    · rw [if_neg h]; simp [h]
  | c :: d :: r => by
    unfold oddF
    by_cases h : c = 92
    · rw [if_pos h, oddF_tc r, tcQ_two c d r h]
    · rw [if_neg h, oddF_tc (d :: r), tcQ_cons c (d :: r) h]

/-- Is an argument written as it is? -/
def plainW (a : List UInt8) : Bool := !a.isEmpty && !(a.head? == some 34) && !(a.any blk) && !oddF a
/-- An argument as it is written. -/
def wrtL (a : List UInt8) : List UInt8 := if plainW a then a else 34 :: dblQ a ++ [34]
/-- What follows an argument: nothing, or a blank. -/
def Behind (t : List UInt8) : Prop := ∀ c, t.head? = some c → blk c = true

theorem bare_all : ∀ {a t : List UInt8}, a.any blk = false → oddF a = false → Behind t → bareN (a ++ t) = a.length
  | [], t, _, _, ht => bareN_stop ht
  | [c], t, h1, h2, ht => by
    have hc : blk c = false := by simpa using h1
    have hn : c ≠ 92 := by
      intro e
      subst e
      simp [oddF] at h2
    have e : [c] ++ t = c :: t := rfl
    rw [e, bareN_step rfl hc]
    have h3 : togN (c :: t) = 1 := by
      unfold togN
      split
      · rename_i q; injection q with q; exact absurd q hn
      · rfl
    rw [h3]
    show 1 + bareN t = 1
    rw [bareN_stop ht]
  | c :: d :: r, t, h1, h2, ht => by
    simp only [List.any_cons, Bool.or_eq_false_iff] at h1
    obtain ⟨hc, hd, hr⟩ := h1
    have e : c :: d :: r ++ t = c :: d :: (r ++ t) := rfl
    rw [e, bareN_step rfl hc]
    by_cases h : c = 92
    · subst h
      have h3 : togN (92 :: d :: (r ++ t)) = 2 := rfl
      rw [h3]
      show 2 + bareN (r ++ t) = _
      rw [bare_all hr (by simpa [oddF] using h2) ht]
      simp; omega
    · have h3 : togN (c :: d :: (r ++ t)) = 1 := by
        unfold togN
        split
        · rename_i q; injection q with q; exact absurd q h
        · rfl
      rw [h3]
      show 1 + bareN (d :: r ++ t) = _
      rw [bare_all (a := d :: r) (by simp [hd, hr]) (by simpa [oddF, h] using h2) ht]
      simp; omega

theorem quot_34 {d : UInt8} {r : List UInt8} (h : d = 34) : quotL (34 :: d :: r) = (34 :: (quotL r).1, 2 + (quotL r).2) := by subst h; conv => lhs; unfold quotL; simp
theorem quot_end {d : UInt8} {r : List UInt8} (h : d ≠ 34) : quotL (34 :: d :: r) = ([], 1) := by conv => lhs; unfold quotL; simp [h]
theorem quot_92 {d : UInt8} {r : List UInt8} : quotL (92 :: d :: r) = (92 :: d :: (quotL r).1, 2 + (quotL r).2) := by conv => lhs; unfold quotL; simp
theorem quot_one {c d : UInt8} {r : List UInt8} (h : c ≠ 34) (h2 : c ≠ 92) : quotL (c :: d :: r) = (c :: (quotL (d :: r)).1, 1 + (quotL (d :: r)).2) := by conv => lhs; unfold quotL; simp [h, h2]
/-- How much is read and left, all in all. -/
def both (l : List UInt8) : Nat := (quotL l).1.length + (l.length - (quotL l).2)
theorem both_34 (r : List UInt8) : both (34 :: 34 :: r) = 1 + both r := by
  unfold both; rw [quot_34 rfl]; simp; omega
theorem both_shift : ∀ x : List UInt8, x.length < both (34 :: dblQ x ++ [34])
  | [] => by unfold both dblQ; simp [quotL]
  | e :: x => by
    by_cases h : e = 34
    · subst h
      have := both_shift x
      rw [dblQ_yes]
      show _ < both (34 :: 34 :: (34 :: dblQ x ++ [34]))
      rw [both_34, List.length_cons]
      omega
    · have h1 := (dblQ_length x).1
      rw [dblQ_no h]
      show _ < both (34 :: e :: (dblQ x ++ [34]))
      unfold both
      rw [quot_end h]
      simp
      omega
theorem dblQ_read (n : Nat) : ∀ a : List UInt8, a.length ≤ n →
    (∀ t, Behind t → quotL (dblQ a ++ 34 :: t) = (a, (dblQ a).length + 1)) ∨ a.length < both (dblQ a ++ [34]) := by
  induction n with
  | zero =>
    intro a h
    obtain rfl : a = [] := List.eq_nil_of_length_eq_zero (by omega)
    left
    intro t ht
    show quotL (34 :: t) = _
    match t, ht with
    | [], _ => simp [quotL, dblQ]
    | d :: r, ht =>
      rw [quot_end (by intro e; subst e; have := ht 34 rfl; simp [blk] at this)]
      rfl
  | succ n ih =>
    intro a h
    match a, h with
    | [], _ =>
      left
      intro t ht
      show quotL (34 :: t) = _
      match t, ht with
      | [], _ => simp [quotL, dblQ]
      | d :: r, ht =>
        rw [quot_end (by intro e; subst e; have := ht 34 rfl; simp [blk] at this)]
        rfl
    | c :: a', h =>
      simp only [List.length_cons] at h
      by_cases h34 : c = 34
      · subst h34
        rcases ih a' (by omega) with hg | hb
        · left
          intro t ht
          rw [dblQ_yes]
          show quotL (34 :: 34 :: (dblQ a' ++ 34 :: t)) = _
          rw [quot_34 rfl, hg t ht]
          simp; omega
        · right
          rw [dblQ_yes]
          show _ < both (34 :: 34 :: (dblQ a' ++ [34]))
          rw [both_34]
          simp; omega
      · rw [dblQ_no h34]
        by_cases h92 : c = 92
        · subst h92
          match a', h with
          | [], _ =>
            right
            show _ < both (92 :: 34 :: [])
            unfold both
            rw [quot_92]
            simp [quotL]
          | d :: r, h =>
            simp only [List.length_cons] at h
            by_cases hd : d = 34
            · subst hd
              right
              have := both_shift r
              rw [dblQ_yes]
              show _ < both (92 :: 34 :: (34 :: dblQ r ++ [34]))
              unfold both at this ⊢
              rw [quot_92]
              simp only [List.length_cons] at this ⊢
              omega
            · rw [dblQ_no hd]
              rcases ih r (by omega) with hg | hb
              · left
                intro t ht
                show quotL (92 :: d :: (dblQ r ++ 34 :: t)) = _
                rw [quot_92, hg t ht]
                simp; omega
              · right
                show _ < both (92 :: d :: (dblQ r ++ [34]))
                unfold both at hb ⊢
                rw [quot_92]
                simp only [List.length_cons] at hb ⊢
                omega
        · have nz : ∀ t : List UInt8, ∃ e u, dblQ a' ++ 34 :: t = e :: u := fun t => by
            cases hq : dblQ a' ++ 34 :: t with
            | nil => simp at hq
            | cons e u => exact ⟨e, u, rfl⟩
          rcases ih a' (by omega) with hg | hb
          · left
            intro t ht
            have h1 := hg t ht
            obtain ⟨e, u, hq⟩ := nz t
            show quotL (c :: (dblQ a' ++ 34 :: t)) = _
            rw [hq] at h1 ⊢
            rw [quot_one h34 h92, h1]
            simp; omega
          · right
            show _ < both (c :: (dblQ a' ++ [34]))
            obtain ⟨e, u, hq⟩ := nz []
            rw [hq] at hb ⊢
            unfold both at hb ⊢
            rw [quot_one h34 h92]
            simp only [List.length_cons] at hb ⊢
            omega
theorem last_blk {x l : List UInt8} {k : Nat} (h : l = x ++ [34]) (hk : (l.drop k).dropWhile blk = []) : l.length ≤ k := by
  rcases Nat.lt_or_ge k l.length with h1 | h1
  · exfalso
    have h2 : (34 : UInt8) ∈ l.drop k := by
      subst h
      rw [List.length_append] at h1
      simp at h1
      rw [List.drop_append_of_le_length (by omega)]
      simp
    have : ∀ {m : List UInt8}, m.dropWhile blk = [] → ∀ c ∈ m, blk c = true := by
      intro m hm c hc
      induction m with
      | nil => cases hc
      | cons y ys ih =>
        cases hy : blk y with
        | true =>
          rw [List.dropWhile_cons_of_pos hy] at hm
          rcases List.mem_cons.1 hc with rfl | hc
          · exact hy
          · exact ih hm hc
        | false => rw [List.dropWhile_cons_of_neg (by simp [hy])] at hm; cases hm
    have := this hk 34 h2
    simp [blk] at this
  · exact h1
/-- What is read again alone is read again ahead of a blank. -/
theorem wrt_first {a t : List UInt8} (h : Wds (wrtL a) [a]) (ht : Behind t) : firstL (wrtL a ++ t) = (a, (wrtL a).length) ∧ ∃ c r, wrtL a = c :: r ∧ blk c = false := by
  unfold wrtL at h ⊢
  split at h
  · rename_i hp
    rw [if_pos hp]
    simp only [plainW, Bool.and_eq_true, Bool.not_eq_true', beq_eq_false_iff_ne, List.isEmpty_eq_false_iff] at hp
    obtain ⟨⟨⟨h1, h2⟩, h3⟩, h4⟩ := hp
    match a, h1 with
    | c :: r, _ =>
      have hc : blk c = false := by simp only [List.any_cons, Bool.or_eq_false_iff] at h3; exact h3.1
      refine ⟨?_, c, r, rfl, hc⟩
      have hb := bare_all h3 h4 ht
      have e : c :: r ++ t = c :: (r ++ t) := rfl
      rw [e] at hb ⊢
      unfold firstL
      simp only
      rw [if_neg (fun e => h2 (by rw [e]; rfl)), hb]
      congr 1
      show (c :: r ++ t).take (c :: r).length = _
      rw [List.take_left]
  · rename_i hp
    rw [if_neg hp]
    refine ⟨?_, 34, _, rfl, rfl⟩
    rcases dblQ_read a.length a (Nat.le_refl _) with hg | hb
    · have h1 := hg t ht
      have e : 34 :: dblQ a ++ [34] ++ t = 34 :: (dblQ a ++ 34 :: t) := by simp
      rw [e]
      unfold firstL
      simp only [if_true]
      rw [h1]
      have e2 : (dblQ a ++ 34 :: t).drop ((dblQ a).length + 1) = t := by
        rw [show dblQ a ++ 34 :: t = (dblQ a ++ [34]) ++ t from by simp]
        rw [show (dblQ a).length + 1 = (dblQ a ++ [34]).length from by simp]
        exact List.drop_left
      rw [e2, bareN_stop ht]
      simp; omega
    · exfalso
      have hd : (34 :: dblQ a ++ [34]).dropWhile blk = 34 :: (dblQ a ++ [34]) := by
        show (34 :: (dblQ a ++ [34])).dropWhile blk = _
        rw [List.dropWhile_cons_of_neg (by simp [blk])]
      generalize hws : [a] = ws at h
      cases h with
      | done h2 => cases hws
      | more h2 hn h3 =>
        rw [hd] at h2
        subst h2
        injection hws with e1 e2
        subst e2
        generalize hr : (34 :: (dblQ a ++ [34])).drop (firstL (34 :: (dblQ a ++ [34]))).2 = rest at h3
        cases h3 with
        | done h4 =>
          rw [← hr] at h4
          have h5 := last_blk (x := 34 :: dblQ a) rfl h4
          have h6 : firstL (34 :: (dblQ a ++ [34])) = ((quotL (dblQ a ++ [34])).1 ++ ((dblQ a ++ [34]).drop (quotL (dblQ a ++ [34])).2).take (bareN ((dblQ a ++ [34]).drop (quotL (dblQ a ++ [34])).2)), 1 + (quotL (dblQ a ++ [34])).2 + bareN ((dblQ a ++ [34]).drop (quotL (dblQ a ++ [34])).2)) := by
            conv => lhs; unfold firstL
            simp only [if_true]
          rw [h6] at h5 e1
          have h7 := congrArg List.length e1
          have h8 := bareN_le ((dblQ a ++ [34]).drop (quotL (dblQ a ++ [34])).2)
          unfold both at hb
          simp only [List.length_append, List.length_take, List.length_drop, List.length_cons, List.length_nil] at h5 h7 h8 hb
          omega

/-- The arguments as a line has them. -/
def joinW : List (List UInt8) → List UInt8
  | [] => []
  | a :: as => 32 :: (wrtL a ++ joinW as)
theorem joinW_behind (as : List (List UInt8)) : Behind (joinW as) := by
  intro c h
  cases as with
  | nil => cases h
  | cons a as => obtain rfl : 32 = c := Option.some.inj h; rfl
theorem wds_front {a : List UInt8} {as : List (List UInt8)} (h : Wds (wrtL a) [a]) (h2 : Wds (joinW as) as) : Wds (wrtL a ++ joinW as) (a :: as) := by
  obtain ⟨h3, c, r, h4, h5⟩ := wrt_first h (joinW_behind as)
  have hd : (wrtL a ++ joinW as).dropWhile blk = wrtL a ++ joinW as := by
    rw [h4, List.cons_append, List.dropWhile_cons_of_neg (by simp [h5])]
  have := Wds.more (ws := as) hd (by rw [h4]; simp) (by rw [h3]; simpa using h2)
  rw [h3] at this
  exact this
theorem wds_join : ∀ {as : List (List UInt8)}, (∀ a ∈ as, Wds (wrtL a) [a]) → Wds (joinW as) as
  | [], _ => .done rfl
  | a :: as, h => by
    have h1 := wds_front (h a (by simp)) (wds_join (as := as) fun x hx => h x (by simp [hx]))
    have e : (joinW (a :: as)).dropWhile blk = (wrtL a ++ joinW as).dropWhile blk := by
      show (32 :: _).dropWhile blk = _
      rw [List.dropWhile_cons_of_pos (by rfl)]
    generalize hws : a :: as = ws at h1
    cases h1 with
    | done _ => cases hws
    | more h2 h3 h4 => rw [← e] at h2; exact hws ▸ .more h2 h3 h4
theorem wds_rest {as : List (List UInt8)} (h : ∀ a ∈ as, Wds (wrtL a) [a]) : Wds ((joinW as).drop 1) as := by
  cases as with
  | nil => exact .done rfl
  | cons a as => exact wds_front (h a (by simp)) (wds_join fun x hx => h x (by simp [hx]))
theorem wrtL_length (a : List UInt8) : (wrtL a).length ≤ 2 * a.length + 2 := by
  unfold wrtL
  have := (dblQ_length a).2
  split
  · omega
  · simp; omega
end Go.Proofs.YtejffadjakajcaaDoor
