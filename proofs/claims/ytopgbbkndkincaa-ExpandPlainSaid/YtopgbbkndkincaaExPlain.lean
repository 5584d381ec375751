/- ExpandPlain, walked. -/
import Derived.Test.YtopgbbkndkincaaExSane
namespace Go.Proofs.Ytopgbbkndkincaa
open Go.RowKit Go.PlainAid Go.Lib

/-- Which texts are plain. -/
inductive Pl : ByteArray → Bool → Prop
  | done {s} : s.size = 0 → Pl s true
  | stay {s b} : 0 < s.size → (firstM s false).kind = 0 → Pl (tail s (firstM s false).size) b → Pl s b
  | no {s} : 0 < s.size → (firstM s false).kind ≠ 0 → Pl s false

theorem cut_join {s : ByteArray} {n : Nat} (h : n ≤ s.size) : s.extract 0 n ++ tail s n = s := by
  unfold tail
  apply ByteArray.ext
  rw [ByteArray.data_append]
  simp only [ByteArray.data_extract]
  rw [Array.extract_append_extract, Nat.min_eq_left (Nat.zero_le _), Nat.max_eq_right h]
  exact Array.extract_size
theorem Pl.yes {r s : ByteArray} {a : Nat} {b : Bool} (h : Pl s b) (hb : b = true) : ∀ {acc o}, Ex r false acc s a o → o = some (acc ++ s, a) := by
  induction h with
  | @done s hz =>
    intro acc o he
    rw [he.empty hz]
    have : s = ByteArray.empty := by
      apply ByteArray.ext
      exact Array.eq_empty_of_size_eq_zero hz
    rw [this, ByteArray.append_empty]
  | @stay s b hz hk _ ih =>
    intro acc o he
    have h1 := he.stays hz rfl hk
    rw [show writM false (s.extract 0 (firstM s false).size) = s.extract 0 (firstM s false).size from rfl] at h1
    rw [ih hb h1, ByteArray.append_assoc, cut_join (first_ok hz false).le]
  | no _ _ => cases hb
theorem Pl.not {r s : ByteArray} {a : Nat} {b : Bool} (h : Pl s b) (hb : b = false) : ∀ {acc o}, Ex r false acc s a o → o = none ∨ ∃ t c, o = some (t, c) ∧ (a < c ∨ t.size < acc.size + s.size) := by
  induction h with
  | done _ => cases hb
  | @stay s b hz hk _ ih =>
    intro acc o he
    have h1 := he.stays hz rfl hk
    rcases ih hb h1 with h2 | ⟨t, c, h2, h3⟩
    · exact .inl h2
    · refine .inr ⟨t, c, h2, ?_⟩
      rw [ByteArray.size_append, show (writM false (s.extract 0 (firstM s false).size)).size = (firstM s false).size from by
        show (s.extract 0 (firstM s false).size).size = _
        rw [ByteArray.size_extract]
        have := (first_ok hz false).le
        omega, tail_size] at h3
      have := (first_ok hz false).le
      omega
  | @no s hz hk =>
    intro acc o he
    cases he with
    | done h => omega
    | stay _ h _ => exact absurd h hk
    | rem _ _ => exact .inr ⟨_, _, rfl, .inr (by omega)⟩
    | full _ _ _ _ _ => exact .inl rfl
    | num _ _ _ h =>
      rcases o with _ | ⟨t, c⟩
      · exact .inl rfl
      · have := h.mono t c rfl; exact .inr ⟨t, c, rfl, .inl (by omega)⟩
    | read _ _ _ h =>
      rcases o with _ | ⟨t, c⟩
      · exact .inl rfl
      · have := h.mono t c rfl; exact .inr ⟨t, c, rfl, .inl (by omega)⟩
    | widNo _ _ _ => exact .inl rfl
    | widFull _ _ _ => exact .inl rfl
    | wid _ _ h1 _ h =>
      rcases o with _ | ⟨t, c⟩
      · exact .inl rfl
      · have := h.mono t c rfl
        have := h1.mono _ _ rfl
        exact .inr ⟨t, c, rfl, .inl (by omega)⟩

def PlainP (s : ByteArray) (w : World) (e : Ending) (w' : World) : Prop := ∃ b, Pl s b ∧ e = .returned (.bool b) ∧ Below w.heap.size w w'
set_option maxRecDepth 100000 in
set_option maxHeartbeats 2000000 in
theorem plain_any (s : ByteArray) (hs : s.size ≤ 9223372036854775807) (w : World) : Calls Try.prog 13 #[.string s] w (PlainP s w) := by
  go_enter Try.func13, Try.ntmps13
  go_wp2_with fail
  go_loopw [0] (fun sv wr => ∃ rest, sv = .string rest ∧ rest.size ≤ s.size ∧ Hid ((∀ b, Pl rest b → Pl s b) ∧ Below w.heap.size w wr)) (fun sv _ => strSize sv)
  case atStart => exact ⟨s, rfl, Nat.le_refl _, fun _ h => h, Below.refl _ _⟩
  case round =>
    obtain ⟨rest, rfl, hle, hr⟩ := hrel
    rcases Nat.eq_zero_or_pos rest.size with hz | hz
    · have he := isEmpty_yes hz
      have HP := Lib.hid (hr.out.1 true (.done hz))
      clear hz
      go_wp2_with fail
      go_ret
      exact ⟨true, HP.out, rfl, hr.out.2⟩
    · have he := isEmpty_no hz
      have HF := Lib.hid (first_any rest (by omega) hz false)
      have HOK := Lib.hid (first_ok hz false)
      go_wp2_with fail
      refine (HF.out _).mono ?_
      rintro e w1 ⟨rfl, hb1⟩
      obtain ⟨p, hp⟩ : ∃ p, firstM rest false = p := ⟨_, rfl⟩
      rw [hp] at HOK ⊢
      have HB := Lib.hid (hr.out.2.trans ((hb1.alloc hb1.size (pbox p)).mono hr.out.2.size))
      have HPL := Lib.hid hr.out.1
      have HP := Lib.hid hp
      clear hb1 hp hr HF
      obtain ⟨k, nm, st, sz⟩ := p
      have l1 : 1 ≤ sz := HOK.out.pos
      have l2 : sz ≤ rest.size := HOK.out.le
      by_cases hk : k = 0
      · have hkb : (k != 0) = false := by simpa using hk
        have HN : Hid (∀ b, Pl (rest.extract sz rest.size) b → Pl s b) := fun b h => HPL.out b (.stay hz (by rw [HP.out]; exact hk) (by rw [HP.out]; exact h))
        have meas : Hid (strSize (.string (rest.extract sz rest.size)) < strSize (.string rest)) := by
          show (rest.extract sz rest.size).size < rest.size
          have := tail_size rest sz
          unfold tail at this
          omega
        have hle2 : (rest.extract sz rest.size).size ≤ s.size := by
          have := tail_size rest sz
          unfold tail at this
          omega
        clear hk HPL HP HOK
        go_wp2_with fail
        go_roundw
        case rel => exact ⟨_, rfl, hle2, HN.out, HB.out⟩
        case measure => exact meas.out
      · have hkb : (k != 0) = true := by simpa using hk
        have HN : Hid (Pl s false) := HPL.out _ (.no hz (by rw [HP.out]; exact hk))
        clear hk HPL HP HOK
        go_wp2_with fail
        go_ret
        exact ⟨false, HN.out, rfl, HB.out⟩
end Go.Proofs.Ytopgbbkndkincaa
