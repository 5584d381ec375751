/- What a text is expanded to where all answers are one short text: no Go. -/
import Derived.Test.YtopgbbkndkincaaDoorExPure
namespace Go.Proofs.YtopgbbkndkincaaDoor
open Go.PlainAid

/-- What a piece that stays looks like. -/
def writM (cm : Bool) (t : ByteArray) : ByteArray := if cm && (t.toList == [92, 92] || t.toList == [92, 46]) then t.extract 1 t.size else t
theorem writM_le (cm : Bool) (t : ByteArray) : (writM cm t).size ≤ t.size := by
  unfold writM
  split
  · rw [ByteArray.size_extract]; omega
  · exact Nat.le_refl _

/-- What comes out: a text and how often was asked by then; or none: a limit was met. -/
inductive Ex (r : ByteArray) (cm : Bool) : ByteArray → ByteArray → Nat → Option (ByteArray × Nat) → Prop
  | done {acc rest a} : rest.size = 0 → Ex r cm acc rest a (some (acc, a))
  | stay {acc rest a o} : 0 < rest.size → (firstM rest cm).kind = 0 → Ex r cm (acc ++ writM cm (rest.extract 0 (firstM rest cm).size)) (tail rest (firstM rest cm).size) a o → Ex r cm acc rest a o
  | rem {acc rest a} : 0 < rest.size → (firstM rest cm).kind = 34 → Ex r cm acc rest a (some (acc, a))
  | full {acc rest a} : 0 < rest.size → (firstM rest cm).kind ≠ 0 → (firstM rest cm).kind ≠ 34 → (firstM rest cm).kind ≠ 119 → a = 500 → Ex r cm acc rest a none
  | num {acc rest a o} : 0 < rest.size → (firstM rest cm).kind = 110 → a < 500 → Ex r cm (acc ++ r) (tail rest (firstM rest cm).size) (a + 1) o → Ex r cm acc rest a o
  | read {acc rest a o} : 0 < rest.size → (firstM rest cm).kind = 42 ∨ (firstM rest cm).kind = 36 → a < 500 → Ex r cm acc (r ++ tail rest (firstM rest cm).size) (a + 1) o → Ex r cm acc rest a o
  | widNo {acc rest a} : 0 < rest.size → (firstM rest cm).kind = 119 → Ex r cm ⟨#[]⟩ (firstM rest cm).name a none → Ex r cm acc rest a none
  | widFull {acc rest a t} : 0 < rest.size → (firstM rest cm).kind = 119 → Ex r cm ⟨#[]⟩ (firstM rest cm).name a (some (t, 500)) → Ex r cm acc rest a none
  | wid {acc rest a t b o} : 0 < rest.size → (firstM rest cm).kind = 119 → Ex r cm ⟨#[]⟩ (firstM rest cm).name a (some (t, b)) → b < 500 → Ex r cm (acc ++ r) (tail rest (firstM rest cm).size) (b + 1) o → Ex r cm acc rest a o

/-- What asking for a piece gives: how often was asked then; or none. -/
def AnsR (r : ByteArray) (cm : Bool) (p : Piece) (a : Nat) : Option Nat → Prop
  | some b => b ≤ 500 ∧ ((p.kind ≠ 119 ∧ a < 500 ∧ b = a + 1) ∨ (p.kind = 119 ∧ ∃ t c, Ex r cm ⟨#[]⟩ p.name a (some (t, c)) ∧ c < 500 ∧ b = c + 1))
  | none => (p.kind ≠ 119 ∧ a = 500) ∨ (p.kind = 119 ∧ (Ex r cm ⟨#[]⟩ p.name a none ∨ ∃ t, Ex r cm ⟨#[]⟩ p.name a (some (t, 500))))

theorem ans_num {r : ByteArray} {cm : Bool} {acc rest : ByteArray} {a b : Nat} {p : Piece} {o : Option (ByteArray × Nat)} (hz : 0 < rest.size) (hp : firstM rest cm = p) (hk : p.kind = 110 ∨ p.kind = 119) (h : AnsR r cm p a (some b))
    (h2 : Ex r cm (acc ++ r) (tail rest p.size) b o) : Ex r cm acc rest a o := by
  subst hp
  obtain ⟨_, ⟨h1, h3, rfl⟩ | ⟨h1, t, c, h3, h4, rfl⟩⟩ := h
  · exact .num hz (by rcases hk with e | e; exact e; exact absurd e h1) h3 h2
  · exact .wid hz h1 h3 h4 h2
theorem ans_read {r : ByteArray} {cm : Bool} {acc rest : ByteArray} {a b : Nat} {p : Piece} {o : Option (ByteArray × Nat)} (hz : 0 < rest.size) (hp : firstM rest cm = p) (hk : p.kind = 42 ∨ p.kind = 36) (h : AnsR r cm p a (some b))
    (h2 : Ex r cm acc (r ++ tail rest p.size) b o) : Ex r cm acc rest a o := by
  subst hp
  obtain ⟨_, ⟨h1, h3, rfl⟩ | ⟨h1, _⟩⟩ := h
  · exact .read hz hk h3 h2
  · exact absurd h1 (by rcases hk with e | e <;> rw [e] <;> decide)
theorem ans_none {r : ByteArray} {cm : Bool} {acc rest : ByteArray} {a : Nat} {p : Piece} (hz : 0 < rest.size) (hp : firstM rest cm = p) (h0 : p.kind ≠ 0) (h34 : p.kind ≠ 34) (h : AnsR r cm p a none) : Ex r cm acc rest a none := by
  subst hp
  rcases h with ⟨h1, h2⟩ | ⟨h1, h2 | ⟨t, h2⟩⟩
  · exact .full hz h0 h34 h1 h2
  · exact .widNo hz h1 h2
  · exact .widFull hz h1 h2
theorem Ex.empty {r : ByteArray} {cm : Bool} {acc rest : ByteArray} {a : Nat} {o : Option (ByteArray × Nat)} (h : Ex r cm acc rest a o) (hz : rest.size = 0) : o = some (acc, a) := by
  cases h <;> first | rfl | omega

/-- As often as was asked, and no less. -/
theorem Ex.mono {r : ByteArray} {cm : Bool} {acc rest : ByteArray} {a : Nat} {o : Option (ByteArray × Nat)} (h : Ex r cm acc rest a o) : ∀ x b, o = some (x, b) → a ≤ b := by
  induction h with
  | done _ => intro x b e; cases e; exact Nat.le_refl _
  | stay _ _ _ ih => exact ih
  | rem _ _ => intro x b e; cases e; exact Nat.le_refl _
  | full _ _ _ _ _ => intro x b e; cases e
  | num _ _ _ _ ih => intro x b e; have := ih x b e; omega
  | read _ _ _ _ ih => intro x b e; have := ih x b e; omega
  | widNo _ _ _ _ => intro x b e; cases e
  | widFull _ _ _ _ => intro x b e; cases e
  | wid _ _ _ _ _ ih1 ih2 => intro x b e; have h1 := ih1 _ _ rfl; have h2 := ih2 x b e; omega
end Go.Proofs.YtopgbbkndkincaaDoor
