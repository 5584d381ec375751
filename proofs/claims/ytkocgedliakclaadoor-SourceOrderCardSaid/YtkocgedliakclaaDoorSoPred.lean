/- What is asked of a frame; whether a stack is none. -/
import Derived.Test.YtkocgedliakclaaDoorSoBook
namespace Go.Proofs.YtkocgedliakclaaDoor
open Go.RowKit Go.PlainAid Go.Maps Go.Shelf

abbrev frV (f : FrC) (lv av : Value) : Value := .agg #[.int .i64 f.kind, .string f.name, lv, .int .i64 f.next, av]
/-- Function k tells p of a frame. -/
def Tells (k : Nat) (p : FrC → Bool) : Prop :=
  ∀ (f : FrC) (la : Option Addr) (lc : Nat) (aa : Option Addr) (ac : Nat) (W : World), Calls Tryd.prog k #[.agg #[.int .i64 f.kind, .string f.name, .slice la f.lines.length lc, .int .i64 f.next, .slice aa f.args.length ac]] W (Makes (.bool (p f)) W)

def isFileB (f : FrC) : Bool := f.kind == 1
def isMacroB (f : FrC) : Bool := f.kind == 2
def isNamedB (f : FrC) : Bool := f.kind == 1 || f.kind == 2
def isUnreadB (f : FrC) : Bool := decide (f.next < f.lines.length)
def staysB (f : FrC) : Bool := isNamedB f || isUnreadB f

theorem isFile_tells : Tells 31 isFileB := fun f la lc aa ac W => by
  unfold isFileB
  obtain ⟨c, hc⟩ : ∃ c, (f.kind == 1) = c := ⟨_, rfl⟩
  rw [hc]
  go_enter Tryd.func31, Tryd.ntmps31
  go_wp2_with fail
  go_ret
  exact ⟨rfl, (Below.refl _ _).alloc (Nat.le_refl _) _⟩
theorem isMacro_tells : Tells 33 isMacroB := fun f la lc aa ac W => by
  unfold isMacroB
  obtain ⟨c, hc⟩ : ∃ c, (f.kind == 2) = c := ⟨_, rfl⟩
  rw [hc]
  go_enter Tryd.func33, Tryd.ntmps33
  go_wp2_with fail
  go_ret
  exact ⟨rfl, (Below.refl _ _).alloc (Nat.le_refl _) _⟩
theorem isUnread_tells : Tells 39 isUnreadB := fun f la lc aa ac W => by
  unfold isUnreadB
  obtain ⟨c, hc⟩ : ∃ c, decide (f.next < f.lines.length) = c := ⟨_, rfl⟩
  have hc2 : decide ((f.next : Int) < f.lines.length) = c := by rw [← hc]; exact decide_eq_decide.2 (by omega)
  rw [hc]
  go_enter Tryd.func39, Tryd.ntmps39
  go_wp2_with fail
  go_ret
  exact ⟨rfl, (Below.refl _ _).alloc (Nat.le_refl _) _⟩
theorem isNamed_tells : Tells 32 isNamedB := fun f la lc aa ac W => by
  have HF := Lib.hid (isFile_tells f la lc aa ac)
  have HM := Lib.hid (isMacro_tells f la lc aa ac)
  unfold isNamedB
  cases h1 : (f.kind == 1)
  · rw [show isFileB f = false from h1] at HF
    rw [show isMacroB f = (f.kind == 2) from rfl] at HM
    obtain ⟨c, hc⟩ : ∃ c, (f.kind == 2) = c := ⟨_, rfl⟩
    rw [hc] at HM ⊢
    clear hc h1
    go_enter Tryd.func32, Tryd.ntmps32
    go_wp2_with fail
    refine (HF.out _).mono ?_
    rintro e w1 ⟨rfl, hb1⟩
    have HB1 := Lib.hid hb1
    have hc0 := fun (k : Nat) => hb1.cell (p := ⟨W.heap.size, k, none⟩) (by simp)
    clear hb1
    go_wp2_with fail
    refine (HM.out _).mono ?_
    rintro e w2 ⟨rfl, hb2⟩
    go_wp2_with fail
    go_ret
    have h0 : Below W.heap.size W (W.alloc (.cells #[.int .i64 f.kind, .string f.name, .slice la f.lines.length lc, .int .i64 f.next, .slice aa f.args.length ac] 64)) := (Below.refl _ _).alloc (Nat.le_refl _) _
    have h1 := h0.trans (Below.mono HB1.out (by simp))
    exact ⟨by simp, h1.trans (Below.mono hb2 h1.size)⟩
  · rw [show isFileB f = true from h1] at HF
    clear h1
    go_enter Tryd.func32, Tryd.ntmps32
    go_wp2_with fail
    refine (HF.out _).mono ?_
    rintro e w1 ⟨rfl, hb1⟩
    go_wp2_with fail
    go_ret
    have h0 : Below W.heap.size W (W.alloc (.cells #[.int .i64 f.kind, .string f.name, .slice la f.lines.length lc, .int .i64 f.next, .slice aa f.args.length ac] 64)) := (Below.refl _ _).alloc (Nat.le_refl _) _
    exact ⟨rfl, h0.trans (Below.mono hb1 (by simp))⟩
theorem stays_tells : Tells 47 staysB := fun f la lc aa ac W => by
  have HF := Lib.hid (isNamed_tells f la lc aa ac)
  have HM := Lib.hid (isUnread_tells f la lc aa ac)
  unfold staysB
  cases h1 : isNamedB f
  · rw [h1] at HF
    obtain ⟨c, hc⟩ : ∃ c, isUnreadB f = c := ⟨_, rfl⟩
    rw [hc] at HM ⊢
    clear hc h1
    go_enter Tryd.func47, Tryd.ntmps47
    go_wp2_with fail
    refine (HF.out _).mono ?_
    rintro e w1 ⟨rfl, hb1⟩
    have HB1 := Lib.hid hb1
    have hc0 := fun (k : Nat) => hb1.cell (p := ⟨W.heap.size, k, none⟩) (by simp)
    clear hb1
    go_wp2_with fail
    refine (HM.out _).mono ?_
    rintro e w2 ⟨rfl, hb2⟩
    go_wp2_with fail
    go_ret
    have h0 : Below W.heap.size W (W.alloc (.cells #[.int .i64 f.kind, .string f.name, .slice la f.lines.length lc, .int .i64 f.next, .slice aa f.args.length ac] 64)) := (Below.refl _ _).alloc (Nat.le_refl _) _
    have h1 := h0.trans (Below.mono HB1.out (by simp))
    exact ⟨by simp, h1.trans (Below.mono hb2 h1.size)⟩
  · rw [h1] at HF
    clear h1
    go_enter Tryd.func47, Tryd.ntmps47
    go_wp2_with fail
    refine (HF.out _).mono ?_
    rintro e w1 ⟨rfl, hb1⟩
    go_wp2_with fail
    go_ret
    have h0 : Below W.heap.size W (W.alloc (.cells #[.int .i64 f.kind, .string f.name, .slice la f.lines.length lc, .int .i64 f.next, .slice aa f.args.length ac] 64)) := (Below.refl _ _).alloc (Nat.le_refl _) _
    exact ⟨rfl, h0.trans (Below.mono hb1 (by simp))⟩

theorem skNone_any {b : Nat} {w : World} (hc : w.cell? ⟨b, 0, none⟩ = some (.bool true)) : Calls Tryd.prog 29 #[.pointer (some ⟨b, 0, none⟩)] w (Says (.bool false) w) := by
  go_enter Tryd.func29, Tryd.ntmps29
  go_wp2_with fail
  go_ret
  exact ⟨rfl, rfl⟩
theorem skNone_unmade {b : Nat} {w : World} (hc : w.cell? ⟨b, 0, none⟩ = some (.bool false)) : Calls Tryd.prog 29 #[.pointer (some ⟨b, 0, none⟩)] w (Says (.bool true) w) := by
  go_enter Tryd.func29, Tryd.ntmps29
  go_wp2_with fail
  go_ret
  exact ⟨rfl, rfl⟩
theorem skNone_nil (w : World) : Calls Tryd.prog 29 #[.pointer none] w (Says (.bool true) w) := by
  go_enter Tryd.func29, Tryd.ntmps29
  go_wp2_with fail
  go_ret
  exact ⟨rfl, rfl⟩
end Go.Proofs.YtkocgedliakclaaDoor
