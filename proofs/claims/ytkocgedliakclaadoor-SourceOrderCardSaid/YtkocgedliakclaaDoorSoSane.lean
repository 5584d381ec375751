/- The law's fixed example. -/
import Derived.Test.YtkocgedliakclaaDoorSoCalls
namespace Go.Proofs.YtkocgedliakclaaDoor
open Go.RowKit Go.PlainAid Go.Maps Go.Shelf

def SkNewP (w : World) (e : Ending) (w' : World) : Prop := ∃ b, e = .returned (.pointer (some ⟨b, 0, none⟩)) ∧ SkAt w.heap.size (w.heap.size ≤ ·) b (.slice none 0 0) [] w' ∧ Below w.heap.size w w'
theorem skNew_any (w : World) : Calls Tryd.prog 16 #[] w (SkNewP w) := by
  go_enter Tryd.func16, Tryd.ntmps16
  go_wp2
  go_ret
  refine ⟨w.heap.size, rfl, ⟨heap_alloc_new w _, .inl ⟨rfl, rfl⟩, Nat.le_refl _, fun k hk => hk, (fun f hf => by cases hf), Nat.zero_le _⟩, (Below.refl _ _).alloc (Nat.le_refl _) _⟩

def nmF : ByteArray := ⟨#[102]⟩
def nmM : ByteArray := ⟨#[109]⟩
def txAB : ByteArray := ⟨#[97, 10, 98, 10]⟩
def lnA : LineC := ⟨⟨#[97]⟩, false, 0, 0, []⟩
def lnB : LineC := ⟨⟨#[98]⟩, false, 0, 0, []⟩
def lnCc : LineC := ⟨⟨#[99]⟩, false, 0, 0, []⟩
def frF : FrC := ⟨1, nmF, [lnA, lnB], 0, []⟩
def frM : FrC := ⟨2, nmM, [lnCc], 0, []⟩
theorem txAB_lines : textC (linesT txAB) = [lnA, lnB] := by kernel_rfl
theorem canF : canB nmF = true := by decide
theorem canM : canB nmM = true := by decide
theorem goodAB : goodC (textC (linesT txAB)) = true := by kernel_rfl
theorem goodC1 : goodC [lnCc] = true := by kernel_rfl
theorem cntAB : Lib.countB txAB nlB ≤ 20000 := by
  have : Lib.countB txAB nlB = 2 := by kernel_rfl
  omega
theorem up1 : upTo staysB [frF.at 1] = [frF.at 1] := by kernel_rfl
theorem fit1 : Fit [lnCc] := ⟨fun x hx => by rw [List.mem_singleton.1 hx]; decide, by decide, fun x hx => by rw [List.mem_singleton.1 hx]; decide, fun x hx y hy => by rw [List.mem_singleton.1 hx] at hy; cases hy⟩
end Go.Proofs.YtkocgedliakclaaDoor
