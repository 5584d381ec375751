/- Lists of glyphs, ligatures, kerns compared. -/
import Derived.Test.YtboophfcakdlcaaFtFive
import Derived.Laws.StructEq
namespace Go.Proofs.Ytboophfcakdlcaa
open Go.RowKit Go.PlainAid Go.Shelf

def eqG (x y : Gl) : Bool := x.nm == y.nm && x.wd == y.wd
def eqLg (x y : Lg) : Bool := x.a == y.a && (x.b == y.b && x.is == y.is)
def eqKn (x y : Kn) : Bool := x.a == y.a && (x.b == y.b && x.more == y.more)
theorem neq_G (T : TypeId) (hT : T = 44) : NeqAt Try.prog T (fun x => .agg (encG x).toArray) eqG := by
  subst hT
  refine ⟨fun x y w => ?_, GuardAt.agg _ (by kernel_rfl)⟩
  have u3 := Try.underlying3
  have u9 := Try.underlying9
  have a3 := Try.isAgg3
  have a9 := Try.isAgg9
  have hS : Try.prog.underlying 44 = some (.struct (Try.prog.fieldsOf 44)) := by kernel_rfl
  have hp : Try.prog.stoodInHeld 44 = false := by kernel_rfl
  simp only [encG]
  rw [run_neq_struct, show (10000 : Nat) = 9999 + 1 from rfl, run_equalIn_agg w 9999 44 _ _ hS hp]
  simp only [Program.fieldsOf, Try.underlying44]
  go_simp
  unfold eqG
  cases h1 : x.nm == y.nm <;> cases h2 : x.wd == y.wd <;> simp_all
theorem neq_Lg (T : TypeId) (hT : T = 89) : NeqAt Try.prog T (fun x => .agg (encLg x).toArray) eqLg := by
  subst hT
  refine ⟨fun x y w => ?_, GuardAt.agg _ (by kernel_rfl)⟩
  have u3 := Try.underlying3
  have u9 := Try.underlying9
  have a3 := Try.isAgg3
  have a9 := Try.isAgg9
  have hS : Try.prog.underlying 89 = some (.struct (Try.prog.fieldsOf 89)) := by kernel_rfl
  have hp : Try.prog.stoodInHeld 89 = false := by kernel_rfl
  simp only [encLg]
  rw [run_neq_struct, show (10000 : Nat) = 9999 + 1 from rfl, run_equalIn_agg w 9999 89 _ _ hS hp]
  simp only [Program.fieldsOf, Try.underlying89]
  go_simp
  unfold eqLg
  cases h1 : x.a == y.a <;> cases h2 : x.b == y.b <;> cases h3 : x.is == y.is <;> simp_all
theorem neq_Kn (T : TypeId) (hT : T = 90) : NeqAt Try.prog T (fun x => .agg (encKn x).toArray) eqKn := by
  subst hT
  refine ⟨fun x y w => ?_, GuardAt.agg _ (by kernel_rfl)⟩
  have u3 := Try.underlying3
  have u9 := Try.underlying9
  have a3 := Try.isAgg3
  have a9 := Try.isAgg9
  have hS : Try.prog.underlying 90 = some (.struct (Try.prog.fieldsOf 90)) := by kernel_rfl
  have hp : Try.prog.stoodInHeld 90 = false := by kernel_rfl
  simp only [encKn]
  rw [run_neq_struct, show (10000 : Nat) = 9999 + 1 from rfl, run_equalIn_agg w 9999 90 _ _ hS hp]
  simp only [Program.fieldsOf, Try.underlying90]
  go_simp
  unfold eqKn
  cases h1 : x.a == y.a <;> cases h2 : x.b == y.b <;> cases h3 : x.more == y.more <;> simp_all
theorem below_drewN' {B : Nat} {w w' : World} (h : Below B w w') : ∀ q, Below B w (w'.drewN q) := fun q => by
  induction q with
  | zero => exact h
  | succ q ih => exact ih.drew
set_option maxRecDepth 100000 in
set_option maxHeartbeats 2000000 in
theorem equalG_any (ao1 ao2 : Option Addr) (xs ys : List Gl) (c d : Nat) (w : World) (h1 : RowK encG 2 ao1 xs w) (h2 : RowK encG 2 ao2 ys w) (hl : xs.length ≤ 1000000) (hl2 : ys.length ≤ 1000000) :
    Calls Try.prog 44 #[.slice ao1 xs.length c, .slice ao2 ys.length d] w (Makes (.bool (Lib.allEq eqG xs ys)) w) := by
  by_cases hne : xs.length = ys.length
  · by_cases h0 : xs.length = 0
    · have e1 : xs = [] := List.eq_nil_of_length_eq_zero h0
      have e2 : ys = [] := List.eq_nil_of_length_eq_zero (by omega)
      subst e1 e2
      clear h1 h2
      show Calls _ _ #[.slice ao1 0 c, .slice ao2 0 d] w (Makes (.bool true) w)
      go_enter Try.func44, Try.ntmps44
      go_wp2_with fail
      go_loop [13] (fun i => i = .int .i64 0) (fun _ => 0)
      case atStart => rfl
      case round =>
        subst hrel
        go_wp2_with fail
        go_ret
        exact ⟨rfl, Below.refl _ _⟩
    · obtain ⟨b1, o1, ha1, hr1⟩ := h1
      obtain ⟨b2, o2, ha2, hr2⟩ := h2
      obtain ⟨rfl, _⟩ := ha1 (by omega)
      obtain ⟨rfl, _⟩ := ha2 (by omega)
      have h := AnyQ.slices_Equal Try.equalG 2 Try.isAgg44 Try.sizeOf44 encG (fun _ => rfl) eqG (neq_G _ rfl) b1 o1 xs.length c b2 o2 ys.length d xs ys w (Nat.le_refl _) (Nat.le_refl _) (by omega) (by omega) hr1 hr2
      rw [List.take_length, List.take_length] at h
      exact h.mono fun e w' ⟨he, q, hq⟩ => ⟨he, by rw [hq]; exact below_drewN' (Below.refl _ _) q⟩
  · rw [Lib.allEq_len _ _ _ hne]
    have d1 : ((xs.length : Int) != (ys.length : Int)) = true := by simp; omega
    clear h1 h2
    go_enter Try.func44, Try.ntmps44
    go_wp2_with fail
    go_ret
    exact ⟨rfl, Below.refl _ _⟩
set_option maxRecDepth 100000 in
set_option maxHeartbeats 2000000 in
theorem equalLg_any (ao1 ao2 : Option Addr) (xs ys : List Lg) (c d : Nat) (w : World) (h1 : RowK encLg 3 ao1 xs w) (h2 : RowK encLg 3 ao2 ys w) (hl : xs.length ≤ 1000000) (hl2 : ys.length ≤ 1000000) :
    Calls Try.prog 45 #[.slice ao1 xs.length c, .slice ao2 ys.length d] w (Makes (.bool (Lib.allEq eqLg xs ys)) w) := by
  by_cases hne : xs.length = ys.length
  · by_cases h0 : xs.length = 0
    · have e1 : xs = [] := List.eq_nil_of_length_eq_zero h0
      have e2 : ys = [] := List.eq_nil_of_length_eq_zero (by omega)
      subst e1 e2
      clear h1 h2
      show Calls _ _ #[.slice ao1 0 c, .slice ao2 0 d] w (Makes (.bool true) w)
      go_enter Try.func45, Try.ntmps45
      go_wp2_with fail
      go_loop [13] (fun i => i = .int .i64 0) (fun _ => 0)
      case atStart => rfl
      case round =>
        subst hrel
        go_wp2_with fail
        go_ret
        exact ⟨rfl, Below.refl _ _⟩
    · obtain ⟨b1, o1, ha1, hr1⟩ := h1
      obtain ⟨b2, o2, ha2, hr2⟩ := h2
      obtain ⟨rfl, _⟩ := ha1 (by omega)
      obtain ⟨rfl, _⟩ := ha2 (by omega)
      have h := AnyQ.slices_Equal Try.equalLg 3 Try.isAgg89 Try.sizeOf89 encLg (fun _ => rfl) eqLg (neq_Lg _ rfl) b1 o1 xs.length c b2 o2 ys.length d xs ys w (Nat.le_refl _) (Nat.le_refl _) (by omega) (by omega) hr1 hr2
      rw [List.take_length, List.take_length] at h
      exact h.mono fun e w' ⟨he, q, hq⟩ => ⟨he, by rw [hq]; exact below_drewN' (Below.refl _ _) q⟩
  · rw [Lib.allEq_len _ _ _ hne]
    have d1 : ((xs.length : Int) != (ys.length : Int)) = true := by simp; omega
    clear h1 h2
    go_enter Try.func45, Try.ntmps45
    go_wp2_with fail
    go_ret
    exact ⟨rfl, Below.refl _ _⟩
set_option maxRecDepth 100000 in
set_option maxHeartbeats 2000000 in
theorem equalKn_any (ao1 ao2 : Option Addr) (xs ys : List Kn) (c d : Nat) (w : World) (h1 : RowK encKn 3 ao1 xs w) (h2 : RowK encKn 3 ao2 ys w) (hl : xs.length ≤ 1000000) (hl2 : ys.length ≤ 1000000) :
    Calls Try.prog 46 #[.slice ao1 xs.length c, .slice ao2 ys.length d] w (Makes (.bool (Lib.allEq eqKn xs ys)) w) := by
  by_cases hne : xs.length = ys.length
  · by_cases h0 : xs.length = 0
    · have e1 : xs = [] := List.eq_nil_of_length_eq_zero h0
      have e2 : ys = [] := List.eq_nil_of_length_eq_zero (by omega)
      subst e1 e2
      clear h1 h2
      show Calls _ _ #[.slice ao1 0 c, .slice ao2 0 d] w (Makes (.bool true) w)
      go_enter Try.func46, Try.ntmps46
      go_wp2_with fail
      go_loop [13] (fun i => i = .int .i64 0) (fun _ => 0)
      case atStart => rfl
      case round =>
        subst hrel
        go_wp2_with fail
        go_ret
        exact ⟨rfl, Below.refl _ _⟩
    · obtain ⟨b1, o1, ha1, hr1⟩ := h1
      obtain ⟨b2, o2, ha2, hr2⟩ := h2
      obtain ⟨rfl, _⟩ := ha1 (by omega)
      obtain ⟨rfl, _⟩ := ha2 (by omega)
      have h := AnyQ.slices_Equal Try.equalKn 3 Try.isAgg90 Try.sizeOf90 encKn (fun _ => rfl) eqKn (neq_Kn _ rfl) b1 o1 xs.length c b2 o2 ys.length d xs ys w (Nat.le_refl _) (Nat.le_refl _) (by omega) (by omega) hr1 hr2
      rw [List.take_length, List.take_length] at h
      exact h.mono fun e w' ⟨he, q, hq⟩ => ⟨he, by rw [hq]; exact below_drewN' (Below.refl _ _) q⟩
  · rw [Lib.allEq_len _ _ _ hne]
    have d1 : ((xs.length : Int) != (ys.length : Int)) = true := by simp; omega
    clear h1 h2
    go_enter Try.func46, Try.ntmps46
    go_wp2_with fail
    go_ret
    exact ⟨rfl, Below.refl _ _⟩
end Go.Proofs.Ytboophfcakdlcaa
