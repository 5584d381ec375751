/- The law's example of fonts. -/
import Derived.Test.YtboophfcakdlcaaFtWidth
import Derived.Deep.DeepCutAuto
namespace Go.Proofs.Ytboophfcakdlcaa
open Go.RowKit Go.PlainAid Go.Shelf

def mAt : Nat := (GR.map Gl.nm).idxOf [109]
theorem m_at : mAt < GR.length ∧ GR[mAt]!.nm = [109] ∧ GR[mAt]!.wd = 750 ∧ ∀ j, j < mAt → GR[j]!.nm ≠ [109] := by decide +kernel
/-- The standard fonts, one by one. -/
theorem std_first {l : List FA} (h : l.map FA.F = [FR, FI, FB, FM, FS]) : ∃ x r, l = x :: r ∧ x.F = FR ∧ r.length = 4 := by
  cases l with
  | nil => cases h
  | cons x r =>
    rw [List.map_cons] at h
    obtain ⟨h1, h2⟩ := List.cons.inj h
    exact ⟨x, r, rfl, h1, by have := congrArg List.length h2; simpa using this⟩
set_option maxRecDepth 100000 in
set_option maxHeartbeats 2000000 in
theorem sane_any (W : World) : Calls Try.prog 16 #[] W (Makes (.bool true) W) := by
  have HSt := Lib.hid (standard_any W)
  unfold StdP at HSt
  go_enter Try.func16, Try.ntmps16
  go_wp2_with fail
  refine HSt.out.mono ?_
  rintro e w1 ⟨g, l, rfl, hl, hr, hok, hb⟩
  obtain ⟨x, r, rfl, hx, hrl⟩ := std_first hl
  have hxo := hok x List.mem_cons_self
  obtain ⟨m1, m2, m3, m4⟩ := m_at
  have hw := width_found x [109] 10 mAt w1 hxo (by rw [hx]; exact valid_R) (by decide) (by rw [hx]; exact m1) (by rw [hx]; exact m2) (by rw [hx]; exact m4)
  have h75 : scaleZ x.F.gs[mAt]!.wd 10 = 75 := by rw [hx, show FR.gs = GR from rfl, m3]; decide
  rw [h75] at hw
  obtain ⟨b, off, ha, hc⟩ := hr
  obtain ⟨hab, _⟩ := ha (by simp)
  obtain ⟨rfl, rfl⟩ : g = b ∧ 0 = off := by have := Option.some.inj hab; simp only [Addr.mk.injEq] at this; exact ⟨this.1, this.2.1⟩
  have cc : ∀ i v, (encF x)[i]? = some v → w1.cell? ⟨g, i, none⟩ = some v := fun i v hv => by
    have := hc 0 (by simp) i v (by simpa using hv)
    simpa using this
  obtain ⟨⟨fn, fs, fz, gs, ls, ks⟩, ag, al, ak, cg, cl, ck⟩ := x
  have c0 := cc 0 _ rfl
  have c1 := cc 1 _ rfl
  have c2 := cc 2 _ rfl
  have c3 := cc 3 _ rfl
  have c4 := cc 4 _ rfl
  have c5 := cc 5 _ rfl
  simp only at c0 c1 c2 c3 c4 c5
  have HW : Hid (Calls Try.prog 18 #[.agg #[.string (mk8 fn), .bool fs, .int .i64 fz, .slice ag gs.length cg, .slice al ls.length cl, .slice ak ks.length ck], .string (mk8 [109]), .int .i64 10] w1 (Makes (.tuple #[.int .i64 75, .int .i64 0]) w1)) := hw
  have HB := Lib.hid hb
  clear hl hok hx hrl hxo m1 m2 m3 m4 hw h75 ha hc hab cc hb HSt
  go_wp2_with fail
  refine HW.out.mono ?_
  rintro e w2 ⟨rfl, hb2⟩
  have HB2 := Lib.hid (HB.out.trans (hb2.mono HB.out.size))
  clear hb2
  go_wp2_with fail
  go_ret
  exact ⟨rfl, HB2.out⟩
end Go.Proofs.Ytboophfcakdlcaa
