/- Append, to a string that is there. -/
import Derived.Test.YtkocgedliakclaaStOps
namespace Go.Proofs.Ytkocgedliakclaa
open Go.RowKit Go.PlainAid Go.Maps Go.Shelf

theorem field_text (a b c : Value) (w : World) : (Instr.field 53 (.agg #[a, b, c]) 1).run Try.prog w = .ok b w := by kernel_rfl
section
variable {B b mb n : Nat} {D : DataW Unit} {E : Nat → Option Ent} {w : World}
set_option maxRecDepth 100000 in
set_option maxHeartbeats 1000000 in
theorem append_old (h : StAt B b mb n D E w) (s t : ByteArray) (ht : textB t = true) (hn : nameErr s = 0) {eb : Nat} {t0 : ByteArray} (hl : leads D s eb) (he : E eb = some (strE t0)) (hsz : t0.size + t.size ≤ 2000) :
    Calls Try.prog 9 #[.pointer (some ⟨b, 0, none⟩), .string s, .string t] w (PutOldP B b mb n D E eb (strE (t0 ++ t)) w) := by
  have HT := Lib.hid (isText_any t w)
  rw [ht] at HT
  have HR := Lib.hid (refusal_fit s h.cell)
  rw [hn] at HR
  have hm := nameErr_max hn
  have HL := Lib.hid hl
  have HE := Lib.hid he
  have HS := Lib.hid h
  have hfl := field_text
  clear ht hn hl he h
  go_enter Try.func9, Try.ntmps9
  go_wp2_with fail
  refine (HT.out).mono ?_
  rintro e w1 ⟨rfl, rfl⟩
  go_wp2_with fail
  refine (HR.out).mono ?_
  rintro e w1 ⟨rfl, hb⟩
  have HA := Lib.hid (at_yes (HS.out.below hb) hm HL.out HE.out)
  have HB := Lib.hid hb
  clear hb HR HT
  go_wp2_with fail
  refine (HA.out).mono ?_
  rintro e w2 ⟨rfl, hb2⟩
  have HP := Lib.hid (put_old ((HS.out.below HB.out).below hb2) hm (strE (t0 ++ t)) HL.out HE.out)
  have HB2 := Lib.hid hb2
  clear hb2 HA
  go_wp2_with fail
  refine (HP.out).mono ?_
  rintro e w3 ⟨rfl, hS, hg⟩
  go_wp2_with fail
  go_ret
  exact ⟨rfl, hS, grown_trans (grown_trans (grown_below HB.out _) (grown_below HB2.out _)) hg⟩
end
end Go.Proofs.Ytkocgedliakclaa
