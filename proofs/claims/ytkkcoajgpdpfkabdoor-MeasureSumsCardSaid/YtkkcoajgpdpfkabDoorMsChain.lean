/- A chain of + and -: the plain mathematics. No Go. -/
import Derived.Test.YtkkcoajgpdpfkabDoorMsLeft
import Derived.Test.YtkkcoajgpdpfkabDoorMsPrefix
namespace Go.Proofs.YtkkcoajgpdpfkabDoor
open Go.RowKit Go.PlainAid

theorem number_blind {s D : ByteArray} {p n : Nat} (hD : Says D n) (h : At s p D) (hs : Stops (bt s (p + D.size))) : Ms.number (blindE s) p = .ok (0, p + D.size) := by
  have hp := hD.pos
  have h1 : Ms.dEnd (blindE s).s p 9 = p + D.size := dEnd_says hD.dig h hs.dig 9 0 (by omega) (by have := hD.le; omega)
  have h2 : Ms.partLen (blindE s).s (p + D.size) = 0 := part_none0 hs.pt
  have h3 : (Ms.unitO (bt (blindE s).s (partEnd (p + D.size) 0)) (blindE s).z (blindE s).v) = none := hs.un
  rw [number_is (E := blindE s) (p := p) h1 h2 (by omega) rfl rfl rfl rfl rfl, h3]
  rfl
theorem operand_blind {s D : ByteArray} {p n : Nat} (br : Nat → Ms.Res (Int × Nat)) (i : Bool) (hD : Says D n) (h : At s p D) (hs : Stops (bt s (p + D.size))) : Ms.operand (blindE s) br i p = .ok (0, p + D.size) := by
  have hc : Ms.digB (bt s p) = true := by have := h 0 hD.pos; rw [Nat.add_zero] at this; rw [this]; exact hD.dig 0 hD.pos
  have hb := byte_sub _ hc
  have h1 : Ms.skp (blindE s).s i p = p := by
    unfold Ms.skp; split
    · exact blanks_not (s := s) (by omega)
    · rfl
  have h2 : Ms.sgnEnd (blindE s).s i p = p := sgn_no (s := s) (by simp [Ms.sgnB]; omega)
  have h3 : ¬ bt (blindE s).s p = 40 := by show ¬ bt s p = 40; omega
  unfold Ms.operand
  simp only [h1, h2, if_neg h3, number_blind hD h hs, Nat.sub_self, Ms.signBack]
theorem expr_blind {s D : ByteArray} {q i n m : Nat} {x : Int} (br : Nat → Ms.Res (Int × Nat)) (ins : Bool) (hi : i < 10) (h : bt s q = opC i) (hD : Says D n) (ha : At s (q + 1) D) (hs : Stops (bt s (q + 1 + D.size))) :
    Ms.exprFrom (blindE s) br ins (m + 1) x q = Ms.exprFrom (blindE s) br ins m 0 (q + 1 + D.size) := by
  have hc : Ms.digB (bt s (q + 1)) = true := by have := ha 0 hD.pos; rw [Nat.add_zero] at this; rw [this]; exact hD.dig 0 hD.pos
  obtain ⟨h1, h2⟩ := opAt_says hi h hc
  have hk : Ms.skp (blindE s).s ins q = q := skp_says (s := s) (by rw [h]; exact opC_ne hi)
  rw [expr_next (E := blindE s) (p := q) (a := q) (k := i + 3) (r := .ok (0, q + 1 + D.size)) hk h1 (by omega) (by rw [h2]; exact operand_blind br ins hD ha hs)]
  rfl

/-- S is a chain of m numbers behind the first one; it says val. -/
def Chain (S : ByteArray) (val : Int) (m : Nat) : Prop := 0 < S.size ∧ ∀ s, At s 0 S → Stops (bt s S.size) → ∀ (br : Nat → Ms.Res (Int × Nat)),
  (∃ v q, Ms.operand (plainE s) br false 0 = .ok (v, q) ∧ ∀ f, Ms.exprFrom (plainE s) br false (m + f) v q = Ms.exprFrom (plainE s) br false f val S.size) ∧
  (∃ v q, Ms.operand (blindE s) br false 0 = .ok (v, q) ∧ ∀ f, ∃ v', Ms.exprFrom (blindE s) br false (m + f) v q = Ms.exprFrom (blindE s) br false f v' S.size)

theorem chain_first {D : ByteArray} {n : Nat} (hD : Says D n) (hn : n ≤ 1000000000) : Chain D n 0 := by
  refine ⟨hD.pos, fun s ha hs br => ⟨?_, ?_⟩⟩
  · have h := operand_says br false hD hn ha (by rw [Nat.zero_add]; exact hs)
    rw [Nat.zero_add] at h
    exact ⟨_, _, h, fun f => by rw [Nat.zero_add]⟩
  · have h := operand_blind br false hD ha (by rw [Nat.zero_add]; exact hs)
    rw [Nat.zero_add] at h
    exact ⟨_, _, h, fun f => ⟨0, by rw [Nat.zero_add]⟩⟩

theorem chain_zero : Chain ⟨#[48]⟩ 0 0 := by
  have h : Says ⟨#[48]⟩ 0 := ⟨fun j hj => by obtain rfl : j = 0 := by (have : (⟨#[48]⟩ : ByteArray).size = 1 := rfl); omega
                                             rfl, by decide, by decide, rfl⟩
  exact chain_first h (Nat.zero_le _)

theorem chain_next {S D : ByteArray} {val : Int} {m n i : Nat} (hi : i < 2) (h : Chain S val m) (hD : Says D n) (hn : n ≤ 1000000000) (h0 : -1000000000 ≤ (if i = 0 then val + n else val - n)) (h1 : (if i = 0 then val + n else val - n) ≤ 1000000000) :
    Chain (S ++ chr (opC i) ++ D) (if i = 0 then val + n else val - n) (m + 1) := by
  have s1 : (S ++ chr (opC i)).size = S.size + 1 := by simp [chr_size]
  have s2 : (S ++ chr (opC i) ++ D).size = S.size + 1 + D.size := by simp [chr_size]
  have c0 : 0 ≤ opC i ∧ opC i ≤ 255 := by
    have : i = 0 ∨ i = 1 := by omega
    rcases this with rfl | rfl <;> simp [opC]
  refine ⟨by rw [s2]; have := h.1; omega, fun s ha hs br => ?_⟩
  have aS : At s 0 S := fun j hj => by
    rw [ha j (by rw [s2]; omega), bt_left _ _ (by rw [s1]; omega), bt_left _ _ hj]
  have aC : bt s S.size = opC i := by
    have := ha S.size (by rw [s2]; omega)
    rw [Nat.zero_add] at this
    rw [this, bt_left _ _ (by rw [s1]; omega)]
    have h2 := bt_right S (chr (opC i)) 0
    rw [Nat.add_zero] at h2
    rw [h2, chr_bt c0.1 c0.2]
  have aD : At s (S.size + 1) D := fun j hj => by
    have := ha (S.size + 1 + j) (by rw [s2]; omega)
    rw [Nat.zero_add] at this
    rw [this]
    have h2 := bt_right (S ++ chr (opC i)) D j
    rw [s1] at h2
    exact h2
  rw [s2] at hs ⊢
  obtain ⟨⟨v, q, ho, hf⟩, ⟨v', q', ho', hf'⟩⟩ := h.2 s aS (by rw [aC]; exact stops_op (by omega)) br
  refine ⟨⟨v, q, ho, fun f => ?_⟩, ⟨v', q', ho', fun f => ?_⟩⟩
  · rw [show m + 1 + f = m + (f + 1) from by omega, hf (f + 1), expr_says br false (by omega) aC hD hn aD hs]
    have hd : Ms.done (plainE s) (i + 3) val n = .ok (if i = 0 then val + n else val - n) := by
      have : i = 0 ∨ i = 1 := by omega
      rcases this with rfl | rfl
      · show Ms.within (val + n) = _
        rw [Ms.within, if_pos ⟨h0, h1⟩]; rfl
      · show Ms.within (val - n) = _
        rw [Ms.within, if_pos ⟨h0, h1⟩]; rfl
    rw [hd]
  · obtain ⟨v'', hv⟩ := hf' (f + 1)
    refine ⟨0, ?_⟩
    rw [show m + 1 + f = m + (f + 1) from by omega, hv, expr_blind br false (by omega) aC hD aD hs]

theorem chain_eval {S : ByteArray} {val : Int} {m : Nat} (h : Chain S val m) (hm : m ≤ S.size) : evalM S 117 0 0 0 = .ok val := by
  rw [evalM_plain]
  obtain ⟨⟨v, q, ho, hf⟩, _⟩ := h.2 S (fun j hj => by rw [Nat.zero_add]) (by rw [bt_end S (Nat.le_refl _)]; exact stops_end) (Ms.brk (plainE S) 20)
  have hsz := hf (S.size - m + 1)
  rw [show m + (S.size - m + 1) = S.size + 1 from by omega] at hsz
  unfold Ms.eval Ms.sum
  rw [ho]
  simp only []
  rw [show (plainE S).s.size = S.size from rfl, hsz, expr_end _ false (.inl (bt_end S (Nat.le_refl _)))]
  simp only []
  rw [if_neg (by omega)]

theorem extract_left (a d : ByteArray) : (a ++ d).extract 0 a.size = a := by
  rw [Lib.extract_eq]
  have : (a ++ d).data.toList = a.data.toList ++ d.data.toList := by simp [ByteArray.data_append]
  rw [this, List.drop_zero, Nat.sub_zero, Lib.size_eq, List.take_left]

theorem chain_formed {S T : ByteArray} {val : Int} {m : Nat} (h : Chain S val m) (hm : m ≤ S.size) (hT : bt T 0 = 32) : formedM (S ++ T) = S.size := by
  have hb : bt (S ++ T) S.size = 32 := by have := bt_right S T 0; rw [Nat.add_zero] at this; rw [this, hT]
  have hsp : Stops 32 := ⟨rfl, by omega, rfl⟩
  obtain ⟨_, ⟨v, q, ho, hf⟩⟩ := h.2 (S ++ T) (at_self S T) (by rw [hb]; exact hsp) (Ms.brk (blindE (S ++ T)) 20)
  have hsz : (S ++ T).size = S.size + T.size := ByteArray.size_append
  obtain ⟨v', hv⟩ := hf ((S ++ T).size - m + 1)
  rw [show m + ((S ++ T).size - m + 1) = (S ++ T).size + 1 from by omega] at hv
  unfold formedM Ms.sum
  rw [ho]
  simp only []
  rw [show (blindE (S ++ T)).s.size = (S ++ T).size from rfl, hv]
  rw [expr_13 (E := blindE (S ++ T)) (a := S.size) rfl (by simp [Ms.opAt, Ms.opFrom, Ms.opIs, show bt (blindE (S ++ T)).s S.size = 32 from hb])]

theorem chain_prefix {S T : ByteArray} {val : Int} {m : Nat} (h : Chain S val m) (hm : m ≤ S.size) (hT : bt T 0 = 32) : prefixM (S ++ T) 117 0 0 0 = .ok (val, S.size) := by
  have hp := h.1
  have e : prefixM (S ++ T) 117 0 0 0 = (if formedM (S ++ T) = 0 then .er 4 else (match evalM ((S ++ T).extract 0 (formedM (S ++ T))) 117 0 0 0 with | .ok x => .ok (x, formedM (S ++ T)) | .er e => .er e)) := rfl
  rw [e, chain_formed h hm hT, if_neg (by omega), extract_left, chain_eval h hm]
end Go.Proofs.YtkkcoajgpdpfkabDoor
