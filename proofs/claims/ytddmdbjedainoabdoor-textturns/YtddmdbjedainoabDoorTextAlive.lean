/-
  The closed fact that the statement TextTurns asks first is so.
-/
import Derived.Test.YtddmdbjedainoabDoorTextWrite
namespace Go.Proofs.YtddmdbjedainoabDoor
open Go.RowKit

def lC : ByteArray := ⟨#[99]⟩
def lR : List ByteArray := [tA, tB]
def lW : List ByteArray := [lC]
def lI : List Ins := [(1, 0, 0, 0, tA), (2, 1, 0, -5, tN), (8, 0, 0, 1, tN), (6, 1, 0, 0, lC), (9, 1, 0, 0, tN)]
/-- reads a b; writes c; load r0 a; const r1 -5; skip r0 1; store r1 c; fail r1 -/
def lT : T := [114, 101, 97, 100, 115, 32, 97, 32, 98, 59, 32, 119, 114, 105, 116, 101, 115, 32, 99, 59, 32, 108, 111, 97, 100, 32, 114, 48, 32, 97, 59, 32, 99, 111, 110, 115, 116, 32, 114, 49, 32, 45, 53, 59, 32, 115, 107, 105, 112, 32, 114, 48, 32, 49, 59, 32, 115, 116, 111, 114, 101, 32, 114, 49, 32, 99, 59, 32, 102, 97, 105, 108, 32, 114, 49]
theorem lright : wDeed lR lW lI = 0 := by decide
theorem digits_small {d : Nat} (h : d < 10) : Lib.decDigits d = [UInt8.ofNat (48 + d)] := by rw [Lib.decDigits, dif_pos h]
theorem itoa0 : Lib.itoa 0 = [48] := by
  have := Lib.itoa_nonneg 0
  rw [digits_small (by decide)] at this
  exact this
theorem itoa1 : Lib.itoa 1 = [49] := by
  have := Lib.itoa_nonneg 1
  rw [digits_small (by decide)] at this
  exact this
theorem itoa5 : Lib.itoa (-5) = [45, 53] := by
  have := Lib.itoa_neg 5 (by decide)
  rw [digits_small (by decide)] at this
  exact this
theorem ltext : printT lR lW lI = lT := by
  unfold printT partsOf lR lW lI
  have h1 : insWords (1, 0, 0, 0, tA) = [word 1, [114, 48], [97]] := by
    show [word 1, reg 0, keyT tA] = _
    unfold reg; rw [itoa0]; rfl
  have h2 : insWords (2, 1, 0, -5, tN) = [word 2, [114, 49], [45, 53]] := by
    show [word 2, reg 1, Lib.itoa (-5)] = _
    unfold reg; rw [itoa1, itoa5]
  have h3 : insWords (8, 0, 0, 1, tN) = [word 8, [114, 48], [49]] := by
    show [word 8, reg 0, Lib.itoa 1] = _
    unfold reg; rw [itoa0, itoa1]
  have h4 : insWords (6, 1, 0, 0, lC) = [word 6, [114, 49], [99]] := by
    show [word 6, reg 1, keyT lC] = _
    unfold reg; rw [itoa1]; rfl
  have h5 : insWords (9, 1, 0, 0, tN) = [word 9, [114, 49]] := by
    show [word 9, reg 1] = _
    unfold reg; rw [itoa1]
  simp only [List.map_cons, List.map_nil]
  rw [h1, h2, h3, h4, h5]
  rfl
theorem lread : readT lT = (0, lR, lW, lI) := by rw [← ltext]; exact read_print lright
theorem lsmall : SmallT lR ∧ SmallT lW := by
  constructor <;> intro x hx <;> simp [lR, lW] at hx <;> first | (rcases hx with rfl | rfl <;> decide) | (subst hx; decide)

set_option maxRecDepth 100000 in
set_option maxHeartbeats 2000000 in
theorem lalive_calls (w : World) (hG : Ground w) : Calls Tryd.prog 4 #[] w fun e w' => e = .returned (.bool true) ∧ Below w.heap.size w w' := by
  have HG := hid hG
  have HPA : Hid (∀ s : ByteArray, keyT s = lT → Calls Tryd.prog 7 #[.string s] w fun e w' => PartsTold w (0, lR, lW, lI) e w') := fun s e => by
    have hz := keyT_len s
    have hl : lT.length = 75 := by decide
    have := parse_calls s w hG (by rw [e] at hz; unfold maxLen; omega)
    rw [e, lread] at this
    exact this
  clear hG
  go_enter Tryd.func4, Tryd.ntmps4
  go_wp2_with fail
  refine (HPA.out _ ?_).mono ?_
  · rfl
  rintro e w1 ⟨rb, rn, rc, wb, wn, wc, cb, cn, cc, rfl, hdi, hb1, _⟩
  simp only at hdi
  have hcn : cn = 5 := by have := Codes.count hdi.cd; simpa [lI] using this
  subst hcn
  rcases hdi.cd.run with h | ⟨b, o, rfl, hr⟩
  · omega
  have c3 := (Codes.cells hr (k := 2) (by decide)).2.2.2.1
  have hbw : b < w1.heap.size := hr.lt (by rw [insCells_length]; decide)
  have e1 : (lI.getD 2 default).n = 1 := rfl
  rw [e1] at c3
  have HB1 := hid hb1
  have HDX := hid (hdi.below (grew w1 (.cells #[.slice rb rn rc, .slice wb wn wc, .slice (some ⟨b, o, none⟩) 5 cc] 25)))
  have HPR := hid (print_calls lR lW lI rb rn rc wb wn wc (some ⟨b, o, none⟩) 5 cc _ (HG.out.below (below_deep hb1 (grew w1 (.cells #[.slice rb rn rc, .slice wb wn wc, .slice (some ⟨b, o, none⟩) 5 cc] 25)))) HDX.out lsmall.1 lsmall.2 lright)
  rw [ltext] at HPR
  clear hdi hr e1 hb1
  have hcmp : ((ofT lT).toList == [114, 101, 97, 100, 115, 32, 97, 32, 98, 59, 32, 119, 114, 105, 116, 101, 115, 32, 99, 59, 32, 108, 111, 97, 100, 32, 114, 48, 32, 97, 59, 32, 99, 111, 110, 115, 116, 32, 114, 49, 32, 45, 53, 59, 32, 115, 107, 105, 112, 32, 114, 48, 32, 49, 59, 32, 115, 116, 111, 114, 101, 32, 114, 49, 32, 99, 59, 32, 102, 97, 105, 108, 32, 114, 49]) = true := by rw [text_eq]; exact decide_eq_true rfl
  generalize ofT lT = z at *
  go_wp2_with fail
  refine HPR.out.mono ?_
  rintro e w2 ⟨rfl, hb2⟩
  have HB2 := hid (below_deep (below_deep HB1.out (grew w1 _)) hb2)
  clear hb2
  go_wp2
  go_ret
  exact ⟨rfl, HB2.out⟩
end Go.Proofs.YtddmdbjedainoabDoor
