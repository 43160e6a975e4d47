/-
  The closed fact that the statements of chapter 1 ask first is so.
-/
import Derived.Test.YtkbgknlndcmgbaaPut
import Derived.Test.YtkbgknlndcmgbaaWrong
namespace Go.Proofs.Ytkbgknlndcmgbaa
open Go.RowKit

/-- The keys a, b and abc. -/
def kA : ByteArray := ⟨#[97]⟩
def kB : ByteArray := ⟨#[98]⟩
def kC : ByteArray := ⟨#[97, 98, 99]⟩
/-- The rows that are made. -/
def rAB : List Row := [(kA, 1), (kB, 2)]

theorem less_ab : less kA kB = true := by
  rw [less_def, ByteArray.toList_eq, ByteArray.toList_eq]; decide
theorem less_ba : less kB kA = false := less_asymm less_ab
theorem put_b : ins kB 2 [] = [(kB, 2)] := rfl
theorem put_ab : ins kA 1 [(kB, 2)] = rAB := by simp [ins, less_ab, less_ba, rAB]
theorem srt_ab : Srt rAB := by simp [Srt, rAB, less_ab]
theorem drop_ab : del kA rAB = [(kB, 2)] := by simp [del, rAB, less_irrefl]
theorem num_ab : num kB rAB = 2 := by simp [num, rAB, less_ab, less_irrefl]
theorem isAt_ab : isAt kB rAB = true := by simp [isAt, rAB, less_ab, less_irrefl]
theorem key_a : keyB kA = true := by decide
theorem key_b : keyB kB = true := by decide
theorem key_c : keyB kC = true := by decide
theorem wrong_ab : wrong rAB = 0 := by
  refine right_wrong ⟨srt_ab, fun x hx => ?_, fun x hx => ?_, fun x hx => ?_⟩ <;> (simp [rAB] at hx; rcases hx with rfl | rfl <;> first | exact key_a | exact key_b | decide)
theorem small_ab : Small rAB := fun x hx => by
  simp [rAB] at hx; rcases hx with rfl | rfl <;> decide

set_option maxHeartbeats 1000000 in
theorem alive_calls (w : World) : Calls Try.prog 20 #[] w fun e w' => e = .returned (.bool true) ∧ Below w.heap.size w w' := by
  have P1 := hid (put_calls [] none 0 0 kB 2 w (by omega) List.Pairwise.nil (Holds.empty w rfl rfl ⟨Nat.le_refl _, Nat.zero_le _, fun _ => rfl⟩))
  rw [put_b] at P1
  go_enter Try.func20, Try.ntmps20
  go_wp2_with fail
  refine P1.out.mono ?_
  rintro e w1 ⟨b1, n1, c1, rfl, h1, hb1⟩
  have P2 := hid (put_calls [(kB, 2)] b1 n1 c1 kA 1 w1 (by have := h1.len; simp at this; omega) (by simp [Srt]) h1)
  rw [put_ab] at P2
  clear h1
  go_wp2_with fail
  refine P2.out.mono ?_
  rintro e w2 ⟨b2, n2, c2, rfl, h2, hb2⟩
  obtain rfl : n2 = 2 := h2.len
  have P3 := hid (get_calls rAB b2 c2 kB w2 (by simp [rAB]) srt_ab h2.seg)
  rw [num_ab, isAt_ab] at P3
  have H2 := hid h2
  clear h2
  have HB := hid (hb1.trans (hb2.mono hb1.size))
  clear hb1 hb2
  go_wp2_with fail
  refine P3.out.mono ?_
  rintro e w3 ⟨rfl, hb3⟩
  have H3 := hid (H2.out.below hb3)
  have HB3 := hid (HB.out.trans (hb3.mono HB.out.size))
  rcases H3.out.seg with h | ⟨b, o, rfl, hc⟩
  · simp [rAB] at h
  have hc0 := (hc 0 (by simp [rAB])).1
  simp only [Nat.zero_mul, Nat.add_zero, rAB, List.getD_cons_zero] at hc0
  have hkA : (kA.toList == [97]) = true := by rw [ByteArray.toList_eq]; decide
  have P4 := hid (drop_calls rAB (some ⟨b, o, none⟩) 2 c2 kA w3 (by omega) srt_ab H3.out)
  rw [drop_ab] at P4
  clear hc hb3
  go_wp2_with fail
  refine P4.out.mono ?_
  rintro e w4 ⟨b4, n4, c4, rfl, h4, hb4⟩
  obtain rfl : n4 = 1 := h4.len
  have H4 := hid (H3.out.below hb4)
  have HB4 := hid (HB3.out.trans (hb4.mono HB3.out.size))
  have P5 := hid (wrong_calls rAB (some ⟨b, o, none⟩) c2 w4 (by simp [rAB, maxLen]) small_ab H4.out.seg)
  rw [wrong_ab] at P5
  clear h4 hb4
  go_wp2_with fail
  refine P5.out.mono ?_
  rintro e w5 ⟨rfl, hb5⟩
  have HB5 := hid (HB4.out.trans (hb5.mono HB4.out.size))
  have P6 := hid (key_calls kC w5 (by decide))
  rw [key_c] at P6
  clear hb5
  go_wp2_with fail
  refine P6.out.mono ?_
  rintro e w6 ⟨rfl, rfl⟩
  have P7 := hid (round_calls 1073741826 w5)
  go_wp2_with fail
  refine P7.out.mono ?_
  rintro e w7 ⟨rfl, rfl⟩
  go_wp2
  go_ret
  exact ⟨rfl, HB5.out⟩
end Go.Proofs.Ytkbgknlndcmgbaa
