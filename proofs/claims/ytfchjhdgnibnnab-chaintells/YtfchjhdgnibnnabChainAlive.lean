/-
  The closed fact that the statements of chapter 5 ask first is so.
-/
import Derived.Test.YtfchjhdgnibnnabChainRows
import Derived.Test.YtfchjhdgnibnnabPut
namespace Go.Proofs.Ytfchjhdgnibnnab
open Go.RowKit

def cA0 : List Row := [(⟨#[97]⟩, 5)]
def cA1 : List Chn := [(⟨#[97]⟩, [(-1, true, true, 5), (3, false, false, 0)])]
def cA2 : List Chn := [(⟨#[97]⟩, [(-1, true, true, 5), (3, true, true, 6)])]
theorem cA0_right : Right cA0 := by
  refine ⟨by simp [Srt, cA0], fun x hx => ?_, fun x hx => ?_, fun x hx => ?_⟩ <;> (simp [cA0] at hx; rw [hx]; decide)
theorem cA0_small : Small cA0 := fun x hx => by simp [cA0] at hx; rw [hx]; decide
theorem cA1_is : addC ⟨#[97]⟩ 3 (ofRows cA0) = cA1 := by simp [addC, ofRows, cA0, cA1, less_irrefl, newV]
theorem cA2_is : setC ⟨#[97]⟩ (3, true, true, 6) cA1 = cA2 := by simp [setC, cA1, cA2, setV, Ver.by_]
theorem cA1_fit : FitC cA1 := ⟨by simp [SrtC, cA1], fun c hc => by simp [cA1] at hc; rw [hc]; decide, fun c hc => by simp [cA1] at hc; rw [hc]; simp [Rise, Ver.by_], fun c hc => by simp [cA1] at hc; rw [hc]; decide⟩
theorem cA2_fit : FitC cA2 := ⟨by simp [SrtC, cA2], fun c hc => by simp [cA2] at hc; rw [hc]; decide, fun c hc => by simp [cA2] at hc; rw [hc]; simp [Rise, Ver.by_], fun c hc => by simp [cA2] at hc; rw [hc]; decide⟩
theorem cA1_b3 : before cA1 ⟨#[97]⟩ 3 = (-1, true, true, 5) := by simp [before, vsOf, cA1, befV, Ver.by_]
theorem cA1_b4 : before cA1 ⟨#[97]⟩ 4 = (3, false, false, 0) := by simp [before, vsOf, cA1, befV, Ver.by_]
theorem cA2_rows : rowsC cA2 9 = some [(⟨#[97]⟩, 6)] := by simp [rowsC, rowsGo, before, vsOf, cA2, befV, Ver.by_, Ver.made, Ver.has_, Ver.n]
theorem cA1_rows : rowsC cA1 9 = none := by simp [rowsC, rowsGo, before, vsOf, cA1, befV, Ver.by_, Ver.made]
theorem cA2_clear : clearC 9 cA2 = [(⟨#[97]⟩, [(3, true, true, 6)])] := by simp [clearC, clearV, cA2, laterV, Ver.by_, Ver.made, Ver.has_]

set_option maxHeartbeats 2000000 in
theorem calive_calls (w : World) : Calls Try.prog 29 #[] w fun e w' => e = .returned (.bool true) ∧ Below w.heap.size w w' := by
  have HG := hid (grew w (.cells #[.string ⟨#[97]⟩, .int .i64 5] 64))
  have P1 := hid (ofC_calls cA0 (some ⟨w.heap.size, 0, none⟩) 1 1 _ cA0_right cA0_small (Holds.cells rfl (cells_one w ⟨#[97]⟩ 5 64) (Nat.le_refl _) (by unfold maxLen; omega)))
  go_enter Try.func29, Try.ntmps29
  go_wp2_with fail
  refine P1.out.mono ?_
  rintro e w1 ⟨b1, n1, c1, rfl, h1, hb1⟩
  have P2 := hid (addC_calls (ofRows cA0) b1 n1 c1 ⟨#[97]⟩ 3 w1 (ofRows_right cA0_right).fit h1 (by decide))
  rw [cA1_is] at P2
  have HB1 := hid (below_deep HG.out hb1)
  clear h1 hb1 P1
  go_wp2_with fail
  refine P2.out.mono ?_
  rintro e w2 ⟨b2, n2, c2, rfl, h2, hb2⟩
  have HB2 := hid (below_deep HB1.out hb2)
  have H2 := hid h2
  have P3 := hid (before_calls cA1 b2 n2 c2 ⟨#[97]⟩ 3 w2 cA1_fit h2)
  rw [cA1_b3] at P3
  clear h2 hb2 P2
  go_wp2_with fail
  refine P3.out.mono ?_
  rintro e w3 ⟨y3, m3, h3, x3, he3, rfl, hb3⟩
  simp only [Prod.mk.injEq] at he3
  obtain ⟨rfl, rfl, rfl, rfl⟩ := he3
  have HG3 := hid (grew w3 (.cells #[.int .i64 (-1), .bool true, .bool true, .int .i64 5] 45))
  have HB3 := hid (below_deep HB2.out (below_deep hb3 HG3.out))
  have H3 := hid ((H2.out.below hb3).below HG3.out)
  have F3 := hid (Four.box w3 (-1) true true 5 45)
  have P4 := hid (before_calls cA1 b2 n2 c2 ⟨#[97]⟩ 4 _ cA1_fit H3.out)
  rw [cA1_b4] at P4
  clear hb3 P3
  go_wp2_with fail
  refine P4.out.mono ?_
  rintro e w4 ⟨y4, m4, h4, x4, he4, rfl, hb4⟩
  simp only [Prod.mk.injEq] at he4
  obtain ⟨rfl, rfl, rfl, rfl⟩ := he4
  have HG4 := hid (grew w4 (.cells #[.int .i64 3, .bool false, .bool false, .int .i64 0] 45))
  have HB4 := hid (below_deep HB3.out (below_deep hb4 HG4.out))
  have H4 := hid ((H3.out.below hb4).below HG4.out)
  have F3' := hid ((F3.out.below hb4).below HG4.out)
  have F4 := hid (Four.box w4 3 false false 0 45)
  have P5 := hid (setC_calls cA1 b2 n2 c2 ⟨#[97]⟩ 3 true true 6 _ cA1_fit H4.out (by decide))
  rw [cA2_is] at P5
  clear hb4 P4
  go_wp2_with fail
  refine P5.out.mono ?_
  rintro e w5 ⟨b5, n5, c5, rfl, h5, hb5⟩
  have HB5 := hid (below_deep HB4.out hb5)
  have H5 := hid h5
  have H51 := hid (H4.out.below hb5)
  have F3a := hid (F3'.out.below hb5)
  have F4a := hid (F4.out.below hb5)
  have P6 := hid (rowsC_calls cA2 b5 n5 c5 9 w5 cA2_fit h5)
  rw [cA2_rows] at P6
  clear h5 hb5 P5
  go_wp2_with fail
  refine P6.out.mono ?_
  rintro e w6 ⟨b6, n6, c6, ok6, rfl, hok6, h6, hb6⟩
  simp only [Option.isSome_some, Option.getD_some] at hok6 h6
  subst hok6
  obtain rfl : n6 = 1 := h6.len
  have HB6 := hid (below_deep HB5.out hb6)
  have H6 := hid h6
  have H56 := hid (H5.out.below hb6)
  have F3b := hid (F3a.out.below hb6)
  have F4b := hid (F4a.out.below hb6)
  have P7 := hid (rowsC_calls cA1 b2 n2 c2 9 w6 cA1_fit (H51.out.below hb6))
  rw [cA1_rows] at P7
  clear h6 hb6 P6
  go_wp2_with fail
  refine P7.out.mono ?_
  rintro e w7 ⟨b7, n7, c7, ok7, rfl, hok7, h7, hb7⟩
  simp only [Option.isSome_none] at hok7
  subst hok7
  have HB7 := hid (below_deep HB6.out hb7)
  have H57 := hid (H56.out.below hb7)
  obtain ⟨g0, g1, g2, g3⟩ := F3b.out.below hb7
  obtain ⟨k0, k1, k2, k3⟩ := F4b.out.below hb7
  have hl3 : w3.heap.size < w7.heap.size := by simpa using World.block_lt_of_cell? _ _ g0
  have hl4 : w4.heap.size < w7.heap.size := by simpa using World.block_lt_of_cell? _ _ k0
  obtain ⟨rb, ro, rfl, rc⟩ : ∃ rb ro, b6 = some ⟨rb, ro, none⟩ ∧ w7.cell? ⟨rb, ro + 1, none⟩ = some (.int .i64 6) := by
    rcases (H6.out.below hb7).seg with h | ⟨b, o, e, hc⟩
    · cases h
    · exact ⟨b, o, e, (hc 0 (by simp)).2⟩
  have hrb : rb < w7.heap.size := by simpa using World.block_lt_of_cell? _ _ rc
  have P8 := hid (clearC_calls cA2 b5 n5 c5 9 w7 cA2_fit H57.out)
  rw [cA2_clear] at P8
  clear h7 hb7 P7
  go_wp2_with fail
  refine P8.out.mono ?_
  rintro e w8 ⟨b8, n8, c8, rfl, h8, hb8⟩
  obtain rfl : n8 = 1 := h8.len
  have HB8 := hid (below_deep HB7.out hb8)
  have H58 := hid (H57.out.below hb8)
  obtain ⟨cb, co, rfl, vb, vc, rv⟩ : ∃ cb co, b8 = some ⟨cb, co, none⟩ ∧ ∃ vb vc, w8.cell? ⟨cb, co + 1, none⟩ = some (.slice vb 1 vc) := by
    rcases h8.run with h | ⟨b, o, e, hr⟩
    · cases h
    · obtain ⟨vb, vn, vc, _, c1, hv, _⟩ := hr 0 (by omega)
      have hvn : vn = 1 := Vers.count hv
      subst hvn
      exact ⟨b, o, e, vb, vc, by simpa using c1⟩
  have hcb : cb < w8.heap.size := by simpa using World.block_lt_of_cell? _ _ rv
  have P9 := hid (ownC_calls cA2 b5 n5 c5 w8 cA2_fit H58.out)
  have HN5 := hid H58.out.len
  clear h8 hb8 P8
  go_wp2_with fail
  refine P9.out.mono ?_
  rintro e w9 ⟨v9, S9, rfl, ho9, hs9, hb9⟩
  obtain ⟨b9, c9, rfl, h9⟩ := chains_owned ho9 hs9
  obtain rfl : n5 = 1 := HN5.out
  have HB9 := hid (below_deep HB8.out hb9)
  clear ho9 hs9 h9 hb9
  go_wp2
  go_ret
  exact ⟨rfl, HB9.out⟩
end Go.Proofs.Ytfchjhdgnibnnab
