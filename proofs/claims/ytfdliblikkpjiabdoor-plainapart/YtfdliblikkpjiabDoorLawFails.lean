/-
  Wrong of the program tells the first thing that is wrong with any rows.
  The closed fact that the statements of chapter 1 ask first is so.
  SameRows of the document's answer tells whether two lists of rows are one.
  The walk of the statement RowsApart: the call returns true and changes nothing that was there.
  The walk of the statement RowsTells: the call returns true and changes nothing that was there.
  The walk of the statement PlainFails: the call returns true and changes nothing that was there.
-/
import Derived.Test.YtfdliblikkpjiabDoorSeg
import Derived.BigQuiet
import Derived.Deep.QuietTactic
import Derived.Test.YtfdliblikkpjiabDoorPut
import Derived.Test.YtfdliblikkpjiabDoorChecked
import Derived.WalkKit
import Derived.WalkSpells
import Derived.WalkLawsBesides
import Derived.Below
import Derived.LoopTactic
import Derived.Outline
import Derived.Test.YtfdliblikkpjiabDoorRef
import Derived.Test.YtfdliblikkpjiabDoorRefDo
import Derived.Test.YtfdliblikkpjiabDoorPlainAlive
import Derived.Test.YtfdliblikkpjiabDoorRefWrong
namespace Go.Proofs.YtfdliblikkpjiabDoor
open Go.RowKit

end Go.Proofs.YtfdliblikkpjiabDoor

namespace Go.Proofs.YtfdliblikkpjiabDoor
open Go.RowKit

/-- The keys a, b and abc. -/
def kA : ByteArray := ⟨#[97]⟩
def kB : ByteArray := ⟨#[98]⟩
def kC : ByteArray := ⟨#[97, 98, 99]⟩
/-- The rows that are made. -/
def rAB : List Row := [(kA, 1), (kB, 2)]

theorem less_ab : less kA kB = true := by
  rw [less_def, ByteArray.toList_eq, ByteArray.toList_eq]; decide
theorem less_ba : less kB kA = false := less_asymm less_ab
theorem put_b : ins kB 2 [] = [(kB, 2)] := rfl
theorem put_ab : ins kA 1 [(kB, 2)] = rAB := by simp [ins, less_ab, less_ba, rAB]
theorem srt_ab : Srt rAB := by simp [Srt, rAB, less_ab]
theorem drop_ab : del kA rAB = [(kB, 2)] := by simp [del, rAB, less_irrefl]
theorem num_ab : num kB rAB = 2 := by simp [num, rAB, less_ab, less_irrefl]
theorem isAt_ab : isAt kB rAB = true := by simp [isAt, rAB, less_ab, less_irrefl]
theorem key_a : keyB kA = true := by decide
theorem key_b : keyB kB = true := by decide
theorem key_c : keyB kC = true := by decide
theorem wrong_ab : wrong rAB = 0 := by
  refine right_wrong ⟨srt_ab, fun x hx => ?_, fun x hx => ?_, fun x hx => ?_⟩ <;> (simp [rAB] at hx; rcases hx with rfl | rfl <;> first | exact key_a | exact key_b | decide)
theorem small_ab : Small rAB := fun x hx => by
  simp [rAB] at hx; rcases hx with rfl | rfl <;> decide

end Go.Proofs.YtfdliblikkpjiabDoor

namespace Go.Proofs.YtfdliblikkpjiabDoor
open Go.RowKit

set_option maxHeartbeats 400000 in
theorem same_calls (l : List Row) (ba bb : Option Addr) (ca cb : Nat) (w : World) (hl : l.length ≤ maxLen) (ha : Seg w ba l) (hb : Seg w bb l) :
    Calls Tryd.prog 14 #[.slice ba l.length ca, .slice bb l.length cb] w fun e w' => e = .returned (.bool true) ∧ Below w.heap.size w w' := by
  unfold maxLen at hl
  by_cases h0 : l = []
  · subst h0
    go_enter Tryd.func14, Tryd.ntmps14
    go_wp2
    go_loop [13] (fun i => i = .int .i64 0) (fun _ => 0)
    case atStart => rfl
    case round =>
      obtain rfl := hrel
      go_wp2
      go_ret
      exact ⟨rfl, Below.refl _ _⟩
  rcases ha with h | ⟨b1, o1, rfl, h1⟩
  · exact absurd h h0
  rcases hb with h | ⟨b2, o2, rfl, h2⟩
  · exact absurd h h0
  clear h0
  obtain ⟨n, hn⟩ : ∃ n, n = l.length := ⟨_, rfl⟩
  rw [← hn] at hl ⊢
  have HN : Hid (n = l.length) := hn
  clear hn
  have H1 : Hid (Cells w b1 o1 l) := h1
  have H2 : Hid (Cells w b2 o2 l) := h2
  clear h1 h2
  go_enter Tryd.func14, Tryd.ntmps14
  go_wp2
  go_loopw [13] (fun i wr => ∃ k : Nat, k ≤ n ∧ i = .int .i64 k ∧ ∃ q, wr = w.drewN q) (fun i _ => n - (intOf i).toNat)
  case atStart => exact ⟨0, Nat.zero_le _, rfl, 0, rfl⟩
  case round =>
    obtain ⟨k, hk, rfl, q, rfl⟩ := hrel
    by_cases hlt : k < n
    · obtain ⟨c1, d1⟩ := H1.out k (by rw [← HN.out]; exact hlt)
      obtain ⟨c2, d2⟩ := H2.out k (by rw [← HN.out]; exact hlt)
      generalize (l.getD k default).1 = kk at *
      generalize (l.getD k default).2 = nn at *
      have hi : (k : Int) < (n : Int) := by omega
      go_wp2
      go_quiet (fail)
      go_wp2
      go_roundw
      case rel => exact ⟨k + 1, by omega, by go_num, _, rfl⟩
      case measure => simp [intOf]; omega
    · go_wp2
      go_ret
      exact ⟨rfl, below_drewN (Below.refl _ _) q⟩
end Go.Proofs.YtfdliblikkpjiabDoor

namespace Go.Proofs.YtfdliblikkpjiabDoor
open Go.RowKit

theorem same_holds (l : List Row) (ba bb : Option Addr) (na nb ca cb : Nat) (w : World) (ha : Holds w ba na ca l) (hb : Holds w bb nb cb l) :
    Calls Tryd.prog 14 #[.slice ba na ca, .slice bb nb cb] w fun e w' => e = .returned (.bool true) ∧ Below w.heap.size w w' := by
  have h1 := ha.len
  have h2 := hb.len
  subst h1 h2
  exact same_calls l ba bb ca cb w (Nat.le_trans ha.hdr.le ha.hdr.max) ha.seg hb.seg

theorem get_holds (l : List Row) (ba : Option Addr) (na ca : Nat) (k : ByteArray) (w : World) (hn : na < 4611686018427387904) (hs : Srt l) (ha : Holds w ba na ca l) :
    Calls Tryd.prog 30 #[.slice ba na ca, .string k] w fun e w' => e = .returned (.tuple #[.int .i64 (num k l), .bool (isAt k l)]) ∧ Below w.heap.size w w' := by
  have h1 := ha.len
  subst h1
  exact get_calls l ba ca k w hn hs ha.seg

theorem ins_bound {k : ByteArray} {m : Int} {l : List Row} {n n' : Nat} (h : n = l.length) (h' : n' = (ins k m l).length) : n' ≤ n + 1 := by
  have := ins_length k m l; omega
theorem del_bound {k : ByteArray} {l : List Row} {n n' : Nat} (h : n = l.length) (h' : n' = (del k l).length) : n' ≤ n := by
  have := del_length k l; omega

end Go.Proofs.YtfdliblikkpjiabDoor

namespace Go.Proofs.YtfdliblikkpjiabDoor
open Go.RowKit

theorem refWrong_holds (l : List Row) (ba : Option Addr) (na ca : Nat) (w : World) (hsm : Small l) (ha : Holds w ba na ca l) :
    Calls Tryd.prog 12 #[.slice ba na ca] w fun e w' => e = .returned (.int .i64 (wrong l)) ∧ Below w.heap.size w w' := by
  have h1 := ha.len
  subst h1
  exact refWrong_calls l ba ca w (Nat.le_trans ha.hdr.le ha.hdr.max) hsm ha.seg

end Go.Proofs.YtfdliblikkpjiabDoor

namespace Go.Proofs.YtfdliblikkpjiabDoor
open Go.RowKit

theorem right_small {l : List Row} (h : Right l) : Small l := fun x hx => by
  have := h.key x hx
  unfold keyB at this
  simp only [Bool.and_eq_true, decide_eq_true_eq] at this
  unfold maxLen; omega
theorem wrongOk_holds (l : List Row) (ba : Option Addr) (na ca : Nat) (w : World) (hr : Right l) (ha : Holds w ba na ca l) :
    Calls Tryd.prog 12 #[.slice ba na ca] w fun e w' => e = .returned (.int .i64 0) ∧ Below w.heap.size w w' := by
  have := refWrong_holds l ba na ca w (right_small hr) ha
  rw [right_wrong hr] at this
  exact this

set_option maxHeartbeats 8000000 in
set_option maxRecDepth 100000 in
theorem plainFails_calls (l : List Row) (d : Deed3) (key : ByteArray) (lb : Option Addr) (ln lc : Nat) (rb : Option Addr) (rn rc : Nat) (wb : Option Addr) (wn wc : Nat) (cb : Option Addr) (cn cc : Nat) (w : World) (hG : GroundN w)
    (hh : Holds w lb ln lc l) (hsm : Small l) (hd : DeedIn w rb rn rc wb wn wc cb cn cc d.1 d.2.1 d.2.2) (hsR : SmallT d.1) (hsW : SmallT d.2.1) :
    Calls Tryd.prog 4 #[.slice lb ln lc, .agg #[.slice rb rn rc, .slice wb wn wc, .slice cb cn cc], .string key] w fun e w' => e = .returned (.bool true) ∧ Below w.heap.size w w' := by
  have HG0 := hid (grew w (.cells #[.slice rb rn rc, .slice wb wn wc, .slice cb cn cc] 25))
  have HA0 := hid (three_new w (.slice rb rn rc) (.slice wb wn wc) (.slice cb cn cc) 25)
  have HAL := hid (palive_calls _ (hG.below HG0.out))
  have HH := hid hh
  have HSM := hid hsm
  have HD := hid hd
  have HSR := hid hsR
  have HSW := hid hsW
  have HWN := hid (Texts.count hd.tw)
  have hwm := Nat.le_trans hd.tw.hdr.le hd.tw.hdr.max
  unfold maxLen at hwm
  clear hG hh hsm hd hsR hsW
  go_enter Tryd.func4, Tryd.ntmps4
  go_wp2_with fail
  refine HAL.out.mono ?_
  rintro e w1 ⟨rfl, hb1⟩
  have HB1 := hid (below_deep HG0.out hb1)
  have HA1 := hid (HA0.out.below hb1)
  have HWR := hid (refWrong_holds l lb ln lc w1 HSM.out (HH.out.below HB1.out))
  clear hb1 HAL
  go_wp2_with fail
  refine HWR.out.mono ?_
  rintro e w2 ⟨rfl, hb2⟩
  have HB2 := hid (below_deep HB1.out hb2)
  have HA2 := hid (HA1.out.below hb2)
  clear hb2
  by_cases hz : wrong l = 0
  · rw [hz]
    have HR := hid (right_of hz)
    clear hz
    obtain ⟨a0, a1, a2, _⟩ := HA2.out
    have HWD := hid (refWrongDeed_calls d.1 d.2.1 d.2.2 rb rn rc wb wn wc cb cn cc w2 (HD.out.below HB2.out) HSR.out HSW.out)
    go_wp2_with fail
    refine HWD.out.mono ?_
    rintro e w3 ⟨rfl, hb3⟩
    have HB3 := hid (below_deep HB2.out hb3)
    have HA3 := hid (HA2.out.below hb3)
    clear hb3 a0 a1 a2
    by_cases hz2 : wDeed d.1 d.2.1 d.2.2 = 0
    · rw [hz2]
      have HRD : Hid (RightDD d) := right_deed hz2
      clear hz2
      obtain ⟨a0, a1, a2, _⟩ := HA3.out
      have HDO := hid (do_calls l d lb ln lc rb rn rc wb wn wc cb cn cc w3 (HD.out.below HB3.out) HSR.out HSW.out HRD.out (HH.out.below HB3.out) HR.out)
      go_wp2_with fail
      refine HDO.out.mono ?_
      rintro e w4 ⟨nb, nn, nc, f, r, hend, rfl, h4, hb4⟩
      have HG4 := hid (grew w4 (.cells #[.bool f, .int .i64 (r 0), .int .i64 (r 1), .int .i64 (r 2), .int .i64 (r 3)] 39))
      have HX := hid (h4.below HG4.out)
      have HB4 := hid (below_deep HB3.out (below_deep hb4 HG4.out))
      have HA4 := hid ((HA3.out.below hb4))
      have HRX := hid (doD_right HR.out HRD.out)
      have hl4 : w.heap.size < w4.heap.size := HA4.out.lt
      have HEF : Hid ((exD l d).2.2 = f) := by
        have := congrArg Prod.fst hend
        exact this
      clear h4 hb4 hend a0 a1 a2 HDO
      obtain ⟨a0, a1, a2, _⟩ := HA4.out
      cases hf : f with
      | true =>
        rw [hf] at HEF
        subst hf
        have HS := hid (same_holds l nb lb nn ln nc lc _ (by have := HX.out; rw [doD_fail HEF.out] at this; exact this) (HH.out.below HB4.out))
        go_wp2_with fail
        refine HS.out.mono ?_
        rintro e w5 ⟨rfl, hb5⟩
        go_wp2
        go_ret
        exact ⟨rfl, below_deep HB4.out hb5⟩
      | false =>
        subst hf
        go_wp2
        go_loopw [39] (fun i wr => ∃ j : Nat, j ≤ wn ∧ i = .int .i64 j ∧ Hid (key ∉ d.2.1.take j) ∧ Hid (wr = w4.alloc (.cells #[.bool false, .int .i64 (r 0), .int .i64 (r 1), .int .i64 (r 2), .int .i64 (r 3)] 39))) (fun i _ => wn - (intOf i).toNat)
        case atStart => exact ⟨0, Nat.zero_le _, rfl, (by show _ ∉ _; simp), rfl⟩
        case round =>
          obtain ⟨j, hj, rfl, HK, HWE⟩ := hrel
          have hwe := HWE.out
          subst hwe
          by_cases hlt : j < wn
          · have hjl : j < d.2.1.length := by rw [← HWN.out]; exact hlt
            have hi : (j : Int) < (wn : Int) := by omega
            rcases (HD.out.below HB4.out).tw.run with h | ⟨b, o, rfl, h1⟩
            · omega
            have c1 := h1 j _ (strs_at hjl)
            have hbw : b < (w4.alloc (.cells #[.bool false, .int .i64 (r 0), .int .i64 (r 1), .int .i64 (r 2), .int .i64 (r 3)] 39)).heap.size := by simpa using World.block_lt_of_cell? _ _ c1
            have HTK := hid (take_snoc_getD hjl)
            clear h1
            generalize d.2.1.getD j default = x at *
            by_cases hx : x = key
            · have t := streq_true hx
              have HW := hid (wrongOk_holds (doD l d) nb nn nc _ HRX.out HX.out)
              clear hx
              go_wp2_with fail
              refine HW.out.mono ?_
              rintro e w5 ⟨rfl, hb5⟩
              go_wp2
              go_ret
              exact ⟨rfl, below_deep HB4.out hb5⟩
            · have t := streq_false hx
              have HN : Hid (key ∉ d.2.1.take (j + 1)) := by
                show _ ∉ _
                rw [HTK.out, List.mem_append]
                intro h
                rcases h with h | h
                · exact HK.out h
                · simp at h; exact hx h.symm
              clear hx
              go_wp2
              go_roundw
              case rel => exact ⟨j + 1, by omega, by go_num, HN, trivial⟩
              case measure => simp [intOf]; omega
          · obtain rfl : j = wn := by omega
            have hk : key ∉ d.2.1 := by
              have := HK.out
              rw [List.take_of_length_le (by rw [← HWN.out]; exact Nat.le_refl _)] at this
              exact this
            obtain ⟨en, ea⟩ := doD_else HR.out.srt HRD.out hk
            have HG1 := hid (refGet_calls l lb ln lc key _ HR.out.srt (HH.out.below HB4.out))
            clear hk
            go_wp2_with fail
            refine HG1.out.mono ?_
            rintro e w5 ⟨rfl, hb5⟩
            have HG2 := hid (refGet_calls (doD l d) nb nn nc key w5 HRX.out.srt (HX.out.below hb5))
            rw [en, ea] at HG2
            have HB5 := hid (below_deep HB4.out hb5)
            have HX5 := hid (HX.out.below hb5)
            clear en ea hb5
            generalize num key l = a at *
            generalize isAt key l = q at *
            have t1 : (a == a) = true := by simp
            have t2 : (q == q) = true := by simp
            go_wp2_with fail
            refine HG2.out.mono ?_
            rintro e w6 ⟨rfl, hb6⟩
            have HB6 := hid (below_deep HB5.out hb6)
            have HW := hid (wrongOk_holds (doD l d) nb nn nc w6 HRX.out (HX5.out.below hb6))
            clear hb6
            go_wp2_with fail
            refine HW.out.mono ?_
            rintro e w7 ⟨rfl, hb7⟩
            go_wp2
            go_ret
            exact ⟨rfl, below_deep HB6.out hb7⟩
    · have t := ne_true hz2
      clear hz2
      generalize wDeed d.1 d.2.1 d.2.2 = q at *
      go_wp2
      go_ret
      exact ⟨rfl, HB3.out⟩
  · have t := ne_true hz
    clear hz
    generalize wrong l = q at *
    go_wp2
    go_ret
    exact ⟨rfl, HB2.out⟩
end Go.Proofs.YtfdliblikkpjiabDoor
