/-
  All of the program: right deeds, one by one, on right rows.
  Plain mathematics of one deed that counts up: its text, and what it comes to.
-/
import Derived.Test.YtfdliblikkpjiabDoorPlainDo
import Derived.Test.YtfdliblikkpjiabDoorEndsAt
import Derived.Test.YtfdliblikkpjiabDoorPlainMath
import Derived.Test.YtfdliblikkpjiabDoorTextBack
import Derived.Test.YtfdliblikkpjiabDoorGround
namespace Go.Proofs.YtfdliblikkpjiabDoor
open Go.RowKit

/-- How All ends: what keys have then, and how each ended. -/
def AllTold (w w' : World) (l : List Row) (D : List Deed3) (e : Ending) : Prop :=
  ∃ (nb : Option Addr) (nn nc : Nat) (eb : Option Addr) (en ec : Nat), e = .returned (.tuple #[.slice nb nn nc, .slice eb en ec]) ∧ Holds w' nb nn nc (allD l D) ∧ Ends w' eb en ec (endsD l D) ∧ Below w.heap.size w w'

theorem set_snoc {E : List End3} {j n : Nat} (hE : E.length = j) (hj : j < n) (e : End3) : (E ++ List.replicate (n - j) zeroE).set j e = (E ++ [e]) ++ List.replicate (n - (j + 1)) zeroE := by
  subst hE
  rw [List.set_append, if_neg (Nat.lt_irrefl _), Nat.sub_self, show n - E.length = (n - (E.length + 1)) + 1 from by omega, List.replicate_succ]
  simp

set_option maxHeartbeats 4000000 in
set_option maxRecDepth 100000 in
theorem all_calls (l : List Row) (D : List Deed3) (lb : Option Addr) (ln lc : Nat) (db : Option Addr) (dn dc : Nat) (w : World) (hh : Holds w lb ln lc l) (hrl : Right l) (hd : DeedsIn w db dn dc D) (hD : RightDs D) (hn : dn * 40 ≤ 140737488355328) :
    Calls Tryd.prog 17 #[.slice lb ln lc, .slice db dn dc] w fun e w' => AllTold w w' l D e := by
  obtain ⟨CS, hcs1, hcs2, hmk⟩ := make_ends dn hn
  have HO := hid (ownRows_calls l lb ln lc w (by have := do_few hrl hh.len; omega) hh)
  have HRL := hid hrl
  have HD := hid hd
  have HDR := hid hD
  have HLN := hid hd.len
  have HCS := hid (And.intro hcs1 hcs2)
  have hdm : dn ≤ 9223372036854775807 := by omega
  clear hh hrl hd hD hn hcs1 hcs2
  go_enter Tryd.func17, Tryd.ntmps17
  go_wp2_with fail
  refine HO.out.mono ?_
  rintro e w1 ⟨b1, c1, rfl, h1, hb1⟩
  have HX1 := hid (h1.below (grew w1 (.cells CS 39)))
  have HB1 := hid (below_deep hb1 (grew w1 (.cells CS 39)))
  have hsz1 := hb1.size
  have HOW : Hid (OwnsEnds (w1.alloc (.cells CS 39)) w.heap.size w1.heap.size dn (List.replicate dn zeroE)) := by
    have := World.ownsRow_lit (base := w.heap.size) (e := 39) (size := 5) w1 CS dn hsz1 (by unfold maxLen; omega) HCS.out.1
    rw [HCS.out.2] at this
    exact this
  have hl1 : ln = l.length := h1.len
  have HL1 := hid hl1
  clear h1 hb1 hl1
  go_wp2_with fail
  go_loopw [6, 17] (fun xv i wr => ∃ (j n2 c2 : Nat) (b2 : Option Addr), j ≤ dn ∧ xv = .slice b2 n2 c2 ∧ i = .int .i64 j ∧ Hid (Holds wr b2 n2 c2 (allD l (D.take j))) ∧ Hid (OwnsEnds wr w.heap.size w1.heap.size dn (endsD l (D.take j) ++ List.replicate (dn - j) zeroE)) ∧ Hid (Below w.heap.size w wr)) (fun _ i _ => dn - (intOf i).toNat)
  case atStart => exact ⟨0, ln, c1, b1, Nat.zero_le _, rfl, rfl, HX1, HOW, HB1⟩
  case round =>
    obtain ⟨j, n2, c2, b2, hj, rfl, rfl, HX, HOE, HBR⟩ := hrel
    by_cases hlt : j < dn
    · have hjl : j < D.length := by rw [← HLN.out]; exact hlt
      have hi : (j : Int) < (dn : Int) := by omega
      rcases (HD.out.below HBR.out).run with h | ⟨db1, dbo, rfl, hdr⟩
      · omega
      obtain ⟨rb, rn, rc, wb, wn, wc, cb, cn, cc, k0, k1, k2, hdi, hs1, hs2⟩ := hdr j hlt
      have hdb : db1 < wr.heap.size := by simpa using World.block_lt_of_cell? _ _ k0
      have HRJ := hid (allD_right (D.take j) HRL.out (rights_take HDR.out j))
      have HGW := hid (grew wr (.cells #[.slice rb rn rc, .slice wb wn wc, .slice cb cn cc] 25))
      have HDO := hid (do_calls (allD l (D.take j)) (D.getD j default) b2 n2 c2 rb rn rc wb wn wc cb cn cc _ (hdi.below HGW.out) hs1 hs2 (rights_at HDR.out hjl) (HX.out.below HGW.out) HRJ.out)
      have HTK := hid (take_snoc_getD hjl)
      clear hdi hs1 hs2 hdr
      go_wp2_with fail
      refine HDO.out.mono ?_
      rintro e w2 ⟨nb, nn, nc, f, r, hend, rfl, h2, hb2⟩
      have HB2 := hid (below_deep HGW.out hb2)
      have HOE2 := hid (owns_deep HOE.out HB2.out)
      have hg := (World.ownsRow.lt HOE2.out w1.heap.size rfl).2
      have f0 := World.ownsRow.frozenAt HOE2.out (j * 5)
      have f1 := World.ownsRow.frozenAt HOE2.out (j * 5 + 1)
      have f2 := World.ownsRow.frozenAt HOE2.out (j * 5 + 2)
      have f3 := World.ownsRow.frozenAt HOE2.out (j * 5 + 3)
      have f4 := World.ownsRow.frozenAt HOE2.out (j * 5 + 4)
      obtain ⟨u0, q0⟩ := owns_cells HOE2.out (o := j * 5) (by omega)
      obtain ⟨u1, q1⟩ := owns_cells HOE2.out (o := j * 5 + 1) (by omega)
      obtain ⟨u2, q2⟩ := owns_cells HOE2.out (o := j * 5 + 2) (by omega)
      obtain ⟨u3, q3⟩ := owns_cells HOE2.out (o := j * 5 + 3) (by omega)
      obtain ⟨u4, q4⟩ := owns_cells HOE2.out (o := j * 5 + 4) (by omega)
      have HX3 : Hid (Holds (fiveAt w2 w1.heap.size (j * 5) f (r 0) (r 1) (r 2) (r 3)) nb nn nc (allD l (D.take (j + 1)))) := by
        show Holds _ _ _ _ _
        rw [HTK.out, allD_snoc]
        exact fiveAt_holds _ _ _ _ _ _ h2 (own_noText HOE2.out)
      have HO3 : Hid (OwnsEnds (fiveAt w2 w1.heap.size (j * 5) f (r 0) (r 1) (r 2) (r 3)) w.heap.size w1.heap.size dn (endsD l (D.take (j + 1)) ++ List.replicate (dn - (j + 1)) zeroE)) := by
        have h5 := fiveAt_owns HOE2.out (j := j) (by simp [endsD_length]; omega) (f, r)
        rw [set_snoc (by rw [endsD_length, List.length_take]; omega) hlt] at h5
        show OwnsEnds _ _ _ _ _
        rw [HTK.out, endsD_snoc, hend]
        exact h5
      have HB3 := hid (fiveAt_below (B := w.heap.size) (g := w1.heap.size) (j * 5) f (r 0) (r 1) (r 2) (r 3) hsz1 (below_deep HBR.out HB2.out))
      unfold fiveAt at HX3 HO3 HB3
      clear hb2 h2 hend
      go_wp2
      go_roundw
      case rel => exact ⟨j + 1, nn, nc, nb, by omega, rfl, by go_num, HX3, HO3, HB3⟩
      case measure => simp [intOf]; omega
    · obtain rfl : j = dn := by omega
      have htk : D.take j = D := List.take_of_length_le (by rw [← HLN.out]; omega)
      have HX3 : Hid (Holds wr b2 n2 c2 (allD l D)) := by have := HX.out; rw [htk] at this; exact this
      have HE3 : Hid (Ends wr (some ⟨w1.heap.size, 0, none⟩) j j (endsD l D)) := by
        have := HOE.out
        rw [htk, Nat.sub_self] at this
        simp only [List.replicate_zero, List.append_nil] at this
        obtain ⟨base, c, e, hl⟩ := Lies.owned this
        simp only [Value.slice.injEq, true_and] at e
        obtain ⟨e1, e2⟩ := e
        rw [← e1, ← e2] at hl
        exact hl
      go_wp2
      go_ret2
      exact ⟨_, _, _, _, _, _, rfl, HX3.out, HE3.out, HBR.out⟩
end Go.Proofs.YtfdliblikkpjiabDoor

namespace Go.Proofs.YtfdliblikkpjiabDoor
open Go.RowKit

def oneA : ByteArray := ⟨#[97]⟩
def oneE : ByteArray := ⟨#[]⟩
def oneI : List Ins := [(1, 0, 0, 0, oneA), (2, 1, 0, 1, oneE), (3, 0, 1, 0, oneE), (6, 0, 0, 0, oneA)]
def oneD : Deed3 := ([oneA], [oneA], oneI)
/-- reads a; writes a; load r0 a; const r1 1; add r0 r1; store r0 a -/
def oneT : T := [114, 101, 97, 100, 115, 32, 97, 59, 32, 119, 114, 105, 116, 101, 115, 32, 97, 59, 32, 108, 111, 97, 100, 32, 114, 48, 32, 97, 59, 32, 99, 111, 110, 115, 116, 32, 114, 49, 32, 49, 59, 32, 97, 100, 100, 32, 114, 48, 32, 114, 49, 59, 32, 115, 116, 111, 114, 101, 32, 114, 48, 32, 97]
theorem one_right : wDeed [oneA] [oneA] oneI = 0 := by decide
theorem one_digits {d : Nat} (h : d < 10) : Lib.decDigits d = [UInt8.ofNat (48 + d)] := by rw [Lib.decDigits, dif_pos h]
theorem one_itoa0 : Lib.itoa 0 = [48] := by
  have := Lib.itoa_nonneg 0
  rw [one_digits (by decide)] at this
  exact this
theorem one_itoa1 : Lib.itoa 1 = [49] := by
  have := Lib.itoa_nonneg 1
  rw [one_digits (by decide)] at this
  exact this
theorem one_text : printT [oneA] [oneA] oneI = oneT := by
  unfold printT partsOf oneI
  have h1 : insWords (1, 0, 0, 0, oneA) = [word 1, [114, 48], [97]] := by
    show [word 1, reg 0, keyT oneA] = _
    unfold reg; rw [one_itoa0]; rfl
  have h2 : insWords (2, 1, 0, 1, oneE) = [word 2, [114, 49], [49]] := by
    show [word 2, reg 1, Lib.itoa 1] = _
    unfold reg; rw [one_itoa1]
  have h3 : insWords (3, 0, 1, 0, oneE) = [word 3, [114, 48], [114, 49]] := by
    show [word 3, reg 0, reg 1] = _
    unfold reg; rw [one_itoa0, one_itoa1]
  have h4 : insWords (6, 0, 0, 0, oneA) = [word 6, [114, 48], [97]] := by
    show [word 6, reg 0, keyT oneA] = _
    unfold reg; rw [one_itoa0]; rfl
  simp only [List.map_cons, List.map_nil]
  rw [h1, h2, h3, h4]
  rfl
theorem one_read : readT oneT = (0, [oneA], [oneA], oneI) := by rw [← one_text]; exact read_print one_right
theorem one_small : SmallT [oneA] := by
  intro x hx; simp at hx; subst hx; decide
theorem oneRight : RightDD oneD := right_deed one_right

/-! ### What it comes to -/
theorem inc_ex (l : List Row) : exD l oneD = (setR (setR (setR zeroR 0 (num oneA l)) 1 1) 0 (rnd (num oneA l + 1)), setM zeroM oneA (some (rnd (num oneA l + 1))), false) := by
  show exec (fun k => num k l) oneI 0 zeroR zeroM = _
  generalize hn : num oneA l = n
  simp [oneI, exec, Ins.kind, Ins.a, Ins.b, Ins.n, Ins.key, look, zeroM, hn, setR]
theorem inc_do (l : List Row) : doD l oneD = ins oneA (rnd (num oneA l + 1)) l := by
  unfold doD
  rw [inc_ex]
  simp [oneD, vers, setM, putOne]
theorem inc_end (l : List Row) : (endD l oneD).1 = false ∧ (endD l oneD).2 0 = rnd (num oneA l + 1) := by
  unfold endD
  rw [inc_ex]
  exact ⟨rfl, by simp [setR]⟩
theorem one_num (n : Int) : num oneA [(oneA, n)] = n := by simp [num, less_irrefl]
theorem one_ins (n m : Int) : ins oneA m [(oneA, n)] = [(oneA, m)] := by simp [ins, less_irrefl]
theorem inc_none : doD [] oneD = [(oneA, 1)] := by
  rw [inc_do]
  show ins oneA (rnd (0 + 1)) [] = _
  rw [show rnd (0 + 1) = 1 from by decide +kernel]
  rfl
theorem inc_none_end : (endD [] oneD).2 0 = 1 := by
  rw [(inc_end []).2]
  show rnd (0 + 1) = 1
  decide +kernel
theorem inc_two : allD [(oneA, 1)] [oneD, oneD] = [(oneA, 3)] := by
  show doD (doD [(oneA, 1)] oneD) oneD = _
  rw [inc_do [(oneA, 1)], one_num, one_ins, inc_do, one_num, one_ins]
  rw [show rnd (rnd (1 + 1) + 1) = 3 from by decide +kernel]
end Go.Proofs.YtfdliblikkpjiabDoor
