/-
  The closed fact that the statement DeedNamed asks first is so.
  The document's own WrongRows and Get, walked.
  The two views that the statement DeedNamed hands to a deed.
  What the loops of the statement DeedNamed keep.
  Whether two deeds are the same, by the document's answer; the view that the statement DeedTells hands to a deed.
  Put and Drop of the program, of rows that rise.
  The document's own Put, walked: of rows that rise it comes to what the program's Put and Drop come to.
  The document's own Do: a deed done on rows.
  A row of ends that a call owns: how it is laid, and how one end in it is written.
-/
import Derived.Test.YtagangiilcicpaeGreatDoorDeedSame
import Derived.Test.YtagangiilcicpaeGreatDoorDeedRun
import Derived.Test.YtagangiilcicpaeGreatDoorLies
import Derived.Test.YtagangiilcicpaeGreatDoorDoMath
import Derived.ChangeKeysEq
import Derived.Test.YtagangiilcicpaeGreatDoorOpenDeeds
import Derived.Test.YtagangiilcicpaeGreatDoorChainsIn
namespace Go.Proofs.YtagangiilcicpaeGreatDoor
open Go.RowKit

theorem grew (w : World) (o : Obj) : Below w.heap.size w (w.alloc o) := (Below.refl _ _).alloc (Nat.le_refl _) _
end Go.Proofs.YtagangiilcicpaeGreatDoor

namespace Go.Proofs.YtagangiilcicpaeGreatDoor
open Go.RowKit

end Go.Proofs.YtagangiilcicpaeGreatDoor

namespace Go.Proofs.YtagangiilcicpaeGreatDoor
open Go.RowKit

/-- A key that is not there has 0. -/
theorem seen_num (k : ByteArray) (l : List Row) : (if isAt k l = true then num k l else 0) = num k l := by
  cases h : isAt k l with
  | true => rfl
  | false => rw [num_not k l h]; rfl

end Go.Proofs.YtagangiilcicpaeGreatDoor

namespace Go.Proofs.YtagangiilcicpaeGreatDoor
open Go.RowKit

/-- A set of texts, as the statement keeps it. -/
def nameMap (l : List ByteArray) : ByteArray → Option Value := fun k => if has l k = true then some (.bool true) else none
/-- What the second loop keeps: s is the map's block. -/
structure HK2 (w wr : World) (s j : Nat) (L : List ByteArray) : Prop where
  map : MapIs wr s j (nameMap (L.take j))
  old : Below s w wr
theorem intCells : Tryz.prog.cellsOf 3 = 1 := by kernel_rfl
set_option maxRecDepth 100000 in
theorem regsEq (a b c d : Int) (w : World) : (Op.equalIn 9999 119 (.agg #[.int .i64 a, .int .i64 b, .int .i64 c, .int .i64 d]) (.agg #[.int .i64 a, .int .i64 b, .int .i64 c, .int .i64 d])).run Tryz.prog w = .ok true w := by
  obtain ⟨i, hi⟩ : ∃ i, Tryz.prog.info? 3 = some i := ⟨_, rfl⟩
  rw [show (9999 : Nat) = 9998 + 1 from rfl, run_equalIn_array w 9998 _ _ Tryz.underlying119 hi, intCells]
  simp [Op.eqItems, List.range, List.range.loop, go_sem]
end Go.Proofs.YtagangiilcicpaeGreatDoor

namespace Go.Proofs.YtagangiilcicpaeGreatDoor
open Go.RowKit

set_option maxHeartbeats 4000000 in
theorem refSameDeed_calls (R W : List ByteArray) (C : List Ins) (R' W' : List ByteArray) (C' : List Ins) (rb : Option Addr) (rn rc : Nat) (wb : Option Addr) (wn wc : Nat) (cb : Option Addr) (cn cc : Nat) (rb' : Option Addr) (rn' rc' : Nat) (wb' : Option Addr) (wn' wc' : Nat) (cb' : Option Addr) (cn' cc' : Nat) (w : World)
    (hd : DeedIn w rb rn rc wb wn wc cb cn cc R W C) (hd' : DeedIn w rb' rn' rc' wb' wn' wc' cb' cn' cc' R' W' C') :
    Calls Tryz.prog 61 #[.agg #[.slice rb rn rc, .slice wb wn wc, .slice cb cn cc], .agg #[.slice rb' rn' rc', .slice wb' wn' wc', .slice cb' cn' cc']] w fun e w' =>
      e = .returned (.bool (decide (R = R') && (decide (W = W') && decide (C = C')))) ∧ Below w.heap.size w w' := by
  obtain ⟨A, hA⟩ : ∃ A, A = (w.alloc (.cells #[.slice rb rn rc, .slice wb wn wc, .slice cb cn cc] 59)).alloc (.cells #[.slice rb' rn' rc', .slice wb' wn' wc', .slice cb' cn' cc'] 59) := ⟨_, rfl⟩
  have hb0 : Below w.heap.size w A := by rw [hA]; exact (((Below.refl _ _).alloc (Nat.le_refl _) _).alloc (by simp) _)
  have HB0 := hid hb0
  have HR := hid (fun q => sameTexts_calls R R' rb rn rc rb' rn' rc' (A.drewN q) ((hd.below (below_drewN hb0 q)).tr) ((hd'.below (below_drewN hb0 q)).tr))
  have HW := hid (fun q => sameTexts_calls W W' wb wn wc wb' wn' wc' (A.drewN q) ((hd.below (below_drewN hb0 q)).tw) ((hd'.below (below_drewN hb0 q)).tw))
  have HC1 := hid (hd.below hb0).cd
  have HC2 := hid (hd'.below hb0).cd
  have x2 : A.cell? ⟨w.heap.size, 2, none⟩ = some (.slice cb cn cc) := by rw [hA]; exact box_past _ (box_cell w _ _ 2 _ rfl)
  have y2 : A.cell? ⟨w.heap.size + 1, 2, none⟩ = some (.slice cb' cn' cc') := by
    have := box_cell (w.alloc (.cells #[.slice rb rn rc, .slice wb wn wc, .slice cb cn cc] 59)) #[.slice rb' rn' rc', .slice wb' wn' wc', .slice cb' cn' cc'] 59 2 _ rfl
    rw [World.size_alloc] at this; rw [hA]; exact this
  have HXY := hid (And.intro x2 y2)
  have hm1 := Nat.le_trans hd.cd.hdr.le hd.cd.hdr.max
  have hm2 := Nat.le_trans hd'.cd.hdr.le hd'.cd.hdr.max
  unfold maxLen at hm1 hm2
  have HN1 := hid (Codes.count hd.cd)
  have HN2 := hid (Codes.count hd'.cd)
  clear hd hd' hb0 x2 y2
  generalize decide (R = R') = e1 at *
  generalize decide (W = W') = e2 at *
  cases e1 with
  | false =>
    subst hA
    go_enter Tryz.func61, Tryz.ntmps61
    go_wp2_with fail
    refine (HR.out 0).mono ?_
    rintro e w1 ⟨rfl, q, rfl⟩
    go_wp2
    go_ret
    exact ⟨rfl, below_drewN HB0.out _⟩
  | true =>
    cases e2 with
    | false =>
      subst hA
      go_enter Tryz.func61, Tryz.ntmps61
      go_wp2_with fail
      refine (HR.out 0).mono ?_
      rintro e w1 ⟨rfl, q, rfl⟩
      go_wp2_with fail
      refine (HW.out _).mono ?_
      rintro e w1 ⟨rfl, q2, rfl⟩
      go_wp2
      go_ret
      exact ⟨rfl, below_drewN HB0.out _⟩
    | true =>
      by_cases hne : cn = cn'
      · subst hne
        have HCC : Hid ((true && (true && decide (C = C'))) = decide (C = C')) := by show _ = _; simp
        rw [HCC.out]
        by_cases h0 : cn = 0
        · have h1 : C = [] := List.eq_nil_of_length_eq_zero (by have := HN1.out; omega)
          have h2 : C' = [] := List.eq_nil_of_length_eq_zero (by have := HN2.out; omega)
          subst h0
          subst h1
          subst h2
          subst hA
          go_enter Tryz.func61, Tryz.ntmps61
          go_wp2_with fail
          refine (HR.out 0).mono ?_
          rintro e w1 ⟨rfl, q, rfl⟩
          go_wp2_with fail
          refine (HW.out _).mono ?_
          rintro e w1 ⟨rfl, q2, rfl⟩
          go_wp2
          go_loop [32] (fun i => i = .int .i64 0) (fun _ => 0)
          case atStart => rfl
          case round =>
            obtain rfl := hrel
            go_wp2
            go_ret
            exact ⟨rfl, below_drewN HB0.out _⟩
        · rcases HC1.out.run with h | ⟨b1, o1, rfl, h1⟩
          · exact absurd h h0
          rcases HC2.out.run with h | ⟨b2, o2, rfl, h2⟩
          · exact absurd h h0
          have H1 := hid h1
          have H2 := hid h2
          have z1 := HXY.out.1
          have z2 := HXY.out.2
          clear h1 h2 h0
          subst hA
          go_enter Tryz.func61, Tryz.ntmps61
          go_wp2_with fail
          refine (HR.out 0).mono ?_
          rintro e w1 ⟨rfl, q, rfl⟩
          go_wp2_with fail
          refine (HW.out _).mono ?_
          rintro e w1 ⟨rfl, q2, rfl⟩
          generalize hA2 : (w.alloc (.cells #[.slice rb rn rc, .slice wb wn wc, .slice (some ⟨b1, o1, none⟩) cn cc] 59)).alloc (.cells #[.slice rb' rn' rc', .slice wb' wn' wc', .slice (some ⟨b2, o2, none⟩) cn cc'] 59) = A2 at *
          clear hA2
          go_wp2
          go_loopw [32] (fun i wr => ∃ k : Nat, k ≤ cn ∧ i = .int .i64 k ∧ Hid (C.take k = C'.take k) ∧ ∃ q, wr = A2.drewN q) (fun i _ => cn - (intOf i).toNat)
          case atStart => exact ⟨0, Nat.zero_le _, rfl, rfl, _, rfl⟩
          case round =>
            obtain ⟨k, hk, rfl, HT, q, rfl⟩ := hrel
            by_cases hlt : k < cn
            · have hk1 : k < C.length := by rw [← HN1.out]; exact hlt
              have hk2 : k < C'.length := by rw [← HN2.out]; exact hlt
              obtain ⟨c0, c1, c2, c3, c4⟩ := Codes.cells H1.out hk1
              obtain ⟨d0, d1, d2, d3, d4⟩ := Codes.cells H2.out hk2
              have HS := hid (take_both hk1 hk2 HT.out)
              have HF := hid (ne_both (l := C) (m := C') (k := k))
              generalize C.getD k default = x at *
              generalize C'.getD k default = y at *
              obtain ⟨x0, x1, x2, x3, x4⟩ := x
              obtain ⟨y0, y1, y2, y3, y4⟩ := y
              simp only [Ins.kind, Ins.a, Ins.b, Ins.n, Ins.key] at c0 c1 c2 c3 c4 d0 d1 d2 d3 d4
              have hi : (k : Int) < (cn : Int) := by omega
              by_cases he : (x0, x1, x2, x3, x4) = (y0, y1, y2, y3, y4)
              · simp only [Prod.mk.injEq] at he
                obtain ⟨rfl, rfl, rfl, rfl, rfl⟩ := he
                have t0 : (x0 == x0) = true := by simp
                have t1 : (x1 == x1) = true := by simp
                have t2 : (x2 == x2) = true := by simp
                have t3 : (x3 == x3) = true := by simp
                have t4 : (x4.toList == x4.toList) = true := by simp
                go_wp2
                go_quiet (fail)
                go_wp2
                go_roundw
                case rel => exact ⟨k + 1, by omega, by go_num, HS.out (by simp), _, rfl⟩
                case measure => simp [intOf]; omega
              · have HN := hid (HF.out he)
                rcases first_diff he with h | ⟨rfl, h⟩ | ⟨rfl, rfl, h⟩ | ⟨rfl, rfl, rfl, h⟩ | ⟨rfl, rfl, rfl, rfl, h⟩
                · have t := dec_false h
                  clear he h HS HF
                  go_wp2
                  go_quiet (fail)
                  go_wp2
                  go_ret
                  exact ⟨ret_bool (by simp [HN.out]), below_drewN (below_drewN HB0.out _) _⟩
                · have t := dec_false h
                  clear he h HS HF
                  go_wp2
                  go_quiet (fail)
                  go_wp2
                  go_ret
                  exact ⟨ret_bool (by simp [HN.out]), below_drewN (below_drewN HB0.out _) _⟩
                · have t := dec_false h
                  clear he h HS HF
                  go_wp2
                  go_quiet (fail)
                  go_wp2
                  go_ret
                  exact ⟨ret_bool (by simp [HN.out]), below_drewN (below_drewN HB0.out _) _⟩
                · have t := dec_false h
                  clear he h HS HF
                  go_wp2
                  go_quiet (fail)
                  go_wp2
                  go_ret
                  exact ⟨ret_bool (by simp [HN.out]), below_drewN (below_drewN HB0.out _) _⟩
                · have t := streq_false h
                  clear he h HS HF
                  go_wp2
                  go_quiet (fail)
                  go_wp2
                  go_ret
                  exact ⟨ret_bool (by simp [HN.out]), below_drewN (below_drewN HB0.out _) _⟩
            · obtain rfl : k = cn := by omega
              have HE : Hid (C = C') := by
                show _ = _
                have := HT.out
                rwa [List.take_of_length_le (by rw [← HN1.out]; exact Nat.le_refl _), List.take_of_length_le (by rw [← HN2.out]; exact Nat.le_refl _)] at this
              go_wp2
              go_ret
              exact ⟨ret_bool (by simp [HE.out]), below_drewN HB0.out _⟩
      · have HNE : Hid (decide (C = C') = false) := by
          show _ = _
          simp only [decide_eq_false_iff_not]
          exact fun e => hne (by rw [HN1.out, HN2.out, e])
        rw [HNE.out]
        have t : ((cn : Int) == (cn' : Int)) = false := by simp; omega
        subst hA
        go_enter Tryz.func61, Tryz.ntmps61
        go_wp2_with fail
        refine (HR.out 0).mono ?_
        rintro e w1 ⟨rfl, q, rfl⟩
        go_wp2_with fail
        refine (HW.out _).mono ?_
        rintro e w1 ⟨rfl, q2, rfl⟩
        go_wp2
        go_ret
        exact ⟨rfl, below_drewN HB0.out _⟩

end Go.Proofs.YtagangiilcicpaeGreatDoor

namespace Go.Proofs.YtagangiilcicpaeGreatDoor
open Go.RowKit

end Go.Proofs.YtagangiilcicpaeGreatDoor

namespace Go.Proofs.YtagangiilcicpaeGreatDoor
open Go.RowKit

end Go.Proofs.YtagangiilcicpaeGreatDoor

namespace Go.Proofs.YtagangiilcicpaeGreatDoor
open Go.RowKit

/-- No texts lie in a block. -/
def NoText (w : World) (b : Nat) : Prop := ∀ o s, w.cell? ⟨b, o, none⟩ ≠ some (.string s)
end Go.Proofs.YtagangiilcicpaeGreatDoor

namespace Go.Proofs.YtagangiilcicpaeGreatDoor
open Go.RowKit

theorem doneInfo : (Tryz.prog.info? 121).map (fun i => (i.zero, i.size, i.bytes)) = some (some (.agg #[.bool false, .int .i64 0, .int .i64 0, .int .i64 0, .int .i64 0]), 5, 40) := by kernel_rfl
theorem endCells_set : ∀ (E : List End3) (j : Nat) (e : End3), j < E.length →
    (((((endCells E).set (j * 5) (.bool e.1)).set (j * 5 + 1) (.int .i64 (e.2 0))).set (j * 5 + 2) (.int .i64 (e.2 1))).set (j * 5 + 3) (.int .i64 (e.2 2))).set (j * 5 + 4) (.int .i64 (e.2 3)) = endCells (E.set j e)
  | [], j, _, h => absurd h (Nat.not_lt_zero _)
  | x :: E, 0, e, _ => by simp [endCells, endCell]
  | x :: E, j + 1, e, h => by
    have ih := endCells_set E j e (by simpa using h)
    rw [List.set_cons_succ, endCells, endCells, ← ih]
    rw [show (j + 1) * 5 = j * 5 + 1 + 1 + 1 + 1 + 1 from by omega]
    simp [endCell, Nat.add_right_comm _ 5]
/-- An end is written at o. -/
def fiveAt (w : World) (g o : Nat) (f : Bool) (x0 x1 x2 x3 : Int) : World :=
  ((((w.setCell ⟨g, o, none⟩ (.bool f)).setCell ⟨g, o + 1, none⟩ (.int .i64 x0)).setCell ⟨g, o + 2, none⟩ (.int .i64 x1)).setCell ⟨g, o + 3, none⟩ (.int .i64 x2)).setCell ⟨g, o + 4, none⟩ (.int .i64 x3)
theorem fiveAt_below {w w0 : World} {g B : Nat} (o : Nat) (f : Bool) (x0 x1 x2 x3 : Int) (hB : B ≤ g) (h : Below B w0 w) : Below B w0 (fiveAt w g o f x0 x1 x2 x3) :=
  ((((h.setCell (p := ⟨g, o, none⟩) hB _).setCell (p := ⟨g, o + 1, none⟩) hB _).setCell (p := ⟨g, o + 2, none⟩) hB _).setCell (p := ⟨g, o + 3, none⟩) hB _).setCell (p := ⟨g, o + 4, none⟩) hB _
end Go.Proofs.YtagangiilcicpaeGreatDoor
