/-
  own and with of the program: a copy of rows, and rows in which keys have what was made.
  Do of the program: a right deed, done on right rows; and the document's own, told the same way.
  All of the program: right deeds, one by one, on right rows.
  The document's own Right, All and SameEnds, walked.
  Writes in two blocks may be done either way about; rows under a write elsewhere.
-/
import Derived.Test.YtdnafpenljdinadDeedTurn
import Derived.Test.YtdnafpenljdinadPut
import Derived.Test.YtdnafpenljdinadKeyNum
import Derived.Test.YtdnafpenljdinadOpenDeeds
import Derived.Test.YtdnafpenljdinadRef
import Derived.Test.YtdnafpenljdinadDeedRun
import Derived.Test.YtdnafpenljdinadRefDo
import Derived.Test.YtdnafpenljdinadEndsAt
import Derived.Test.YtdnafpenljdinadRefWrong
import Derived.Test.YtdnafpenljdinadRefNew
namespace Go.Proofs.Ytdnafpenljdinad
open Go.RowKit

theorem keysOf_at (V : List (ByteArray × Option Int)) (j : Nat) : (keysOf V).getD j default = (V.getD j default).1 := by
  unfold keysOf
  by_cases h : j < V.length
  · simp [List.getD, h]
  · simp [List.getD, h]; rfl
theorem srt_putOne {l : List Row} (h : Srt l) (x : ByteArray × Option Int) : Srt (putOne l x) := by
  unfold putOne; split
  · exact srt_ins h
  · exact srt_del h
theorem srt_puts : ∀ (V : List (ByteArray × Option Int)) {l : List Row}, Srt l → Srt (V.foldl putOne l)
  | [], _, h => h
  | x :: V, _, h => srt_puts V (srt_putOne h x)

theorem two_keep {A w1 w2 : World} {b0 o0 b1 o1 : Nat} {x0 x1 : Value} (h : w1.cell? ⟨b0, o0, none⟩ = some x0 ∧ w1.cell? ⟨b1, o1, none⟩ = some x1 ∧ Below A.heap.size A w1) (hb : Below w1.heap.size w1 w2) :
    w2.cell? ⟨b0, o0, none⟩ = some x0 ∧ w2.cell? ⟨b1, o1, none⟩ = some x1 ∧ Below A.heap.size A w2 :=
  ⟨kept_cell hb h.1, kept_cell hb h.2.1, below_deep h.2.2 hb⟩
theorem held3B {a b : Prop} {B : Nat} {A w' : World} (h : a ∧ b ∧ Below B A w') : Below B A w' := h.2.2
end Go.Proofs.Ytdnafpenljdinad

namespace Go.Proofs.Ytdnafpenljdinad
open Go.RowKit

/-- How Do ends: keys have what the deed made, and how it ended. -/
def DoTold (w w' : World) (l : List Row) (d : Deed3) (e : Ending) : Prop :=
  ∃ (nb : Option Addr) (nn nc : Nat) (f : Bool) (r : Nat → Int), endD l d = (f, r) ∧ e = .returned (.tuple #[.slice nb nn nc, .agg #[.bool f, .int .i64 (r 0), .int .i64 (r 1), .int .i64 (r 2), .int .i64 (r 3)]]) ∧ Holds w' nb nn nc (doD l d) ∧ Below w.heap.size w w'

theorem do_few {l : List Row} (h : Right l) {n : Nat} (hn : n = l.length) : (n + 20) * 24 ≤ 140737488355328 := by
  have := right_few h
  omega

/-- A block of an end, laid and not written yet. -/
structure EndBox (w : World) (b : Nat) : Prop where
  free : ∀ j, j < 5 → w.frozen? ⟨b, j, none⟩ = false
  there : ∀ j, j < 5 → ∃ u, w.cell? ⟨b, j, none⟩ = some u
  text : NoText w b
  lt : b < w.heap.size
theorem endBox_new (w : World) : EndBox (w.alloc (.cells #[.bool false, .int .i64 0, .int .i64 0, .int .i64 0, .int .i64 0] 69)) w.heap.size := by
  refine ⟨fun j _ => by rw [World.frozen?_alloc_at _ _ _ _ rfl], fun j hj => ?_, fun o s e => ?_, by rw [World.size_alloc]; omega⟩
  · rw [World.cell?_alloc_at _ _ _ _ rfl]
    have : j = 0 ∨ j = 1 ∨ j = 2 ∨ j = 3 ∨ j = 4 := by omega
    rcases this with rfl | rfl | rfl | rfl | rfl <;> exact ⟨_, rfl⟩
  · rw [World.cell?_alloc_at _ _ _ _ rfl] at e
    have : o = 0 ∨ o = 1 ∨ o = 2 ∨ o = 3 ∨ o = 4 ∨ 5 ≤ o := by omega
    rcases this with rfl | rfl | rfl | rfl | rfl | h5
    · cases e
    · cases e
    · cases e
    · cases e
    · cases e
    · rw [Array.getElem?_eq_none (by simpa using h5)] at e; cases e
theorem EndBox.below {w w' : World} {b : Nat} (h : EndBox w b) (hb : Below w.heap.size w w') : EndBox w' b := by
  refine ⟨fun j hj => by rw [hb.frozen (p := ⟨b, j, none⟩) h.lt]; exact h.free j hj, fun j hj => by rw [hb.cell (p := ⟨b, j, none⟩) h.lt]; exact h.there j hj, fun o s e => ?_, Nat.lt_of_lt_of_le h.lt hb.size⟩
  rw [hb.cell (p := ⟨b, o, none⟩) h.lt] at e; exact h.text o s e
theorem told_five {f : Bool} {m : Made} {W : List ByteArray} (h : wKeys W = 0) : (if f = true then [] else vers m W).length ≤ 5 := by
  split
  · simp
  · exact Nat.le_trans (List.length_filterMap_le _ _) (wKeys_len h)
theorem doD_told {l : List Row} {d : Deed3} {r : Nat → Int} {m : Made} {f : Bool} (h : exec (fun k => num k l) d.2.2 0 zeroR zeroM = (r, m, f)) : (if f = true then [] else vers m d.2.1).foldl putOne l = doD l d ∧ endD l d = (f, r) := by
  have e : exD l d = (r, m, f) := h
  refine ⟨?_, by unfold endD; rw [e]⟩
  unfold doD; rw [e]
  cases f <;> rfl

theorem refDo_told (l : List Row) (d : Deed3) (lb : Option Addr) (ln lc : Nat) (rb : Option Addr) (rn rc : Nat) (wb : Option Addr) (wn wc : Nat) (cb : Option Addr) (cn cc : Nat) (w : World)
    (hd : DeedIn w rb rn rc wb wn wc cb cn cc d.1 d.2.1 d.2.2) (hright : RightDD d) (hh : Holds w lb ln lc l) (hrl : Right l) :
    Calls Try.prog 35 #[.slice lb ln lc, .agg #[.slice rb rn rc, .slice wb wn wc, .slice cb cn cc]] w fun e w' => DoTold w w' l d e := by
  refine (refDo_calls d.1 d.2.1 d.2.2 l rb rn rc wb wn wc cb cn cc lb ln lc w hd hright hh hrl.srt (do_few hrl hh.len)).mono ?_
  rintro e w' ⟨nb, nn, nc, L, r, m, f, hex, rfl, hL, h1, h2, hb⟩
  have ex : exD l d = (r, m, f) := hex
  refine ⟨nb, nn, nc, f, r, by unfold endD; rw [ex], rfl, ?_, hb⟩
  cases f with
  | true => rw [doD_fail (by rw [ex]), ← h1 rfl]; exact hL
  | false =>
    have := over_doD (L := L) hrl.srt hright (by rw [ex]) (by rw [ex]; exact h2 rfl)
    rw [← this]; exact hL
end Go.Proofs.Ytdnafpenljdinad

namespace Go.Proofs.Ytdnafpenljdinad
open Go.RowKit

/-- How All ends: what keys have then, and how each ended. -/
def AllTold (w w' : World) (l : List Row) (D : List Deed3) (e : Ending) : Prop :=
  ∃ (nb : Option Addr) (nn nc : Nat) (eb : Option Addr) (en ec : Nat), e = .returned (.tuple #[.slice nb nn nc, .slice eb en ec]) ∧ Holds w' nb nn nc (allD l D) ∧ Ends w' eb en ec (endsD l D) ∧ Below w.heap.size w w'

theorem set_snoc {E : List End3} {j n : Nat} (hE : E.length = j) (hj : j < n) (e : End3) : (E ++ List.replicate (n - j) zeroE).set j e = (E ++ [e]) ++ List.replicate (n - (j + 1)) zeroE := by
  subst hE
  rw [List.set_append, if_neg (Nat.lt_irrefl _), Nat.sub_self, show n - E.length = (n - (E.length + 1)) + 1 from by omega, List.replicate_succ]
  simp

end Go.Proofs.Ytdnafpenljdinad

namespace Go.Proofs.Ytdnafpenljdinad
open Go.RowKit

def rightsB (D : List Deed3) : Bool := D.all (fun d => decide (wDeed d.1 d.2.1 d.2.2 = 0))
theorem rights_of {D : List Deed3} (h : rightsB D = true) : RightDs D := fun d hd => by
  have := List.all_eq_true.1 h d hd
  exact right_deed (of_decide_eq_true this)
theorem rightsB_take {D : List Deed3} {j : Nat} (hj : j < D.length) (h : rightsB (D.take j) = true) (h2 : wDeed (D.getD j default).1 (D.getD j default).2.1 (D.getD j default).2.2 = 0) : rightsB (D.take (j + 1)) = true := by
  rw [take_snoc_getD hj]
  unfold rightsB at *
  rw [List.all_append, h]
  simp only [List.all_cons, List.all_nil, Bool.and_true, Bool.true_and, decide_eq_true_eq]
  exact h2
theorem rightsB_not {D : List Deed3} {j : Nat} (hj : j < D.length) (h2 : wDeed (D.getD j default).1 (D.getD j default).2.1 (D.getD j default).2.2 ≠ 0) : rightsB D = false := by
  unfold rightsB
  rw [List.all_eq_false]
  exact ⟨D.getD j default, by simp [List.getD, hj], by simpa using h2⟩

theorem refDo_toldK (l : List Row) (d : Deed3) (lb : Option Addr) (ln lc : Nat) (rb : Option Addr) (rn rc : Nat) (wb : Option Addr) (wn wc : Nat) (cb : Option Addr) (cn cc : Nat) (w : World)
    (hd : DeedIn w rb rn rc wb wn wc cb cn cc d.1 d.2.1 d.2.2) (hright : RightDD d) (hh : Holds w lb ln lc l) (hrl : Right l) :
    Calls Try.prog 35 #[.slice lb ln lc, .agg #[.slice rb rn rc, .slice wb wn wc, .slice cb cn cc]] w fun e w' =>
      ∃ (nb : Option Addr) (nn nc : Nat) (f : Bool) (r : Nat → Int), endD l d = (f, r) ∧ e = .returned (.tuple #[.slice nb nn nc, .agg #[.bool f, .int .i64 (r 0), .int .i64 (r 1), .int .i64 (r 2), .int .i64 (r 3)]]) ∧ Holds w' nb nn nc (doD l d) ∧ Below w.heap.size w w' ∧ ((nb = lb ∧ nn = ln) ∨ Kind w' 45 nb) := by
  refine (refDo_callsK d.1 d.2.1 d.2.2 l rb rn rc wb wn wc cb cn cc lb ln lc w hd hright hh hrl.srt (do_few hrl hh.len)).mono ?_
  rintro e w' ⟨nb, nn, nc, L, r, m, f, hex, rfl, hL, h1, h2, hb, hk⟩
  have ex : exD l d = (r, m, f) := hex
  refine ⟨nb, nn, nc, f, r, by unfold endD; rw [ex], rfl, ?_, hb, hk⟩
  cases f with
  | true => rw [doD_fail (by rw [ex]), ← h1 rfl]; exact hL
  | false =>
    have := over_doD (L := L) hrl.srt hright (by rw [ex]) (by rw [ex]; exact h2 rfl)
    rw [← this]; exact hL

set_option maxHeartbeats 2000000 in
theorem sameEnds_calls (E : List End3) (ab : Option Addr) (an ac : Nat) (bb : Option Addr) (bn bc : Nat) (w : World) (ha : Ends w ab an ac E) (hb : Ends w bb bn bc E) :
    Calls Try.prog 25 #[.slice ab an ac, .slice bb bn bc] w fun e w' => e = .returned (.bool true) ∧ Below w.heap.size w w' := by
  have h1 := Ends.count ha
  have h2 := Ends.count hb
  obtain rfl : an = bn := by omega
  have hm := Nat.le_trans ha.hdr.le ha.hdr.max
  unfold maxLen at hm
  have HN := hid h1
  have HA := hid ha
  have HB := hid hb
  clear h1 h2 ha hb
  have harr := regsEq
  go_enter Try.func25, Try.ntmps25
  go_wp2
  go_loopw [13] (fun i wr => ∃ k : Nat, k ≤ an ∧ i = .int .i64 k ∧ ∃ q, wr = w.drewN q) (fun i _ => an - (intOf i).toNat)
  case atStart => exact ⟨0, Nat.zero_le _, rfl, 0, rfl⟩
  case round =>
    obtain ⟨k, hk, rfl, q, rfl⟩ := hrel
    by_cases hlt : k < an
    · rcases HA.out.run with h | ⟨b1, o1, rfl, r1⟩
      · omega
      rcases HB.out.run with h | ⟨b2, o2, rfl, r2⟩
      · omega
      obtain ⟨a0, a1, a2, a3, a4⟩ := Ends.cells r1 (k := k) (by rw [← HN.out]; exact hlt)
      obtain ⟨c0, c1, c2, c3, c4⟩ := Ends.cells r2 (k := k) (by rw [← HN.out]; exact hlt)
      clear r1 r2
      generalize (E.getD k default).1 = f at *
      generalize (E.getD k default).2 = r at *
      have hi : (k : Int) < (an : Int) := by omega
      go_wp2
      go_quiet (fail)
      go_wp2
      go_roundw
      case rel => exact ⟨k + 1, by omega, by go_num, _, rfl⟩
      case measure => simp [intOf]; omega
    · go_wp2
      go_ret
      exact ⟨rfl, below_drewN (Below.refl _ _) q⟩
end Go.Proofs.Ytdnafpenljdinad

namespace Go.Proofs.Ytdnafpenljdinad
open Go.RowKit

theorem set_comm (w : World) {b g : Nat} (i j : Nat) (u v : Value) (hne : b ≠ g) : (w.setCell ⟨b, i, none⟩ u).setCell ⟨g, j, none⟩ v = (w.setCell ⟨g, j, none⟩ v).setCell ⟨b, i, none⟩ u := by
  unfold World.setCell
  simp only
  congr 1
  apply Array.ext_getElem?
  intro k
  simp only [Array.getElem?_modify]
  by_cases h1 : b = k
  · subst h1
    rw [if_neg (Ne.symm hne), if_pos rfl, if_pos rfl, if_neg (Ne.symm hne)]
  · rw [if_neg h1, if_neg h1]
theorem five_comm (w : World) {b g : Nat} (i o : Nat) (u : Value) (f : Bool) (x0 x1 x2 x3 : Int) (hne : b ≠ g) : fiveAt (w.setCell ⟨b, i, none⟩ u) g o f x0 x1 x2 x3 = (fiveAt w g o f x0 x1 x2 x3).setCell ⟨b, i, none⟩ u := by
  unfold fiveAt
  rw [set_comm _ _ _ _ _ hne, set_comm _ _ _ _ _ hne, set_comm _ _ _ _ _ hne, set_comm _ _ _ _ _ hne, set_comm _ _ _ _ _ hne]
theorem Holds.off {b : Nat} {w w' : World} {base : Option Addr} {n c : Nat} {l : List Row} (h : Holds w base n c l) (ha : NoText w b) (ho : Off b w w') : Holds w' base n c l := by
  refine ⟨h.len, ?_, h.hdr⟩
  rcases h.seg with h0 | ⟨bl, o, e, hc⟩
  · exact .inl h0
  · refine .inr ⟨bl, o, e, fun i hi => ?_⟩
    obtain ⟨h1, h2⟩ := hc i hi
    have hne : bl ≠ b := fun e => ha _ _ (by rw [← e]; exact h1)
    exact ⟨ho.cell hne h1, ho.cell hne h2⟩
end Go.Proofs.Ytdnafpenljdinad
