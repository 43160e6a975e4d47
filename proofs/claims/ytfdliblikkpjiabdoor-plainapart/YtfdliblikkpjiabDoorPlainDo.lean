/-
  Do of the program: a right deed, done on right rows; and the document's own, told the same way.
-/
import Derived.Test.YtfdliblikkpjiabDoorPlainWith
import Derived.Test.YtfdliblikkpjiabDoorDeedRun
import Derived.Test.YtfdliblikkpjiabDoorRefDo
import Derived.Test.YtfdliblikkpjiabDoorNamedKeep
namespace Go.Proofs.YtfdliblikkpjiabDoor
open Go.RowKit

/-- How Do ends: keys have what the deed made, and how it ended. -/
def DoTold (w w' : World) (l : List Row) (d : Deed3) (e : Ending) : Prop :=
  ∃ (nb : Option Addr) (nn nc : Nat) (f : Bool) (r : Nat → Int), endD l d = (f, r) ∧ e = .returned (.tuple #[.slice nb nn nc, .agg #[.bool f, .int .i64 (r 0), .int .i64 (r 1), .int .i64 (r 2), .int .i64 (r 3)]]) ∧ Holds w' nb nn nc (doD l d) ∧ Below w.heap.size w w'

theorem do_few {l : List Row} (h : Right l) {n : Nat} (hn : n = l.length) : (n + 20) * 24 ≤ 140737488355328 := by
  have := right_few h
  omega

set_option maxHeartbeats 1000000 in
theorem sees_calls (l : List Row) (base : Option Addr) (n c : Nat) (k : ByteArray) (rb : Nat) (w : World) (hn : n < 4611686018427387904) (hs : Srt l) (hh : Holds w base n c l) (h3 : w.cell? ⟨rb, 0, none⟩ = some (.slice base n c)) :
    Calls Tryd.prog 29 #[.string k, .pointer (some ⟨rb, 0, none⟩)] w fun e w' => e = .returned (.tuple #[.int .i64 (num k l), .bool (isAt k l)]) ∧ Below w.heap.size w w' := by
  have hl := hh.len
  have HG := hid (get_calls l base c k w (by omega) hs hh.seg)
  rw [← hl] at HG
  clear hh hs hl hn
  go_enter Tryd.func29, Tryd.ntmps29
  go_wp2_with fail
  refine HG.out.mono ?_
  rintro e w1 ⟨rfl, hb⟩
  go_wp2
  go_ret2
  exact ⟨rfl, hb⟩
theorem sees_in : Entered 29 := fun _ _ => by kernel_rfl

theorem pdo_results (tmps : Array Value) (b : Nat) (w : World) {f : Bool} {x0 x1 x2 x3 : Int} (h5 : tmps.getD 5 undef = .pointer (some ⟨b, 0, none⟩)) (h : Five w b f x0 x1 x2 x3) :
    (results Tryd.f13 tmps).run Tryd.prog w = .ok (.tuple #[tmps.getD 4 undef, .agg #[.bool f, .int .i64 x0, .int .i64 x1, .int .i64 x2, .int .i64 x3]]) w := by
  have h5' : tmps[5]?.getD undef = .pointer (some ⟨b, 0, none⟩) := by simpa using h5
  simp [results, Tryd.results13, go_sem, h5', h.c0, h.c1, h.c2, h.c3, h.c4]
/-- A block of an end, laid and not written yet. -/
structure EndBox (w : World) (b : Nat) : Prop where
  free : ∀ j, j < 5 → w.frozen? ⟨b, j, none⟩ = false
  there : ∀ j, j < 5 → ∃ u, w.cell? ⟨b, j, none⟩ = some u
  text : NoText w b
  lt : b < w.heap.size
theorem endBox_new (w : World) : EndBox (w.alloc (.cells #[.bool false, .int .i64 0, .int .i64 0, .int .i64 0, .int .i64 0] 39)) w.heap.size := by
  refine ⟨fun j _ => by rw [World.frozen?_alloc_at _ _ _ _ rfl], fun j hj => ?_, fun o s e => ?_, by rw [World.size_alloc]; omega⟩
  · rw [World.cell?_alloc_at _ _ _ _ rfl]
    have : j = 0 ∨ j = 1 ∨ j = 2 ∨ j = 3 ∨ j = 4 := by omega
    rcases this with rfl | rfl | rfl | rfl | rfl <;> exact ⟨_, rfl⟩
  · rw [World.cell?_alloc_at _ _ _ _ rfl] at e
    have : o = 0 ∨ o = 1 ∨ o = 2 ∨ o = 3 ∨ o = 4 ∨ 5 ≤ o := by omega
    rcases this with rfl | rfl | rfl | rfl | rfl | h5
    · cases e
    · cases e
    · cases e
    · cases e
    · cases e
    · rw [Array.getElem?_eq_none (by simpa using h5)] at e; cases e
theorem EndBox.below {w w' : World} {b : Nat} (h : EndBox w b) (hb : Below w.heap.size w w') : EndBox w' b := by
  refine ⟨fun j hj => by rw [hb.frozen (p := ⟨b, j, none⟩) h.lt]; exact h.free j hj, fun j hj => by rw [hb.cell (p := ⟨b, j, none⟩) h.lt]; exact h.there j hj, fun o s e => ?_, Nat.lt_of_lt_of_le h.lt hb.size⟩
  rw [hb.cell (p := ⟨b, o, none⟩) h.lt] at e; exact h.text o s e
theorem told_five {f : Bool} {m : Made} {W : List ByteArray} (h : wKeys W = 0) : (if f = true then [] else vers m W).length ≤ 5 := by
  split
  · simp
  · exact Nat.le_trans (List.length_filterMap_le _ _) (wKeys_len h)
theorem doD_told {l : List Row} {d : Deed3} {r : Nat → Int} {m : Made} {f : Bool} (h : exec (fun k => num k l) d.2.2 0 zeroR zeroM = (r, m, f)) : (if f = true then [] else vers m d.2.1).foldl putOne l = doD l d ∧ endD l d = (f, r) := by
  have e : exD l d = (r, m, f) := h
  refine ⟨?_, by unfold endD; rw [e]⟩
  unfold doD; rw [e]
  cases f <;> rfl

set_option maxHeartbeats 4000000 in
set_option maxRecDepth 100000 in
theorem do_calls (l : List Row) (d : Deed3) (lb : Option Addr) (ln lc : Nat) (rb : Option Addr) (rn rc : Nat) (wb : Option Addr) (wn wc : Nat) (cb : Option Addr) (cn cc : Nat) (w : World)
    (hd : DeedIn w rb rn rc wb wn wc cb cn cc d.1 d.2.1 d.2.2) (hr : SmallT d.1) (hw : SmallT d.2.1) (hright : RightDD d) (hh : Holds w lb ln lc l) (hrl : Right l) :
    Calls Tryd.prog 13 #[.slice lb ln lc, .agg #[.slice rb rn rc, .slice wb wn wc, .slice cb cn cc]] w fun e w' => DoTold w w' l d e := by
  have hmf : ∀ (fn : Fn) (first cap : Array Value) (w : World), (Instr.makeFunc fn first cap).run Tryd.prog w = .ok (.func fn first cap) w := fun _ _ _ _ => rfl
  have HD := hid hd
  have HSR := hid hr
  have HSW := hid hw
  have HRT := hid hright
  have HH := hid hh
  have HRL := hid hrl
  have HFEW := hid (do_few hrl hh.len)
  clear hd hr hw hright hh hrl
  obtain ⟨A, hA⟩ : ∃ A, A = ((w.alloc (.cells #[.slice lb ln lc] 35)).alloc (.cells #[.slice rb rn rc, .slice wb wn wc, .slice cb cn cc] 25)).alloc (.cells #[.bool false, .int .i64 0, .int .i64 0, .int .i64 0, .int .i64 0] 39) := ⟨_, rfl⟩
  have HBA : Hid (Below w.heap.size w A) := by show Below _ _ _; rw [hA]; exact below_deep (below_deep (grew _ _) (grew _ _)) (grew _ _)
  have x0 : A.cell? ⟨w.heap.size, 0, none⟩ = some (.slice lb ln lc) := by rw [hA]; exact box_past _ (box_past _ (box_cell w _ _ 0 _ rfl))
  have HEB : Hid (EndBox A (w.heap.size + 2)) := by
    have := endBox_new ((w.alloc (.cells #[.slice lb ln lc] 35)).alloc (.cells #[.slice rb rn rc, .slice wb wn wc, .slice cb cn cc] 25))
    rw [World.size_alloc, World.size_alloc] at this
    show EndBox _ _; rw [hA]; exact this
  have HT : Hid (∀ k, k ∈ d.1 → Tells A 29 #[.pointer (some ⟨w.heap.size, 0, none⟩)] k (num k l)) := by
    intro k _ w0 hb0
    refine (sees_calls l lb ln lc k w.heap.size w0 (by have := HFEW.out; omega) HRL.out.srt (HH.out.below (below_deep HBA.out hb0)) (kept_cell hb0 x0)).mono ?_
    rintro e w' ⟨rfl, hb⟩
    exact ⟨⟨_, _, rfl, seen_num k l⟩, hb⟩
  have HRUN := hid (run_calls d.1 d.2.1 d.2.2 rb rn rc wb wn wc cb cn cc 29 _ (fun k => num k l) A (HD.out.below HBA.out) HSR.out HSW.out (right_wDeed HRT.out) sees_in HT.out)
  have HX0 := hid x0
  clear x0 HT
  subst hA
  go_enter Tryd.func13, Tryd.ntmps13
  go_wp2_with fail
  refine HRUN.out.mono ?_
  rintro e w1 ⟨r, m, f, vb, vn, vc, kb, kn, kc, hex, rfl, hv1, hv2, hb1⟩
  obtain ⟨hdo, hend⟩ := doD_told (d := d) hex
  have HW := hid (fun W1 (hb : Below w1.heap.size w1 W1) => with_calls (if f = true then [] else vers m d.2.1) l lb ln lc vb vn vc kb kn kc W1 (told_five HRT.out.w) (by have := HFEW.out; omega) HRL.out.srt (HH.out.below (below_deep HBA.out (below_deep hb1 hb))) (hv1.below (by decide) hb) (hv2.below (by decide) hb))
  rw [hdo] at HW
  have HEND := hid hend
  have e0 := kept_cell hb1 HX0.out
  have l0 : w.heap.size < w1.heap.size := by simpa using World.block_lt_of_cell? _ _ e0
  have HEB1 := hid (HEB.out.below hb1)
  have l2 : w.heap.size + 2 < w1.heap.size := HEB1.out.lt
  have HB1 := hid (below_deep HBA.out hb1)
  clear hdo hend hex hv1 hv2 hb1 HRUN HX0
  go_wp2
  have HG := hid (grew w1 (.cells #[.bool f, .int .i64 (r 0), .int .i64 (r 1), .int .i64 (r 2), .int .i64 (r 3)] 39))
  go_region_with (
    go_at_call 32; refine (HW.out _ HG.out.drew).mono ?_; rintro e w2 ⟨nb, nn, nc, rfl, h2, hb2⟩;
    have d0 := kept_cell hb2 (box_cell w1 #[.bool f, .int .i64 (r 0), .int .i64 (r 1), .int .i64 (r 2), .int .i64 (r 3)] 39 0 (.bool f) rfl);
    have d1 := kept_cell hb2 (box_cell w1 #[.bool f, .int .i64 (r 0), .int .i64 (r 1), .int .i64 (r 2), .int .i64 (r 3)] 39 1 (.int .i64 (r 0)) rfl);
    have d2 := kept_cell hb2 (box_cell w1 #[.bool f, .int .i64 (r 0), .int .i64 (r 1), .int .i64 (r 2), .int .i64 (r 3)] 39 2 (.int .i64 (r 1)) rfl);
    have d3 := kept_cell hb2 (box_cell w1 #[.bool f, .int .i64 (r 0), .int .i64 (r 1), .int .i64 (r 2), .int .i64 (r 3)] 39 3 (.int .i64 (r 2)) rfl);
    have d4 := kept_cell hb2 (box_cell w1 #[.bool f, .int .i64 (r 0), .int .i64 (r 1), .int .i64 (r 2), .int .i64 (r 3)] 39 4 (.int .i64 (r 3)) rfl);
    have HB2 := hid (below_deep HG.out.drew hb2);
    have HE2 := hid (HEB1.out.below HB2.out);
    have g0 := HE2.out.free 0 (by decide);
    have g1 := HE2.out.free 1 (by decide);
    have g2 := HE2.out.free 2 (by decide);
    have g3 := HE2.out.free 3 (by decide);
    have g4 := HE2.out.free 4 (by decide);
    obtain ⟨t0, q0⟩ := HE2.out.there 0 (by decide);
    obtain ⟨t1, q1⟩ := HE2.out.there 1 (by decide);
    obtain ⟨t2, q2⟩ := HE2.out.there 2 (by decide);
    obtain ⟨t3, q3⟩ := HE2.out.there 3 (by decide);
    obtain ⟨t4, q4⟩ := HE2.out.there 4 (by decide);
    have H2 := hid h2;
    clear hb2 h2)
  all_goals
    go_wp2
    (try simp only [Exit.inBlock, Exit.then])
    refine bodyPost_ret (pdo_results _ (w.heap.size + 2) _ rfl (five_cells HE2.out.there)) rfl ?_
    exact ⟨nb, nn, nc, f, r, HEND.out, rfl, five_holds H2.out HE2.out.text HE2.out.there, five_below _ _ _ _ _ (by omega) (below_deep HB1.out HB2.out)⟩

end Go.Proofs.YtfdliblikkpjiabDoor
