/-
  The closed fact that the statements of chapter 4 ask first is so.
-/
import Derived.Test.YtfdliblikkpjiabDoorRefParse
import Derived.Test.YtfdliblikkpjiabDoorPlainOne
namespace Go.Proofs.YtfdliblikkpjiabDoor
open Go.RowKit

theorem read_results (tmps : Array Value) (b : Nat) (w : World) {x y z : Value} (h2 : tmps.getD 2 undef = .pointer (some ⟨b, 0, none⟩)) (h : Three w b x y z) (hx : ∃ p q r, x = .slice p q r) (hy : ∃ p q r, y = .slice p q r) (hz : ∃ p q r, z = .slice p q r) :
    (results Tryd.f28 tmps).run Tryd.prog w = .ok (.agg #[x, y, z]) w := by
  have h2' : tmps[2]?.getD undef = .pointer (some ⟨b, 0, none⟩) := by simpa using h2
  obtain ⟨_, _, _, rfl⟩ := hx
  obtain ⟨_, _, _, rfl⟩ := hy
  obtain ⟨_, _, _, rfl⟩ := hz
  simp [results, Tryd.results28, go_sem, h2', h.c0, h.c1, h.c2]

/-- How read ends, of a text that is a deed's. -/
def ReadTold (w w' : World) (d : Deed3) (e : Ending) : Prop :=
  ∃ rb rn rc wb wn wc cb cn cc, e = .returned (.agg #[.slice rb rn rc, .slice wb wn wc, .slice cb cn cc]) ∧ DeedIn w' rb rn rc wb wn wc cb cn cc d.1 d.2.1 d.2.2 ∧ Below w.heap.size w w'

set_option maxRecDepth 100000 in
set_option maxHeartbeats 2000000 in
theorem read4_calls (s : ByteArray) (d : Deed3) (w : World) (hG : GroundN w) (hs : s.size ≤ maxLen) (hd : readT (keyT s) = (0, d.1, d.2.1, d.2.2)) :
    Calls Tryd.prog 28 #[.string s] w fun e w' => ReadTold w w' d e := by
  have HA0 := hid (three_new w (.slice none 0 0) (.slice none 0 0) (.slice none 0 0) 25)
  have HG0 := hid (grew w (.cells #[.slice none 0 0, .slice none 0 0, .slice none 0 0] 25))
  have HP := hid (refParse_calls s _ (hG.below HG0.out) hs)
  rw [hd] at HP
  clear hG hs hd
  go_enter Tryd.func28, Tryd.ntmps28
  go_wp2_with fail
  refine HP.out.mono ?_
  rintro e w1 ⟨rb, rn, rc, wb, wn, wc, cb, cn, cc, rfl, hdi, hb1, f0, f1, f2⟩
  have q0 := (HA0.out.below hb1).c0
  have q1 := (HA0.out.below hb1).c1
  have q2 := (HA0.out.below hb1).c2
  have g0 := (HA0.out.below hb1).free 0
  have g1 := (HA0.out.below hb1).free 1
  have g2 := (HA0.out.below hb1).free 2
  have hlt := (HA0.out.below hb1).lt
  have hlt0 : w.heap.size < (w.alloc (.cells #[.slice none 0 0, .slice none 0 0, .slice none 0 0] 25)).heap.size := by rw [World.size_alloc]; omega
  have HDF : Hid (DeedIn ((setThree w1 w.heap.size (.slice rb rn rc) (.slice wb wn wc) (.slice cb cn cc)).alloc (.cells #[.slice rb rn rc, .slice wb wn wc, .slice cb cn cc] 25)) rb rn rc wb wn wc cb cn cc d.1 d.2.1 d.2.2) :=
    DeedIn.below ⟨three_lies f0 hlt0 hdi.tr, three_lies f1 hlt0 hdi.tw, three_lies f2 hlt0 hdi.cd⟩ (grew _ _)
  have HBF := hid (below_deep (below_three (below_deep HG0.out hb1) (Nat.le_refl w.heap.size) (.slice rb rn rc) (.slice wb wn wc) (.slice cb cn cc)) (grew _ (.cells #[.slice rb rn rc, .slice wb wn wc, .slice cb cn cc] 25)))
  have HTH := hid (((HA0.out.below hb1).all (.slice rb rn rc) (.slice wb wn wc) (.slice cb cn cc)).below (grew _ (.cells #[.slice rb rn rc, .slice wb wn wc, .slice cb cn cc] 25)))
  unfold setThree at HDF HBF HTH
  clear hdi hb1 f0 f1 f2
  go_wp2
  (try simp only [Exit.inBlock, Exit.then])
  refine bodyPost_ret (read_results _ w.heap.size _ rfl ⟨HTH.out.c0, HTH.out.c1, HTH.out.c2⟩ ⟨_, _, _, rfl⟩ ⟨_, _, _, rfl⟩ ⟨_, _, _, rfl⟩) rfl ?_
  exact ⟨_, _, _, _, _, _, _, _, _, rfl, HDF.out, HBF.out⟩

/-- Two deeds in a slice that was just laid. -/
theorem deeds_two (w : World) (rb : Option Addr) (rn rc : Nat) (wb : Option Addr) (wn wc : Nat) (cb : Option Addr) (cn cc : Nat) (rb' : Option Addr) (rn' rc' : Nat) (wb' : Option Addr) (wn' wc' : Nat) (cb' : Option Addr) (cn' cc' : Nat) (d d' : Deed3)
    (h : DeedIn w rb rn rc wb wn wc cb cn cc d.1 d.2.1 d.2.2) (h' : DeedIn w rb' rn' rc' wb' wn' wc' cb' cn' cc' d'.1 d'.2.1 d'.2.2) (s : SmallT d.1 ∧ SmallT d.2.1) (s' : SmallT d'.1 ∧ SmallT d'.2.1) :
    DeedsIn (w.alloc (.cells #[.slice rb rn rc, .slice wb wn wc, .slice cb cn cc, .slice rb' rn' rc', .slice wb' wn' wc', .slice cb' cn' cc'] 25)) (some ⟨w.heap.size, 0, none⟩) 2 2 [d, d'] := by
  have hb := grew w (.cells #[.slice rb rn rc, .slice wb wn wc, .slice cb cn cc, .slice rb' rn' rc', .slice wb' wn' wc', .slice cb' cn' cc'] 25)
  refine ⟨rfl, ⟨Nat.le_refl _, by unfold maxLen; omega, fun h => by cases h⟩, .inr ⟨_, _, rfl, fun i hi => ?_⟩⟩
  have : i = 0 ∨ i = 1 := by omega
  rcases this with rfl | rfl
  · exact ⟨rb, rn, rc, wb, wn, wc, cb, cn, cc, box_cell w _ _ 0 _ rfl, box_cell w _ _ 1 _ rfl, box_cell w _ _ 2 _ rfl, h.below hb, s.1, s.2⟩
  · exact ⟨rb', rn', rc', wb', wn', wc', cb', cn', cc', box_cell w _ _ 3 _ rfl, box_cell w _ _ 4 _ rfl, box_cell w _ _ 5 _ rfl, h'.below hb, s'.1, s'.2⟩

set_option maxRecDepth 100000 in
set_option maxHeartbeats 4000000 in
theorem palive_calls (w : World) (hG : GroundN w) : Calls Tryd.prog 11 #[] w fun e w' => e = .returned (.bool true) ∧ Below w.heap.size w w' := by
  have HPA : Hid (∀ s : ByteArray, keyT s = oneT → Calls Tryd.prog 28 #[.string s] w fun e w' => ReadTold w w' oneD e) := fun s e => by
    have hz := keyT_len s
    have hl : oneT.length = 63 := by decide
    exact read4_calls s oneD w hG (by rw [e] at hz; unfold maxLen; omega) (by rw [e]; exact one_read)
  clear hG
  go_enter Tryd.func11, Tryd.ntmps11
  go_wp2_with fail
  refine (HPA.out _ ?_).mono ?_
  · rfl
  rintro e w1 ⟨rb, rn, rc, wb, wn, wc, cb, cn, cc, rfl, hdi, hb1⟩
  have HG1 := hid (grew w1 (.cells #[.slice rb rn rc, .slice wb wn wc, .slice cb cn cc] 25))
  have HDI := hid (hdi.below HG1.out)
  have HB1 := hid (below_deep hb1 HG1.out)
  have HDO := hid (do_calls [] oneD none 0 0 rb rn rc wb wn wc cb cn cc _ HDI.out one_small one_small oneRight (Holds.empty _ rfl rfl ⟨Nat.le_refl _, Nat.zero_le _, fun _ => rfl⟩) (right_of rfl))
  clear hdi hb1 HPA
  go_wp2_with fail
  refine HDO.out.mono ?_
  rintro e w2 ⟨nb, nn, nc, f, r, hend, rfl, h2, hb2⟩
  have hr0 : r 0 = 1 := by
    have := inc_none_end
    rw [hend] at this
    exact this
  rw [inc_none] at h2
  obtain rfl : nn = 1 := h2.len
  rcases h2.seg with h | ⟨b, o, rfl, hc⟩
  · cases h
  have c1 := (hc 0 (by decide)).2
  have e1 : (([(oneA, 1)] : List Row).getD 0 default).2 = 1 := rfl
  rw [e1, Nat.zero_mul, Nat.add_zero] at c1
  have HG2 := hid (grew w2 (.cells #[.bool f, .int .i64 (r 0), .int .i64 (r 1), .int .i64 (r 2), .int .i64 (r 3)] 39))
  have q0 := kept_cell hb2 (box_cell w1 #[.slice rb rn rc, .slice wb wn wc, .slice cb cn cc] 25 0 _ rfl)
  have q1 := kept_cell hb2 (box_cell w1 #[.slice rb rn rc, .slice wb wn wc, .slice cb cn cc] 25 1 _ rfl)
  have q2 := kept_cell hb2 (box_cell w1 #[.slice rb rn rc, .slice wb wn wc, .slice cb cn cc] 25 2 _ rfl)
  have hl2 : w1.heap.size < w2.heap.size := by simpa using World.block_lt_of_cell? _ _ q0
  have hbl : b < w2.heap.size := by simpa using World.block_lt_of_cell? _ _ c1
  have d1 := box_cell w2 #[.bool f, .int .i64 (r 0), .int .i64 (r 1), .int .i64 (r 2), .int .i64 (r 3)] 39 1 (.int .i64 (r 0)) rfl
  rw [hr0] at HG2 d1
  have HDS := hid (deeds_two _ rb rn rc wb wn wc cb cn cc rb rn rc wb wn wc cb cn cc oneD oneD (HDI.out.below (below_deep hb2 HG2.out)) (HDI.out.below (below_deep hb2 HG2.out)) ⟨one_small, one_small⟩ ⟨one_small, one_small⟩)
  have HG3 := hid (grew (w2.alloc (.cells #[.bool f, .int .i64 1, .int .i64 (r 1), .int .i64 (r 2), .int .i64 (r 3)] 39)) (.cells #[.slice rb rn rc, .slice wb wn wc, .slice cb cn cc, .slice rb rn rc, .slice wb wn wc, .slice cb cn cc] 25))
  have HAL := hid (all_calls [(oneA, 1)] [oneD, oneD] _ 1 nc _ 2 2 _ (h2.below (below_deep HG2.out HG3.out)) (by have := doD_right (l := []) (d := oneD) (right_of rfl) oneRight; rw [inc_none] at this; exact this) HDS.out (fun d hd => by simp at hd; rw [hd]; exact oneRight) (by decide))
  have HB3 := hid (below_deep HB1.out (below_deep hb2 (below_deep HG2.out HG3.out)))
  have d1' := box_past (.cells #[.slice rb rn rc, .slice wb wn wc, .slice cb cn cc, .slice rb rn rc, .slice wb wn wc, .slice cb cn cc] 25) d1
  have c1' := kept_cell (below_deep HG2.out HG3.out) c1
  rw [World.size_alloc] at HAL
  clear hend h2 hc hb2 HDO e1 d1
  rw [hr0]
  go_wp2_with fail
  refine HAL.out.mono ?_
  rintro e w4 ⟨nb4, nn4, nc4, eb4, en4, ec4, rfl, h4, he4, hb4⟩
  rw [inc_two] at h4
  obtain rfl : nn4 = 1 := h4.len
  rcases h4.seg with h | ⟨b4, o4, rfl, hc4⟩
  · cases h
  have c4 := (hc4 0 (by decide)).2
  have e4 : (([(oneA, 3)] : List Row).getD 0 default).2 = 3 := rfl
  rw [e4, Nat.zero_mul, Nat.add_zero] at c4
  obtain rfl : en4 = 2 := by have := Ends.count he4; rw [endsD_length] at this; exact this
  have d4 := kept_cell hb4 d1'
  have c3 := kept_cell hb4 c1'
  have HB4 := hid (below_deep HB3.out hb4)
  clear h4 hc4 he4 hb4 e4 d1' c1' c1
  go_wp2
  go_ret
  exact ⟨rfl, HB4.out⟩
end Go.Proofs.YtfdliblikkpjiabDoor
