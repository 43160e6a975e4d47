/-
  The document's own SameChains, walked: of two lists of the same chains it answers true.
  The document's own SameInts, SameTexts, SameDeeds and SameEngine, of what is the same, walked.
  Wrong of the program tells the first thing that is wrong with any rows.
  The closed fact that the statements of chapter 1 ask first is so.
  SameRows of the document's answer tells whether two lists of rows are one.
  The walk of the statement RowsApart: the call returns true and changes nothing that was there.
  The walk of the statement RowsTells: the call returns true and changes nothing that was there.
  The walk of the statement PlanTells: the call returns true and changes nothing that was there.
  The closed fact that the statements of chapter 6 ask first is so.
-/
import Derived.Test.YtmfieleonhgeoacGreatDoorChainAt
import Derived.Test.YtmfieleonhgeoacGreatDoorRefKeys
import Derived.Test.YtmfieleonhgeoacGreatDoorRefNew
import Derived.Test.YtmfieleonhgeoacGreatDoorRefPut
import Derived.Test.YtmfieleonhgeoacGreatDoorEngSet
import Derived.Deep.DeepCutAuto
import Derived.Test.YtmfieleonhgeoacGreatDoorLies
import Derived.BigQuiet
import Derived.Deep.QuietTactic
import Derived.Test.YtmfieleonhgeoacGreatDoorChecked
import Derived.WalkKit
import Derived.WalkSpells
import Derived.WalkLawsBesides
import Derived.Below
import Derived.LoopTactic
import Derived.Outline
import Derived.Test.YtmfieleonhgeoacGreatDoorRef
import Derived.Test.YtmfieleonhgeoacGreatDoorRefBuild
import Derived.Test.YtmfieleonhgeoacGreatDoorPlanNeeds
import Derived.Test.YtmfieleonhgeoacGreatDoorPlanKeys
namespace Go.Proofs.YtmfieleonhgeoacGreatDoor
open Go.RowKit

end Go.Proofs.YtmfieleonhgeoacGreatDoor

namespace Go.Proofs.YtmfieleonhgeoacGreatDoor
open Go.RowKit

set_option maxHeartbeats 2000000 in
theorem sameInts_calls (l : List Int) (ab : Option Addr) (an ac : Nat) (bb : Option Addr) (bn bc : Nat) (w : World) (ha : Ints w ab an ac l) (hb : Ints w bb bn bc l) :
    Calls Tryz.prog 10 #[.slice ab an ac, .slice bb bn bc] w fun e w' => e = .returned (.bool true) ∧ Below w.heap.size w w' := by
  have h1 := Ints.count ha
  have h2 := Ints.count hb
  obtain rfl : an = bn := by omega
  have hm := Nat.le_trans ha.hdr.le ha.hdr.max
  unfold maxLen at hm
  have HN := hid h1
  have HA := hid ha
  have HB := hid hb
  clear h1 h2 ha hb
  go_enter Tryz.func10, Tryz.ntmps10
  go_wp2
  go_loopw [13] (fun i wr => ∃ k : Nat, k ≤ an ∧ i = .int .i64 k ∧ ∃ q, wr = w.drewN q) (fun i _ => an - (intOf i).toNat)
  case atStart => exact ⟨0, Nat.zero_le _, rfl, 0, rfl⟩
  case round =>
    obtain ⟨k, hk, rfl, q, rfl⟩ := hrel
    by_cases hlt : k < an
    · have hkl : k < l.length := by rw [← HN.out]; exact hlt
      rcases HA.out.run with h | ⟨b1, o1, rfl, r1⟩
      · omega
      rcases HB.out.run with h | ⟨b2, o2, rfl, r2⟩
      · omega
      have a0 := r1 k _ (intsC_at hkl)
      have c0 := r2 k _ (intsC_at hkl)
      clear r1 r2
      generalize l.getD k 0 = x at *
      have hi : (k : Int) < (an : Int) := by omega
      have t : (x != x) = false := by simp
      go_wp2
      go_quiet (fail)
      go_wp2
      go_roundw
      case rel => exact ⟨k + 1, by omega, by go_num, _, rfl⟩
      case measure => simp [intOf]; omega
    · go_wp2
      go_ret
      exact ⟨rfl, below_drewN (Below.refl _ _) q⟩

end Go.Proofs.YtmfieleonhgeoacGreatDoor

namespace Go.Proofs.YtmfieleonhgeoacGreatDoor
open Go.RowKit

end Go.Proofs.YtmfieleonhgeoacGreatDoor

namespace Go.Proofs.YtmfieleonhgeoacGreatDoor
open Go.RowKit

/-- The keys a, b and abc. -/
def kA : ByteArray := ⟨#[97]⟩
def kB : ByteArray := ⟨#[98]⟩
def kC : ByteArray := ⟨#[97, 98, 99]⟩
/-- The rows that are made. -/
def rAB : List Row := [(kA, 1), (kB, 2)]

theorem less_ab : less kA kB = true := by
  rw [less_def, ByteArray.toList_eq, ByteArray.toList_eq]; decide
theorem less_ba : less kB kA = false := less_asymm less_ab
theorem put_b : ins kB 2 [] = [(kB, 2)] := rfl
theorem put_ab : ins kA 1 [(kB, 2)] = rAB := by simp [ins, less_ab, less_ba, rAB]
theorem srt_ab : Srt rAB := by simp [Srt, rAB, less_ab]
theorem drop_ab : del kA rAB = [(kB, 2)] := by simp [del, rAB, less_irrefl]
theorem num_ab : num kB rAB = 2 := by simp [num, rAB, less_ab, less_irrefl]
theorem isAt_ab : isAt kB rAB = true := by simp [isAt, rAB, less_ab, less_irrefl]
theorem key_a : keyB kA = true := by decide
theorem key_b : keyB kB = true := by decide
theorem key_c : keyB kC = true := by decide
theorem wrong_ab : wrong rAB = 0 := by
  refine right_wrong ⟨srt_ab, fun x hx => ?_, fun x hx => ?_, fun x hx => ?_⟩ <;> (simp [rAB] at hx; rcases hx with rfl | rfl <;> first | exact key_a | exact key_b | decide)
theorem small_ab : Small rAB := fun x hx => by
  simp [rAB] at hx; rcases hx with rfl | rfl <;> decide

end Go.Proofs.YtmfieleonhgeoacGreatDoor

namespace Go.Proofs.YtmfieleonhgeoacGreatDoor
open Go.RowKit

set_option maxHeartbeats 400000 in
theorem same_calls (l : List Row) (ba bb : Option Addr) (ca cb : Nat) (w : World) (hl : l.length ≤ maxLen) (ha : Seg w ba l) (hb : Seg w bb l) :
    Calls Tryz.prog 12 #[.slice ba l.length ca, .slice bb l.length cb] w fun e w' => e = .returned (.bool true) ∧ Below w.heap.size w w' := by
  unfold maxLen at hl
  by_cases h0 : l = []
  · subst h0
    go_enter Tryz.func12, Tryz.ntmps12
    go_wp2
    go_loop [13] (fun i => i = .int .i64 0) (fun _ => 0)
    case atStart => rfl
    case round =>
      obtain rfl := hrel
      go_wp2
      go_ret
      exact ⟨rfl, Below.refl _ _⟩
  rcases ha with h | ⟨b1, o1, rfl, h1⟩
  · exact absurd h h0
  rcases hb with h | ⟨b2, o2, rfl, h2⟩
  · exact absurd h h0
  clear h0
  obtain ⟨n, hn⟩ : ∃ n, n = l.length := ⟨_, rfl⟩
  rw [← hn] at hl ⊢
  have HN : Hid (n = l.length) := hn
  clear hn
  have H1 : Hid (Cells w b1 o1 l) := h1
  have H2 : Hid (Cells w b2 o2 l) := h2
  clear h1 h2
  go_enter Tryz.func12, Tryz.ntmps12
  go_wp2
  go_loopw [13] (fun i wr => ∃ k : Nat, k ≤ n ∧ i = .int .i64 k ∧ ∃ q, wr = w.drewN q) (fun i _ => n - (intOf i).toNat)
  case atStart => exact ⟨0, Nat.zero_le _, rfl, 0, rfl⟩
  case round =>
    obtain ⟨k, hk, rfl, q, rfl⟩ := hrel
    by_cases hlt : k < n
    · obtain ⟨c1, d1⟩ := H1.out k (by rw [← HN.out]; exact hlt)
      obtain ⟨c2, d2⟩ := H2.out k (by rw [← HN.out]; exact hlt)
      generalize (l.getD k default).1 = kk at *
      generalize (l.getD k default).2 = nn at *
      have hi : (k : Int) < (n : Int) := by omega
      go_wp2
      go_quiet (fail)
      go_wp2
      go_roundw
      case rel => exact ⟨k + 1, by omega, by go_num, _, rfl⟩
      case measure => simp [intOf]; omega
    · go_wp2
      go_ret
      exact ⟨rfl, below_drewN (Below.refl _ _) q⟩
end Go.Proofs.YtmfieleonhgeoacGreatDoor

namespace Go.Proofs.YtmfieleonhgeoacGreatDoor
open Go.RowKit

theorem same_holds (l : List Row) (ba bb : Option Addr) (na nb ca cb : Nat) (w : World) (ha : Holds w ba na ca l) (hb : Holds w bb nb cb l) :
    Calls Tryz.prog 12 #[.slice ba na ca, .slice bb nb cb] w fun e w' => e = .returned (.bool true) ∧ Below w.heap.size w w' := by
  have h1 := ha.len
  have h2 := hb.len
  subst h1 h2
  exact same_calls l ba bb ca cb w (Nat.le_trans ha.hdr.le ha.hdr.max) ha.seg hb.seg

theorem ins_bound {k : ByteArray} {m : Int} {l : List Row} {n n' : Nat} (h : n = l.length) (h' : n' = (ins k m l).length) : n' ≤ n + 1 := by
  have := ins_length k m l; omega
theorem del_bound {k : ByteArray} {l : List Row} {n n' : Nat} (h : n = l.length) (h' : n' = (del k l).length) : n' ≤ n := by
  have := del_length k l; omega

end Go.Proofs.YtmfieleonhgeoacGreatDoor

namespace Go.Proofs.YtmfieleonhgeoacGreatDoor
open Go.RowKit

theorem refWrong_holds (l : List Row) (ba : Option Addr) (na ca : Nat) (w : World) (hsm : Small l) (ha : Holds w ba na ca l) :
    Calls Tryz.prog 6 #[.slice ba na ca] w fun e w' => e = .returned (.int .i64 (wrong l)) ∧ Below w.heap.size w w' := by
  have h1 := ha.len
  subst h1
  exact refWrong_calls l ba ca w (Nat.le_trans ha.hdr.le ha.hdr.max) hsm ha.seg

end Go.Proofs.YtmfieleonhgeoacGreatDoor

namespace Go.Proofs.YtmfieleonhgeoacGreatDoor
open Go.RowKit

theorem own_engTold {w w' : World} {e : Eng} {x : Ending} (h : OwnTold w w' w.heap.size e x) : EngTold w w' e x := by
  obtain ⟨cb, cn, cc, v1, v2, v3, rfl, he, hb⟩ := h
  obtain ⟨db, dc, sb, sc, eb, ec, rfl, rfl, rfl, hl⟩ := he.lies
  exact ⟨_, rfl, ⟨_, _, _, _, _, _, _, _, _, _, _, _, rfl, hl⟩, hb⟩
theorem keep15 {A w1 w2 : World} {b c d : Nat} {x0 x1 x2 x3 x4 y0 y1 y2 y3 y4 z0 z1 z2 z3 z4 : Value}
    (h : w1.cell? ⟨b, 0, none⟩ = some x0 ∧ w1.cell? ⟨b, 1, none⟩ = some x1 ∧ w1.cell? ⟨b, 2, none⟩ = some x2 ∧ w1.cell? ⟨b, 3, none⟩ = some x3 ∧ w1.cell? ⟨b, 4, none⟩ = some x4 ∧ w1.cell? ⟨c, 0, none⟩ = some y0 ∧ w1.cell? ⟨c, 1, none⟩ = some y1 ∧ w1.cell? ⟨c, 2, none⟩ = some y2 ∧ w1.cell? ⟨c, 3, none⟩ = some y3 ∧ w1.cell? ⟨c, 4, none⟩ = some y4 ∧ w1.cell? ⟨d, 0, none⟩ = some z0 ∧ w1.cell? ⟨d, 1, none⟩ = some z1 ∧ w1.cell? ⟨d, 2, none⟩ = some z2 ∧ w1.cell? ⟨d, 3, none⟩ = some z3 ∧ w1.cell? ⟨d, 4, none⟩ = some z4 ∧ Below A.heap.size A w1) (hb : Below w1.heap.size w1 w2) :
    w2.cell? ⟨b, 0, none⟩ = some x0 ∧ w2.cell? ⟨b, 1, none⟩ = some x1 ∧ w2.cell? ⟨b, 2, none⟩ = some x2 ∧ w2.cell? ⟨b, 3, none⟩ = some x3 ∧ w2.cell? ⟨b, 4, none⟩ = some x4 ∧ w2.cell? ⟨c, 0, none⟩ = some y0 ∧ w2.cell? ⟨c, 1, none⟩ = some y1 ∧ w2.cell? ⟨c, 2, none⟩ = some y2 ∧ w2.cell? ⟨c, 3, none⟩ = some y3 ∧ w2.cell? ⟨c, 4, none⟩ = some y4 ∧ w2.cell? ⟨d, 0, none⟩ = some z0 ∧ w2.cell? ⟨d, 1, none⟩ = some z1 ∧ w2.cell? ⟨d, 2, none⟩ = some z2 ∧ w2.cell? ⟨d, 3, none⟩ = some z3 ∧ w2.cell? ⟨d, 4, none⟩ = some z4 ∧ Below A.heap.size A w2 := by
  obtain ⟨h0, h1, h2, h3, h4, k0, k1, k2, k3, k4, m0, m1, m2, m3, m4, hz⟩ := h
  exact ⟨kept_cell hb h0, kept_cell hb h1, kept_cell hb h2, kept_cell hb h3, kept_cell hb h4, kept_cell hb k0, kept_cell hb k1, kept_cell hb k2, kept_cell hb k3, kept_cell hb k4, kept_cell hb m0, kept_cell hb m1, kept_cell hb m2, kept_cell hb m3, kept_cell hb m4, below_deep hz hb⟩
theorem held15 {p0 p1 p2 p3 p4 p5 p6 p7 p8 p9 q0 q1 q2 q3 q4 : Prop} {B : Nat} {A w' : World} (h : p0 ∧ p1 ∧ p2 ∧ p3 ∧ p4 ∧ p5 ∧ p6 ∧ p7 ∧ p8 ∧ p9 ∧ q0 ∧ q1 ∧ q2 ∧ q3 ∧ q4 ∧ Below B A w') : Below B A w' := h.2.2.2.2.2.2.2.2.2.2.2.2.2.2.2
theorem keep8 {A w1 w2 : World} {b c : Nat} {x0 x1 x2 x3 x4 y0 y1 y2 : Value}
    (h : w1.cell? ⟨b, 0, none⟩ = some x0 ∧ w1.cell? ⟨b, 1, none⟩ = some x1 ∧ w1.cell? ⟨b, 2, none⟩ = some x2 ∧ w1.cell? ⟨b, 3, none⟩ = some x3 ∧ w1.cell? ⟨b, 4, none⟩ = some x4 ∧ w1.cell? ⟨c, 0, none⟩ = some y0 ∧ w1.cell? ⟨c, 1, none⟩ = some y1 ∧ w1.cell? ⟨c, 2, none⟩ = some y2 ∧ Below A.heap.size A w1) (hb : Below w1.heap.size w1 w2) :
    w2.cell? ⟨b, 0, none⟩ = some x0 ∧ w2.cell? ⟨b, 1, none⟩ = some x1 ∧ w2.cell? ⟨b, 2, none⟩ = some x2 ∧ w2.cell? ⟨b, 3, none⟩ = some x3 ∧ w2.cell? ⟨b, 4, none⟩ = some x4 ∧ w2.cell? ⟨c, 0, none⟩ = some y0 ∧ w2.cell? ⟨c, 1, none⟩ = some y1 ∧ w2.cell? ⟨c, 2, none⟩ = some y2 ∧ Below A.heap.size A w2 := by
  obtain ⟨h0, h1, h2, h3, h4, k0, k1, k2, hz⟩ := h
  exact ⟨kept_cell hb h0, kept_cell hb h1, kept_cell hb h2, kept_cell hb h3, kept_cell hb h4, kept_cell hb k0, kept_cell hb k1, kept_cell hb k2, below_deep hz hb⟩
theorem held8 {p0 p1 p2 p3 p4 p5 p6 p7 : Prop} {B : Nat} {A w' : World} (h : p0 ∧ p1 ∧ p2 ∧ p3 ∧ p4 ∧ p5 ∧ p6 ∧ p7 ∧ Below B A w') : Below B A w' := h.2.2.2.2.2.2.2.2

end Go.Proofs.YtmfieleonhgeoacGreatDoor

namespace Go.Proofs.YtmfieleonhgeoacGreatDoor
open Go.RowKit

theorem read6_results (tmps : Array Value) (b : Nat) (w : World) {x y z : Value} (h2 : tmps.getD 2 undef = .pointer (some ⟨b, 0, none⟩)) (h : Three w b x y z) (hx : ∃ p q r, x = .slice p q r) (hy : ∃ p q r, y = .slice p q r) (hz : ∃ p q r, z = .slice p q r) :
    (results Tryz.f14 tmps).run Tryz.prog w = .ok (.agg #[x, y, z]) w := by
  have h2' : tmps[2]?.getD undef = .pointer (some ⟨b, 0, none⟩) := by simpa using h2
  obtain ⟨_, _, _, rfl⟩ := hx
  obtain ⟨_, _, _, rfl⟩ := hy
  obtain ⟨_, _, _, rfl⟩ := hz
  simp [results, Tryz.results14, go_sem, h2', h.c0, h.c1, h.c2]

set_option maxRecDepth 100000 in
set_option maxHeartbeats 2000000 in
theorem read6_calls (s : ByteArray) (d : Deed3) (w : World) (hG : GroundN w) (hs : s.size ≤ maxLen) (hd : readT (keyT s) = (0, d.1, d.2.1, d.2.2)) :
    Calls Tryz.prog 14 #[.string s] w fun e w' => ReadTold w w' d e := by
  have HA0 := hid (three_new w (.slice none 0 0) (.slice none 0 0) (.slice none 0 0) 50)
  have HG0 := hid (grew w (.cells #[.slice none 0 0, .slice none 0 0, .slice none 0 0] 50))
  have HP := hid (refParse_calls s _ (hG.below HG0.out) hs)
  rw [hd] at HP
  clear hG hs hd
  go_enter Tryz.func14, Tryz.ntmps14
  go_wp2_with fail
  refine HP.out.mono ?_
  rintro e w1 ⟨rb, rn, rc, wb, wn, wc, cb, cn, cc, rfl, hdi, hb1, f0, f1, f2⟩
  have q0 := (HA0.out.below hb1).c0
  have q1 := (HA0.out.below hb1).c1
  have q2 := (HA0.out.below hb1).c2
  have g0 := (HA0.out.below hb1).free 0
  have g1 := (HA0.out.below hb1).free 1
  have g2 := (HA0.out.below hb1).free 2
  have hlt := (HA0.out.below hb1).lt
  have hlt0 : w.heap.size < (w.alloc (.cells #[.slice none 0 0, .slice none 0 0, .slice none 0 0] 50)).heap.size := by rw [World.size_alloc]; omega
  have HDF : Hid (DeedIn ((setThree w1 w.heap.size (.slice rb rn rc) (.slice wb wn wc) (.slice cb cn cc)).alloc (.cells #[.slice rb rn rc, .slice wb wn wc, .slice cb cn cc] 50)) rb rn rc wb wn wc cb cn cc d.1 d.2.1 d.2.2) :=
    DeedIn.below ⟨three_lies f0 hlt0 hdi.tr, three_lies f1 hlt0 hdi.tw, three_lies f2 hlt0 hdi.cd⟩ (grew _ _)
  have HBF := hid (below_deep (below_three (below_deep HG0.out hb1) (Nat.le_refl w.heap.size) (.slice rb rn rc) (.slice wb wn wc) (.slice cb cn cc)) (grew _ (.cells #[.slice rb rn rc, .slice wb wn wc, .slice cb cn cc] 50)))
  have HTH := hid (((HA0.out.below hb1).all (.slice rb rn rc) (.slice wb wn wc) (.slice cb cn cc)).below (grew _ (.cells #[.slice rb rn rc, .slice wb wn wc, .slice cb cn cc] 50)))
  unfold setThree at HDF HBF HTH
  clear hdi hb1 f0 f1 f2
  go_wp2
  (try simp only [Exit.inBlock, Exit.then])
  refine bodyPost_ret (read6_results _ w.heap.size _ rfl ⟨HTH.out.c0, HTH.out.c1, HTH.out.c2⟩ ⟨_, _, _, rfl⟩ ⟨_, _, _, rfl⟩ ⟨_, _, _, rfl⟩) rfl ?_
  exact ⟨_, _, _, _, _, _, _, _, _, rfl, HDF.out, HBF.out⟩

theorem engField2 (x0 x1 x2 x3 x4 : Value) (w : World) : (Instr.field 33 (.agg #[x0, x1, x2, x3, x4]) 2).run Tryz.prog w = .ok x2 w := by kernel_rfl
theorem six_holds (w : World) : Holds (w.alloc (.cells #[.string oneA, .int .i64 1] 46)) (some ⟨w.heap.size, 0, none⟩) 1 1 sixR := by
  refine Holds.cells rfl (fun i hi => ?_) (Nat.le_refl _) (by decide)
  obtain rfl : i = 0 := by have : i < 1 := hi; omega
  exact ⟨box_cell w _ _ 0 _ rfl, box_cell w _ _ 1 _ rfl⟩
theorem six_smallR : Small sixR := fun x hx => by
  simp [sixR] at hx; subst hx; decide

set_option maxRecDepth 100000 in
set_option maxHeartbeats 4000000 in
theorem plive_calls (w : World) (hG : GroundN w) : Calls Tryz.prog 5 #[] w fun e w' => e = .returned (.bool true) ∧ Below w.heap.size w w' := by
  have HGN := hid hG
  have HG0 := hid (grew w (.cells #[.string oneA, .int .i64 1] 46))
  have PN := hid (planNew_calls sixR (some ⟨w.heap.size, 0, none⟩) 1 1 _ sixR_right six_smallR (six_holds w))
  have PR1 : Hid (∀ (s : ByteArray) W, Below w.heap.size w W → keyT s = sixT → Calls Tryz.prog 14 #[.string s] W fun e w' => ReadTold W w' sixD e) := fun s W hb e => by
    have hz := keyT_len s
    have hl : sixT.length = 39 := by decide
    exact read6_calls s sixD W (hG.below hb) (by rw [e] at hz; unfold maxLen; omega) (by rw [e]; exact six_read)
  have PR2 : Hid (∀ (s : ByteArray) W, Below w.heap.size w W → keyT s = six2T → Calls Tryz.prog 14 #[.string s] W fun e w' => ReadTold W w' six2D e) := fun s W hb e => by
    have hz := keyT_len s
    have hl : six2T.length = 30 := by decide
    exact read6_calls s six2D W (hG.below hb) (by rw [e] at hz; unfold maxLen; omega) (by rw [e]; exact six2_read)
  clear hG
  go_enter Tryz.func5, Tryz.ntmps5
  go_wp2_with fail
  refine PN.out.mono ?_
  rintro x w1 ⟨v1, rfl, hv1, hb1⟩
  have HB1 := hid (below_deep HG0.out hb1)
  have HV1 := hid hv1
  clear hv1 hb1 PN
  go_wp2_with fail
  refine (PR1.out _ w1 HB1.out ?_).mono ?_
  · rfl
  rintro x w2 ⟨rb, rn, rc, wb, wn, wc, cb, cn, cc, rfl, hdi, hb2⟩
  have HB2 := hid (below_deep HB1.out hb2)
  have HD2 := hid hdi
  have HV2 := hid (HV1.out.below hb2)
  clear hdi hb2 PR1 HV1
  go_wp2_with fail
  refine (PR2.out _ w2 HB2.out ?_).mono ?_
  · rfl
  rintro x w3 ⟨rb', rn', rc', wb', wn', wc', cb', cn', cc', rfl, hdi', hb3⟩
  have HB3 := hid (below_deep HB2.out hb3)
  have HDS := hid (deeds_two w3 rb rn rc wb wn wc cb cn cc rb' rn' rc' wb' wn' wc' cb' cn' cc' sixD six2D (HD2.out.below hb3) hdi' six_small six2_small)
  have HG3 := hid (grew w3 (.cells #[.slice rb rn rc, .slice wb wn wc, .slice cb cn cc, .slice rb' rn' rc', .slice wb' wn' wc', .slice cb' cn' cc'] 50))
  have HB4 := hid (below_deep HB3.out HG3.out)
  have HV4 := hid (HV2.out.below (below_deep hb3 HG3.out))
  have PA := hid (planAdd_calls (Good.new sixR_right) [sixD, six2D] (by decide) v1 _ 2 2 _ HV4.out HDS.out)
  clear hdi' hb3 PR2 HV2 HD2
  go_wp2_with fail
  refine PA.out.mono ?_
  rintro x w5 ⟨v5, rfl, hv5, hb5⟩
  have hadd : addTo (newE sixR) [sixD, six2D] = sixE := by unfold addTo; rw [if_pos six_wDs]; rfl
  rw [hadd] at hv5
  rw [six_wDs]
  obtain ⟨eb0, en0, ec0, db, dn, dc, sb, sn, sc, eb, en, ec, rfl, hl5⟩ := hv5
  obtain rfl : en0 = 2 := by have := hl5.ch.len; rw [sixE_chains] at this; exact this
  obtain rfl : dn = 2 := by have := hl5.de.len; rw [sixE_deeds] at this; exact this
  have HG5 := hid (grew w5 (.cells #[.slice eb0 2 ec0, .slice db 2 dc, .slice sb sn sc, .slice eb en ec, .int .i64 sixE.base] 33))
  have HX5 := hid (Box.new w5 #[.slice eb0 2 ec0, .slice db 2 dc, .slice sb sn sc, .slice eb en ec, .int .i64 sixE.base] 33)
  have HL5 := hid (hl5.below HG5.out)
  have HB5 := hid (below_deep HB4.out (below_deep hb5 HG5.out))
  clear hl5 hb5 PA hadd
  have PN1 := hid (planNeeds_calls six_good (by decide) 1 (by decide) _ _ ⟨_, _, _, _, _, _, _, _, _, _, _, _, rfl, HL5.out⟩)
  rw [six_needs1] at PN1
  go_wp2_with fail
  refine PN1.out.mono ?_
  generalize w5.alloc (.cells #[.slice eb0 2 ec0, .slice db 2 dc, .slice sb sn sc, .slice eb en ec, .int .i64 sixE.base] 33) = A at *
  generalize w5.heap.size = be at *
  rintro x w6 ⟨nb6, nn6, nc6, rfl, h6, hb6⟩
  obtain rfl : nn6 = 1 := Ints.count h6
  have c6 : ∃ b6 o6, nb6 = some ⟨b6, o6, none⟩ ∧ w6.cell? ⟨b6, o6, none⟩ = some (.int .i64 0) := by
    rcases h6.run with h | ⟨b6, o6, rfl, hr⟩
    · cases h
    · exact ⟨b6, o6, rfl, hr 0 _ rfl⟩
  obtain ⟨b6, o6, rfl, c6⟩ := c6
  have hb6l : b6 < w6.heap.size := by simpa using World.block_lt_of_cell? _ _ c6
  have HX6 := hid (HX5.out.below hb6)
  have HL6 := hid (HL5.out.below hb6)
  have HB6 := hid (below_deep HB5.out hb6)
  obtain ⟨x0, x1, x2, x3, x4⟩ := HX6.out.cells5
  have hel : be < w6.heap.size := HX6.out.lt
  clear h6 hb6 PN1 HX5 HL5
  have PN0 := hid (planNeeds_calls six_good (by decide) 0 (by decide) _ w6 ⟨_, _, _, _, _, _, _, _, _, _, _, _, rfl, HL6.out⟩)
  rw [six_needs0] at PN0
  go_wp2_with fail
  refine PN0.out.mono ?_
  rintro x w7 ⟨nb7, nn7, nc7, rfl, h7, hb7⟩
  obtain rfl : nn7 = 0 := Ints.count h7
  have HX7 := hid (HX6.out.below hb7)
  have HL7 := hid (HL6.out.below hb7)
  have HB7 := hid (below_deep HB6.out hb7)
  clear h7 hb7 PN0 HX6 HL6 x0 x1 x2 x3 x4 c6 hb6l hel
  obtain ⟨x0, x1, x2, x3, x4⟩ := HX7.out.cells5
  have hel : be < w7.heap.size := HX7.out.lt
  obtain ⟨d1, o1, rfl, hdr⟩ : ∃ d1 o1, db = some ⟨d1, o1, none⟩ ∧ ∀ i, i < 2 → DeedHere w7 d1 (o1 + i * 3) (sixE.deeds.getD i default) := by
    rcases HL7.out.de.run with h | h
    · cases h
    · exact h
  obtain ⟨sb1, sn1, sc1, wb1, wn1, wc1, xb1, xn1, xc1, k0, k1, k2, hdi, hs1, hs2⟩ := hdr 1 (by decide)
  have hd1 : d1 < w7.heap.size := by simpa using World.block_lt_of_cell? _ _ k0
  have PK := hid (planKeys_calls six2D sb1 sn1 sc1 wb1 wn1 wc1 xb1 xn1 xc1 w7 hdi six2Right)
  clear hdi hs1 hs2 hdr
  go_wp2_with fail
  refine PK.out.mono ?_
  rintro x w8 ⟨kb, kn, kc, rfl, h8, hb8⟩
  obtain rfl : kn = 2 := by have := Texts.count h8; rw [six_keys] at this; exact this
  have HX8 := hid (HX7.out.below hb8)
  have HL8 := hid (HL7.out.below hb8)
  have HB8 := hid (below_deep HB7.out hb8)
  clear h8 hb8 PK HX7 HL7 x0 x1 x2 x3 x4 k0 k1 k2 hd1 hel
  obtain ⟨x0, x1, x2, x3, x4⟩ := HX8.out.cells5
  have hel : be < w8.heap.size := HX8.out.lt
  have PO := hid ((planOwn_calls six_good (by decide) _ w8 ⟨_, _, _, _, _, _, _, _, _, _, _, _, rfl, HL8.out⟩).mono fun x w' h => own_engTold h)
  go_wp2_with fail
  refine PO.out.mono ?_
  rintro x w9 ⟨v9, rfl, hv9, hb9⟩
  obtain ⟨cb9, cn9, cc9, db9, dn9, dc9, sb9, sn9, sc9, eb9, en9, ec9, rfl, hl9⟩ := hv9
  obtain rfl : sn9 = 2 := by have := Ints.count hl9.st; rw [sixE_state] at this; exact this
  have HB9 := hid (below_deep HB8.out hb9)
  have hf := engField2 (.slice cb9 cn9 cc9) (.slice db9 dn9 dc9) (.slice sb9 2 sc9) (.slice eb9 en9 ec9) (.int .i64 sixE.base)
  clear hl9 hb9 PO HX8 HL8
  go_wp2
  go_ret
  exact ⟨rfl, HB9.out⟩
end Go.Proofs.YtmfieleonhgeoacGreatDoor
