/-
  The document's own SameChains, walked: of two lists of the same chains it answers true.
  The document's own SameInts, SameTexts, SameDeeds and SameEngine, of what is the same, walked.
  Wrong of the program tells the first thing that is wrong with any rows.
  The closed fact that the statements of chapter 1 ask first is so.
  SameRows of the document's answer tells whether two lists of rows are one.
  The walk of the statement RowsApart: the call returns true and changes nothing that was there.
  The walk of the statement RowsTells: the call returns true and changes nothing that was there.
  The walk of the statement PlanTells: the call returns true and changes nothing that was there.
  The closed fact that the statements of chapter 7 ask first is so.
  A map in memory whose keys are numbers: what it has at each key, whatever its elements are.
-/
import Derived.Test.YtllhdmhfjahgladGreatDoorChainAt
import Derived.Test.YtllhdmhfjahgladGreatDoorRefKeys
import Derived.Test.YtllhdmhfjahgladGreatDoorRefNew
import Derived.Test.YtllhdmhfjahgladGreatDoorPut
import Derived.Test.YtllhdmhfjahgladGreatDoorEngSet
import Derived.Deep.DeepCutAuto
import Derived.Test.YtllhdmhfjahgladGreatDoorLies
import Derived.BigQuiet
import Derived.Deep.QuietTactic
import Derived.Test.YtllhdmhfjahgladGreatDoorChecked
import Derived.WalkKit
import Derived.WalkSpells
import Derived.WalkLawsBesides
import Derived.Below
import Derived.LoopTactic
import Derived.Outline
import Derived.Test.YtllhdmhfjahgladGreatDoorRefPut
import Derived.Test.YtllhdmhfjahgladGreatDoorRefBuild
import Derived.Test.YtllhdmhfjahgladGreatDoorRunDo
import Derived.Test.YtllhdmhfjahgladGreatDoorRunMath
import Derived.Test.YtllhdmhfjahgladGreatDoorPlanKeys
import Derived.Test.YtllhdmhfjahgladGreatDoorRunAll
import Derived.Test.YtllhdmhfjahgladGreatDoorDeedTurn
namespace Go.Proofs.YtllhdmhfjahgladGreatDoor
open Go.RowKit

end Go.Proofs.YtllhdmhfjahgladGreatDoor

namespace Go.Proofs.YtllhdmhfjahgladGreatDoor
open Go.RowKit

set_option maxHeartbeats 4000000 in
set_option maxRecDepth 100000 in
theorem sameDeeds_calls (D : List Deed3) (ab : Option Addr) (an ac : Nat) (bb : Option Addr) (bn bc : Nat) (w : World) (ha : DeedsIn w ab an ac D) (hb : DeedsIn w bb bn bc D) :
    Calls Tryz.prog 17 #[.slice ab an ac, .slice bb bn bc] w fun e w' => e = .returned (.bool true) ∧ Below w.heap.size w w' := by
  obtain rfl : an = bn := by rw [ha.len, hb.len]
  have hm := Nat.le_trans ha.hdr.le ha.hdr.max
  unfold maxLen at hm
  have HA := hid ha
  have HB := hid hb
  clear ha hb
  go_enter Tryz.func17, Tryz.ntmps17
  go_wp2
  go_loopw [13] (fun i wr => ∃ k : Nat, k ≤ an ∧ i = .int .i64 k ∧ Hid (Below w.heap.size w wr)) (fun i _ => an - (intOf i).toNat)
  case atStart => exact ⟨0, Nat.zero_le _, rfl, Below.refl _ _⟩
  case round =>
    obtain ⟨k, hk, rfl, HBR⟩ := hrel
    by_cases hlt : k < an
    · rcases HA.out.run with h | ⟨b1, o1, rfl, r1⟩
      · omega
      rcases HB.out.run with h | ⟨b2, o2, rfl, r2⟩
      · omega
      obtain ⟨rb, rn, rc, wb, wn, wc, cb, cn, cc, a0, a1, a2, hda, _, _⟩ := (r1 k hlt).below HBR.out
      obtain ⟨rb', rn', rc', wb', wn', wc', cb', cn', cc', c0, c1, c2, hdb, _, _⟩ := (r2 k hlt).below HBR.out
      clear r1 r2
      have hi : (k : Int) < (an : Int) := by omega
      have hb1 : b1 < wr.heap.size := by simpa using World.block_lt_of_cell? _ _ a0
      have hb2 : b2 < wr.heap.size := by simpa using World.block_lt_of_cell? _ _ c0
      have HDA := hid hda
      have HDB := hid hdb
      clear hda hdb
      have HK : Hid (∀ w', Below wr.heap.size wr w' → (w'.cell? ⟨b1, o1 + k * 3, none⟩ = some (.slice rb rn rc) ∧ w'.cell? ⟨b1, o1 + k * 3 + 1, none⟩ = some (.slice wb wn wc) ∧ w'.cell? ⟨b1, o1 + k * 3 + 2, none⟩ = some (.slice cb cn cc) ∧ w'.cell? ⟨b2, o2 + k * 3, none⟩ = some (.slice rb' rn' rc') ∧ w'.cell? ⟨b2, o2 + k * 3 + 1, none⟩ = some (.slice wb' wn' wc') ∧ w'.cell? ⟨b2, o2 + k * 3 + 2, none⟩ = some (.slice cb' cn' cc') ∧ Below wr.heap.size wr w')) := fun w' hb => ⟨kept_cell hb a0, kept_cell hb a1, kept_cell hb a2, kept_cell hb c0, kept_cell hb c1, kept_cell hb c2, hb⟩
      have HSD := hid (fun W hA hB => refSameDeed_calls (D.getD k default).1 (D.getD k default).2.1 (D.getD k default).2.2 (D.getD k default).1 (D.getD k default).2.1 (D.getD k default).2.2 rb rn rc wb wn wc cb cn cc rb' rn' rc' wb' wn' wc' cb' cn' cc' W hA hB)
      simp only [decide_true, Bool.and_true] at HSD
      clear a0 a1 a2 c0 c1 c2
      go_wp2
      go_region_held3 (fun w' => w'.cell? ⟨b1, o1 + k * 3, none⟩ = some (.slice rb rn rc) ∧ w'.cell? ⟨b1, o1 + k * 3 + 1, none⟩ = some (.slice wb wn wc) ∧ w'.cell? ⟨b1, o1 + k * 3 + 2, none⟩ = some (.slice cb cn cc) ∧ w'.cell? ⟨b2, o2 + k * 3, none⟩ = some (.slice rb' rn' rc') ∧ w'.cell? ⟨b2, o2 + k * 3 + 1, none⟩ = some (.slice wb' wn' wc') ∧ w'.cell? ⟨b2, o2 + k * 3 + 2, none⟩ = some (.slice cb' cn' cc') ∧ Below wr.heap.size wr w')
        (first
          | exact HK.out _ (step_drew (Below.refl _ _))
          | exact HK.out _ (by assumption))
        (first
          | (go_at_call 31; refine (HSD.out _ ?_ ?_).mono ?_; (exact HDA.out.below (hold6 (by assumption))); (exact HDB.out.below (hold6 (by assumption))); rintro e w1 ⟨rfl, hb1'⟩; have hbb := below_deep (step_drew (Below.refl wr.heap.size wr)) hb1'))
      have HB3 := hid (below_deep HBR.out hbb)
      clear hbb hb1' HK HSD
      go_wp2
      go_roundw
      case rel => exact ⟨k + 1, by omega, by go_num, HB3⟩
      case measure => simp [intOf]; omega
    · go_wp2
      go_ret
      exact ⟨rfl, HBR.out⟩

end Go.Proofs.YtllhdmhfjahgladGreatDoor

namespace Go.Proofs.YtllhdmhfjahgladGreatDoor
open Go.RowKit

end Go.Proofs.YtllhdmhfjahgladGreatDoor

namespace Go.Proofs.YtllhdmhfjahgladGreatDoor
open Go.RowKit

/-- The keys a, b and abc. -/
def kA : ByteArray := ⟨#[97]⟩
def kB : ByteArray := ⟨#[98]⟩
def kC : ByteArray := ⟨#[97, 98, 99]⟩
/-- The rows that are made. -/
def rAB : List Row := [(kA, 1), (kB, 2)]

theorem less_ab : less kA kB = true := by
  rw [less_def, ByteArray.toList_eq, ByteArray.toList_eq]; decide
theorem less_ba : less kB kA = false := less_asymm less_ab
theorem put_b : ins kB 2 [] = [(kB, 2)] := rfl
theorem put_ab : ins kA 1 [(kB, 2)] = rAB := by simp [ins, less_ab, less_ba, rAB]
theorem srt_ab : Srt rAB := by simp [Srt, rAB, less_ab]
theorem drop_ab : del kA rAB = [(kB, 2)] := by simp [del, rAB, less_irrefl]
theorem num_ab : num kB rAB = 2 := by simp [num, rAB, less_ab, less_irrefl]
theorem isAt_ab : isAt kB rAB = true := by simp [isAt, rAB, less_ab, less_irrefl]
theorem key_a : keyB kA = true := by decide
theorem key_b : keyB kB = true := by decide
theorem key_c : keyB kC = true := by decide
theorem wrong_ab : wrong rAB = 0 := by
  refine right_wrong ⟨srt_ab, fun x hx => ?_, fun x hx => ?_, fun x hx => ?_⟩ <;> (simp [rAB] at hx; rcases hx with rfl | rfl <;> first | exact key_a | exact key_b | decide)
theorem small_ab : Small rAB := fun x hx => by
  simp [rAB] at hx; rcases hx with rfl | rfl <;> decide

end Go.Proofs.YtllhdmhfjahgladGreatDoor

namespace Go.Proofs.YtllhdmhfjahgladGreatDoor
open Go.RowKit

set_option maxHeartbeats 400000 in
theorem same_calls (l : List Row) (ba bb : Option Addr) (ca cb : Nat) (w : World) (hl : l.length ≤ maxLen) (ha : Seg w ba l) (hb : Seg w bb l) :
    Calls Tryz.prog 13 #[.slice ba l.length ca, .slice bb l.length cb] w fun e w' => e = .returned (.bool true) ∧ Below w.heap.size w w' := by
  unfold maxLen at hl
  by_cases h0 : l = []
  · subst h0
    go_enter Tryz.func13, Tryz.ntmps13
    go_wp2
    go_loop [13] (fun i => i = .int .i64 0) (fun _ => 0)
    case atStart => rfl
    case round =>
      obtain rfl := hrel
      go_wp2
      go_ret
      exact ⟨rfl, Below.refl _ _⟩
  rcases ha with h | ⟨b1, o1, rfl, h1⟩
  · exact absurd h h0
  rcases hb with h | ⟨b2, o2, rfl, h2⟩
  · exact absurd h h0
  clear h0
  obtain ⟨n, hn⟩ : ∃ n, n = l.length := ⟨_, rfl⟩
  rw [← hn] at hl ⊢
  have HN : Hid (n = l.length) := hn
  clear hn
  have H1 : Hid (Cells w b1 o1 l) := h1
  have H2 : Hid (Cells w b2 o2 l) := h2
  clear h1 h2
  go_enter Tryz.func13, Tryz.ntmps13
  go_wp2
  go_loopw [13] (fun i wr => ∃ k : Nat, k ≤ n ∧ i = .int .i64 k ∧ ∃ q, wr = w.drewN q) (fun i _ => n - (intOf i).toNat)
  case atStart => exact ⟨0, Nat.zero_le _, rfl, 0, rfl⟩
  case round =>
    obtain ⟨k, hk, rfl, q, rfl⟩ := hrel
    by_cases hlt : k < n
    · obtain ⟨c1, d1⟩ := H1.out k (by rw [← HN.out]; exact hlt)
      obtain ⟨c2, d2⟩ := H2.out k (by rw [← HN.out]; exact hlt)
      generalize (l.getD k default).1 = kk at *
      generalize (l.getD k default).2 = nn at *
      have hi : (k : Int) < (n : Int) := by omega
      go_wp2
      go_quiet (fail)
      go_wp2
      go_roundw
      case rel => exact ⟨k + 1, by omega, by go_num, _, rfl⟩
      case measure => simp [intOf]; omega
    · go_wp2
      go_ret
      exact ⟨rfl, below_drewN (Below.refl _ _) q⟩
end Go.Proofs.YtllhdmhfjahgladGreatDoor

namespace Go.Proofs.YtllhdmhfjahgladGreatDoor
open Go.RowKit

theorem same_holds (l : List Row) (ba bb : Option Addr) (na nb ca cb : Nat) (w : World) (ha : Holds w ba na ca l) (hb : Holds w bb nb cb l) :
    Calls Tryz.prog 13 #[.slice ba na ca, .slice bb nb cb] w fun e w' => e = .returned (.bool true) ∧ Below w.heap.size w w' := by
  have h1 := ha.len
  have h2 := hb.len
  subst h1 h2
  exact same_calls l ba bb ca cb w (Nat.le_trans ha.hdr.le ha.hdr.max) ha.seg hb.seg

theorem ins_bound {k : ByteArray} {m : Int} {l : List Row} {n n' : Nat} (h : n = l.length) (h' : n' = (ins k m l).length) : n' ≤ n + 1 := by
  have := ins_length k m l; omega
theorem del_bound {k : ByteArray} {l : List Row} {n n' : Nat} (h : n = l.length) (h' : n' = (del k l).length) : n' ≤ n := by
  have := del_length k l; omega

end Go.Proofs.YtllhdmhfjahgladGreatDoor

namespace Go.Proofs.YtllhdmhfjahgladGreatDoor
open Go.RowKit

theorem refWrong_holds (l : List Row) (ba : Option Addr) (na ca : Nat) (w : World) (hsm : Small l) (ha : Holds w ba na ca l) :
    Calls Tryz.prog 6 #[.slice ba na ca] w fun e w' => e = .returned (.int .i64 (wrong l)) ∧ Below w.heap.size w w' := by
  have h1 := ha.len
  subst h1
  exact refWrong_calls l ba ca w (Nat.le_trans ha.hdr.le ha.hdr.max) hsm ha.seg

end Go.Proofs.YtllhdmhfjahgladGreatDoor

namespace Go.Proofs.YtllhdmhfjahgladGreatDoor
open Go.RowKit

theorem own_engTold {w w' : World} {e : Eng} {x : Ending} (h : OwnTold w w' w.heap.size e x) : EngTold w w' e x := by
  obtain ⟨cb, cn, cc, v1, v2, v3, rfl, he, hb⟩ := h
  obtain ⟨db, dc, sb, sc, eb, ec, rfl, rfl, rfl, hl⟩ := he.lies
  exact ⟨_, rfl, ⟨_, _, _, _, _, _, _, _, _, _, _, _, rfl, hl⟩, hb⟩
theorem sameTextsB (l : List ByteArray) (ba : Option Addr) (na ca : Nat) (bb : Option Addr) (nb cb : Nat) (w : World) (ha : Texts w ba na ca l) (hb : Texts w bb nb cb l) :
    Calls Tryz.prog 53 #[.slice ba na ca, .slice bb nb cb] w fun e w' => e = .returned (.bool true) ∧ Below w.heap.size w w' := by
  refine (sameTexts_calls l l ba na ca bb nb cb w ha hb).mono ?_
  rintro e w' ⟨rfl, q, rfl⟩
  exact ⟨by simp, below_drewN (Below.refl _ _) q⟩
theorem keep15 {A w1 w2 : World} {b c d : Nat} {x0 x1 x2 x3 x4 y0 y1 y2 y3 y4 z0 z1 z2 z3 z4 : Value}
    (h : w1.cell? ⟨b, 0, none⟩ = some x0 ∧ w1.cell? ⟨b, 1, none⟩ = some x1 ∧ w1.cell? ⟨b, 2, none⟩ = some x2 ∧ w1.cell? ⟨b, 3, none⟩ = some x3 ∧ w1.cell? ⟨b, 4, none⟩ = some x4 ∧ w1.cell? ⟨c, 0, none⟩ = some y0 ∧ w1.cell? ⟨c, 1, none⟩ = some y1 ∧ w1.cell? ⟨c, 2, none⟩ = some y2 ∧ w1.cell? ⟨c, 3, none⟩ = some y3 ∧ w1.cell? ⟨c, 4, none⟩ = some y4 ∧ w1.cell? ⟨d, 0, none⟩ = some z0 ∧ w1.cell? ⟨d, 1, none⟩ = some z1 ∧ w1.cell? ⟨d, 2, none⟩ = some z2 ∧ w1.cell? ⟨d, 3, none⟩ = some z3 ∧ w1.cell? ⟨d, 4, none⟩ = some z4 ∧ Below A.heap.size A w1) (hb : Below w1.heap.size w1 w2) :
    w2.cell? ⟨b, 0, none⟩ = some x0 ∧ w2.cell? ⟨b, 1, none⟩ = some x1 ∧ w2.cell? ⟨b, 2, none⟩ = some x2 ∧ w2.cell? ⟨b, 3, none⟩ = some x3 ∧ w2.cell? ⟨b, 4, none⟩ = some x4 ∧ w2.cell? ⟨c, 0, none⟩ = some y0 ∧ w2.cell? ⟨c, 1, none⟩ = some y1 ∧ w2.cell? ⟨c, 2, none⟩ = some y2 ∧ w2.cell? ⟨c, 3, none⟩ = some y3 ∧ w2.cell? ⟨c, 4, none⟩ = some y4 ∧ w2.cell? ⟨d, 0, none⟩ = some z0 ∧ w2.cell? ⟨d, 1, none⟩ = some z1 ∧ w2.cell? ⟨d, 2, none⟩ = some z2 ∧ w2.cell? ⟨d, 3, none⟩ = some z3 ∧ w2.cell? ⟨d, 4, none⟩ = some z4 ∧ Below A.heap.size A w2 := by
  obtain ⟨h0, h1, h2, h3, h4, k0, k1, k2, k3, k4, m0, m1, m2, m3, m4, hz⟩ := h
  exact ⟨kept_cell hb h0, kept_cell hb h1, kept_cell hb h2, kept_cell hb h3, kept_cell hb h4, kept_cell hb k0, kept_cell hb k1, kept_cell hb k2, kept_cell hb k3, kept_cell hb k4, kept_cell hb m0, kept_cell hb m1, kept_cell hb m2, kept_cell hb m3, kept_cell hb m4, below_deep hz hb⟩
theorem held15 {p0 p1 p2 p3 p4 p5 p6 p7 p8 p9 q0 q1 q2 q3 q4 : Prop} {B : Nat} {A w' : World} (h : p0 ∧ p1 ∧ p2 ∧ p3 ∧ p4 ∧ p5 ∧ p6 ∧ p7 ∧ p8 ∧ p9 ∧ q0 ∧ q1 ∧ q2 ∧ q3 ∧ q4 ∧ Below B A w') : Below B A w' := h.2.2.2.2.2.2.2.2.2.2.2.2.2.2.2
theorem keep8 {A w1 w2 : World} {b c : Nat} {x0 x1 x2 x3 x4 y0 y1 y2 : Value}
    (h : w1.cell? ⟨b, 0, none⟩ = some x0 ∧ w1.cell? ⟨b, 1, none⟩ = some x1 ∧ w1.cell? ⟨b, 2, none⟩ = some x2 ∧ w1.cell? ⟨b, 3, none⟩ = some x3 ∧ w1.cell? ⟨b, 4, none⟩ = some x4 ∧ w1.cell? ⟨c, 0, none⟩ = some y0 ∧ w1.cell? ⟨c, 1, none⟩ = some y1 ∧ w1.cell? ⟨c, 2, none⟩ = some y2 ∧ Below A.heap.size A w1) (hb : Below w1.heap.size w1 w2) :
    w2.cell? ⟨b, 0, none⟩ = some x0 ∧ w2.cell? ⟨b, 1, none⟩ = some x1 ∧ w2.cell? ⟨b, 2, none⟩ = some x2 ∧ w2.cell? ⟨b, 3, none⟩ = some x3 ∧ w2.cell? ⟨b, 4, none⟩ = some x4 ∧ w2.cell? ⟨c, 0, none⟩ = some y0 ∧ w2.cell? ⟨c, 1, none⟩ = some y1 ∧ w2.cell? ⟨c, 2, none⟩ = some y2 ∧ Below A.heap.size A w2 := by
  obtain ⟨h0, h1, h2, h3, h4, k0, k1, k2, hz⟩ := h
  exact ⟨kept_cell hb h0, kept_cell hb h1, kept_cell hb h2, kept_cell hb h3, kept_cell hb h4, kept_cell hb k0, kept_cell hb k1, kept_cell hb k2, below_deep hz hb⟩
theorem held8 {p0 p1 p2 p3 p4 p5 p6 p7 : Prop} {B : Nat} {A w' : World} (h : p0 ∧ p1 ∧ p2 ∧ p3 ∧ p4 ∧ p5 ∧ p6 ∧ p7 ∧ Below B A w') : Below B A w' := h.2.2.2.2.2.2.2.2

end Go.Proofs.YtllhdmhfjahgladGreatDoor

namespace Go.Proofs.YtllhdmhfjahgladGreatDoor
open Go.RowKit

theorem read7_results (tmps : Array Value) (b : Nat) (w : World) {x y z : Value} (h2 : tmps.getD 2 undef = .pointer (some ⟨b, 0, none⟩)) (h : Three w b x y z) (hx : ∃ p q r, x = .slice p q r) (hy : ∃ p q r, y = .slice p q r) (hz : ∃ p q r, z = .slice p q r) :
    (results Tryz.f19 tmps).run Tryz.prog w = .ok (.agg #[x, y, z]) w := by
  have h2' : tmps[2]?.getD undef = .pointer (some ⟨b, 0, none⟩) := by simpa using h2
  obtain ⟨_, _, _, rfl⟩ := hx
  obtain ⟨_, _, _, rfl⟩ := hy
  obtain ⟨_, _, _, rfl⟩ := hz
  simp [results, Tryz.results19, go_sem, h2', h.c0, h.c1, h.c2]

set_option maxRecDepth 100000 in
set_option maxHeartbeats 2000000 in
theorem read7_calls (s : ByteArray) (d : Deed3) (w : World) (hG : GroundN w) (hs : s.size ≤ maxLen) (hd : readT (keyT s) = (0, d.1, d.2.1, d.2.2)) :
    Calls Tryz.prog 19 #[.string s] w fun e w' => ReadTold w w' d e := by
  have HA0 := hid (three_new w (.slice none 0 0) (.slice none 0 0) (.slice none 0 0) 63)
  have HG0 := hid (grew w (.cells #[.slice none 0 0, .slice none 0 0, .slice none 0 0] 63))
  have HP := hid (refParse_calls s _ (hG.below HG0.out) hs)
  rw [hd] at HP
  clear hG hs hd
  go_enter Tryz.func19, Tryz.ntmps19
  go_wp2_with fail
  refine HP.out.mono ?_
  rintro e w1 ⟨rb, rn, rc, wb, wn, wc, cb, cn, cc, rfl, hdi, hb1, f0, f1, f2⟩
  have q0 := (HA0.out.below hb1).c0
  have q1 := (HA0.out.below hb1).c1
  have q2 := (HA0.out.below hb1).c2
  have g0 := (HA0.out.below hb1).free 0
  have g1 := (HA0.out.below hb1).free 1
  have g2 := (HA0.out.below hb1).free 2
  have hlt := (HA0.out.below hb1).lt
  have hlt0 : w.heap.size < (w.alloc (.cells #[.slice none 0 0, .slice none 0 0, .slice none 0 0] 63)).heap.size := by rw [World.size_alloc]; omega
  have HDF : Hid (DeedIn ((setThree w1 w.heap.size (.slice rb rn rc) (.slice wb wn wc) (.slice cb cn cc)).alloc (.cells #[.slice rb rn rc, .slice wb wn wc, .slice cb cn cc] 63)) rb rn rc wb wn wc cb cn cc d.1 d.2.1 d.2.2) :=
    DeedIn.below ⟨three_lies f0 hlt0 hdi.tr, three_lies f1 hlt0 hdi.tw, three_lies f2 hlt0 hdi.cd⟩ (grew _ _)
  have HBF := hid (below_deep (below_three (below_deep HG0.out hb1) (Nat.le_refl w.heap.size) (.slice rb rn rc) (.slice wb wn wc) (.slice cb cn cc)) (grew _ (.cells #[.slice rb rn rc, .slice wb wn wc, .slice cb cn cc] 63)))
  have HTH := hid (((HA0.out.below hb1).all (.slice rb rn rc) (.slice wb wn wc) (.slice cb cn cc)).below (grew _ (.cells #[.slice rb rn rc, .slice wb wn wc, .slice cb cn cc] 63)))
  unfold setThree at HDF HBF HTH
  clear hdi hb1 f0 f1 f2
  go_wp2
  (try simp only [Exit.inBlock, Exit.then])
  refine bodyPost_ret (read7_results _ w.heap.size _ rfl ⟨HTH.out.c0, HTH.out.c1, HTH.out.c2⟩ ⟨_, _, _, rfl⟩ ⟨_, _, _, rfl⟩ ⟨_, _, _, rfl⟩) rfl ?_
  exact ⟨_, _, _, _, _, _, _, _, _, rfl, HDF.out, HBF.out⟩

theorem sev_goTo1 : goTo sevE 1 = (sevE, 10) := by
  unfold goTo
  rw [if_neg (by rw [sevE_deeds]; decide), show (1 : Int).toNat = 1 from rfl, sevE_state, if_neg (by decide), sev_needs1, if_pos (by simp)]
theorem sev_goTo0 : goTo sevE 0 = (goE sevE 0, 0) := by
  unfold goTo
  rw [if_neg (by rw [sevE_deeds]; decide), show (0 : Int).toNat = 0 from rfl, sevE_state, if_neg (by decide), sev_needs0, if_neg (by simp)]
/-- An end's second register, in a row of ends. -/
theorem ends_reg1 {w : World} {eb : Option Addr} {en ec : Nat} {E : List End3} (h : Ends w eb en ec E) {j : Nat} (hj : j < E.length) : ∃ b o, eb = some ⟨b, o, none⟩ ∧ w.cell? ⟨b, o + (j * 5 + 2), none⟩ = some (.int .i64 ((E.getD j default).2 1)) := by
  have hn : en = E.length := Ends.count h
  rcases h.run with h0 | ⟨b, o, e, hr⟩
  · omega
  · exact ⟨b, o, e, hr _ _ (endCells_at E j hj 2 _ rfl)⟩

set_option maxRecDepth 100000 in
set_option maxHeartbeats 4000000 in
theorem rlive_calls (w : World) (hG : GroundN w) : Calls Tryz.prog 5 #[] w fun e w' => e = .returned (.bool true) ∧ Below w.heap.size w w' := by
  have PN := hid (refNew_calls [] none 0 0 w nil_right (fun x hx => by cases hx) (Holds.empty _ rfl rfl ⟨Nat.le_refl _, Nat.zero_le _, fun _ => rfl⟩))
  have PR1 : Hid (∀ (s : ByteArray) W, Below w.heap.size w W → keyT s = sevT → Calls Tryz.prog 19 #[.string s] W fun e w' => ReadTold W w' sevD e) := fun s W hb e => by
    have hz := keyT_len s
    have hl : sevT.length = 39 := by decide
    exact read7_calls s sevD W (hG.below hb) (by rw [e] at hz; unfold maxLen; omega) (by rw [e]; exact sev_read)
  have PR2 : Hid (∀ (s : ByteArray) W, Below w.heap.size w W → keyT s = sev2T → Calls Tryz.prog 19 #[.string s] W fun e w' => ReadTold W w' sev2D e) := fun s W hb e => by
    have hz := keyT_len s
    have hl : sev2T.length = 26 := by decide
    exact read7_calls s sev2D W (hG.below hb) (by rw [e] at hz; unfold maxLen; omega) (by rw [e]; exact sev2_read)
  clear hG
  go_enter Tryz.func5, Tryz.ntmps5
  go_wp2_with fail
  refine PN.out.mono ?_
  rintro x w1 ⟨v1, rfl, hv1, hb1⟩
  have HB1 := hid hb1
  have HV1 := hid hv1
  clear hv1 hb1 PN
  go_wp2_with fail
  refine (PR1.out _ w1 HB1.out ?_).mono ?_
  · rfl
  rintro x w2 ⟨rb, rn, rc, wb, wn, wc, cb, cn, cc, rfl, hdi, hb2⟩
  have HB2 := hid (below_deep HB1.out hb2)
  have HD2 := hid hdi
  have HV2 := hid (HV1.out.below hb2)
  clear hdi hb2 PR1 HV1
  go_wp2_with fail
  refine (PR2.out _ w2 HB2.out ?_).mono ?_
  · rfl
  rintro x w3 ⟨rb', rn', rc', wb', wn', wc', cb', cn', cc', rfl, hdi', hb3⟩
  have HB3 := hid (below_deep HB2.out hb3)
  have HDS := hid (deeds_two w3 rb rn rc wb wn wc cb cn cc rb' rn' rc' wb' wn' wc' cb' cn' cc' sevD sev2D (HD2.out.below hb3) hdi' sev_small sev2_small)
  have HG3 := hid (grew w3 (.cells #[.slice rb rn rc, .slice wb wn wc, .slice cb cn cc, .slice rb' rn' rc', .slice wb' wn' wc', .slice cb' cn' cc'] 63))
  have HB4 := hid (below_deep HB3.out HG3.out)
  have HV4 := hid (HV2.out.below (below_deep hb3 HG3.out))
  have PA := hid (refAddE_calls (Good.new nil_right) [sevD, sev2D] (by decide) v1 _ 2 2 _ HV4.out HDS.out)
  clear hdi' hb3 PR2 HV2 HD2
  go_wp2_with fail
  refine PA.out.mono ?_
  rintro x w5 ⟨v5, rfl, hv5, hb5⟩
  have hadd : addTo (newE []) [sevD, sev2D] = sevE := by unfold addTo; rw [if_pos sev_wDs]; rfl
  rw [hadd] at hv5
  rw [sev_wDs]
  obtain ⟨eb0, en0, ec0, db, dn, dc, sb, sn, sc, eb, en, ec, rfl, hl5⟩ := hv5
  have HG5 := hid (grew w5 (.cells #[.slice eb0 en0 ec0, .slice db dn dc, .slice sb sn sc, .slice eb en ec, .int .i64 sevE.base] 33))
  have HX5 := hid (Box.new w5 #[.slice eb0 en0 ec0, .slice db dn dc, .slice sb sn sc, .slice eb en ec, .int .i64 sevE.base] 33)
  have HL5 := hid (hl5.below HG5.out)
  have HB5 := hid (below_deep HB4.out (below_deep hb5 HG5.out))
  clear hl5 hb5 PA hadd
  go_upto_region 2 with fail
  generalize w5.alloc (.cells #[.slice eb0 en0 ec0, .slice db dn dc, .slice sb sn sc, .slice eb en ec, .int .i64 sevE.base] 33) = A5 at *
  generalize w5.heap.size = be at *
  obtain ⟨x0, x1, x2, x3, x4⟩ := HX5.out.cells5
  have hel : be < A5.heap.size := HX5.out.lt
  have PY := hid (runReady_calls sev_good (by decide) _ A5 ⟨_, _, _, _, _, _, _, _, _, _, _, _, rfl, HL5.out⟩)
  rw [sev_ready] at PY
  go_wp2_with fail
  refine PY.out.mono ?_
  rintro x w6 ⟨nb6, nn6, nc6, rfl, h6, hb6⟩
  obtain rfl : nn6 = 1 := Ints.count h6
  have HX6 := hid (HX5.out.below hb6)
  have HL6 := hid (HL5.out.below hb6)
  have HB6 := hid (below_deep HB5.out hb6)
  clear h6 hb6 PY x0 x1 x2 x3 x4 hel
  obtain ⟨x0, x1, x2, x3, x4⟩ := HX6.out.cells5
  have hel : be < w6.heap.size := HX6.out.lt
  have P1 := hid (runGo_calls sev_good (by decide) 1 _ w6 ⟨_, _, _, _, _, _, _, _, _, _, _, _, rfl, HL6.out⟩)
  unfold GoTold at P1
  rw [sev_goTo1] at P1
  go_wp2_with fail
  refine P1.out.mono ?_
  rintro x w7 ⟨v7, rfl, hv7, hb7⟩
  obtain ⟨cb7, cn7, cc7, db7, dn7, dc7, sb7, sn7, sc7, eb7, en7, ec7, rfl, hl7⟩ := hv7
  have HB7 := hid (below_deep hb7 (grew w7 (.cells #[.slice cb7 cn7 cc7, .slice db7 dn7 dc7, .slice sb7 sn7 sc7, .slice eb7 en7 ec7, .int .i64 sevE.base] 33)))
  have HX7 := hid (HX6.out.below HB7.out)
  have HL7 := hid (HL6.out.below HB7.out)
  have HT7 := hid (below_deep HB6.out HB7.out)
  have hel7 : be < w7.heap.size := (HX6.out.below hb7).lt
  clear hl7 hb7 P1 x0 x1 x2 x3 x4 hel HB7
  go_upto_region 4 with fail
  generalize w7.alloc (.cells #[.slice cb7 cn7 cc7, .slice db7 dn7 dc7, .slice sb7 sn7 sc7, .slice eb7 en7 ec7, .int .i64 sevE.base] 33) = A7 at *
  obtain ⟨x0, x1, x2, x3, x4⟩ := HX7.out.cells5
  have hel : be < A7.heap.size := HX7.out.lt
  have P0 := hid (runGo_calls sev_good (by decide) 0 _ A7 ⟨_, _, _, _, _, _, _, _, _, _, _, _, rfl, HL7.out⟩)
  unfold GoTold at P0
  rw [sev_goTo0] at P0
  go_wp2_with fail
  refine P0.out.mono ?_
  rintro x w8 ⟨v8, rfl, hv8, hb8⟩
  obtain ⟨cb8, cn8, cc8, db8, dn8, dc8, sb8, sn8, sc8, eb8, en8, ec8, rfl, hl8⟩ := hv8
  have HG8 := hid (grew w8 (.cells #[.slice cb8 cn8 cc8, .slice db8 dn8 dc8, .slice sb8 sn8 sc8, .slice eb8 en8 ec8, .int .i64 (goE sevE 0).base] 33))
  have HX8 := hid (Box.new w8 #[.slice cb8 cn8 cc8, .slice db8 dn8 dc8, .slice sb8 sn8 sc8, .slice eb8 en8 ec8, .int .i64 (goE sevE 0).base] 33)
  have HL8 := hid (hl8.below HG8.out)
  have HT8 := hid (below_deep HT7.out (below_deep hb8 HG8.out))
  clear hl8 hb8 P0 x0 x1 x2 x3 x4 hel HX7 HL7 HG8
  go_upto_region 5 with fail
  generalize w8.alloc (.cells #[.slice cb8 cn8 cc8, .slice db8 dn8 dc8, .slice sb8 sn8 sc8, .slice eb8 en8 ec8, .int .i64 (goE sevE 0).base] 33) = A8 at *
  generalize w8.heap.size = bx at *
  obtain ⟨x0, x1, x2, x3, x4⟩ := HX8.out.cells5
  have hxl : bx < A8.heap.size := HX8.out.lt
  have PL := hid (runAll_calls sev_goodX (by decide) [] _ none 0 0 A8 ⟨_, _, _, _, _, _, _, _, _, _, _, _, rfl, HL8.out⟩ (Lies.none _ _))
  go_wp2_with fail
  refine PL.out.mono ?_
  rintro x w9 ⟨y, dy, hgy, hdy, hy9⟩
  obtain ⟨v9, rfl, hv9, hb9⟩ := own_engTold hy9
  obtain ⟨cb9, cn9, cc9, db9, dn9, dc9, sb9, sn9, sc9, eb9, en9, ec9, rfl, hl9⟩ := hv9
  have HGY := hid hgy
  have HDY := hid (sev_done hgy (fun i hi => hdy i (Nat.zero_le _) hi))
  have HG9 := hid (grew w9 (.cells #[.slice cb9 cn9 cc9, .slice db9 dn9 dc9, .slice sb9 sn9 sc9, .slice eb9 en9 ec9, .int .i64 y.base] 33))
  have HY9 := hid (Box.new w9 #[.slice cb9 cn9 cc9, .slice db9 dn9 dc9, .slice sb9 sn9 sc9, .slice eb9 en9 ec9, .int .i64 y.base] 33)
  have HLY9 := hid (hl9.below HG9.out)
  have HB9 := hid (below_deep hb9 HG9.out)
  have HX9 := hid (HX8.out.below HB9.out)
  have HL9 := hid (HL8.out.below HB9.out)
  have HT9 := hid (below_deep HT8.out HB9.out)
  clear hgy hdy hy9 hl9 hb9 PL x0 x1 x2 x3 x4 hxl HX8 HL8 HG9
  go_upto_region 6 with fail
  generalize w9.alloc (.cells #[.slice cb9 cn9 cc9, .slice db9 dn9 dc9, .slice sb9 sn9 sc9, .slice eb9 en9 ec9, .int .i64 y.base] 33) = A9 at *
  generalize w9.heap.size = by9 at *
  obtain ⟨x0, x1, x2, x3, x4⟩ := HX9.out.cells5
  have hxl : bx < A9.heap.size := HX9.out.lt
  have PX := hid (runReady_calls sev_goodX (by decide) _ A9 ⟨_, _, _, _, _, _, _, _, _, _, _, _, rfl, HL9.out⟩)
  rw [sev_readyX] at PX
  go_wp2_with fail
  refine PX.out.mono ?_
  rintro x w10 ⟨nb10, nn10, nc10, rfl, h10, hb10⟩
  obtain rfl : nn10 = 1 := Ints.count h10
  have HY10 := hid (HY9.out.below hb10)
  have HLY10 := hid (HLY9.out.below hb10)
  have HT10 := hid (below_deep HT9.out hb10)
  clear h10 hb10 PX x0 x1 x2 x3 x4 hxl
  obtain ⟨x0, x1, x2, x3, x4⟩ := HY10.out.cells5
  have hyl : by9 < w10.heap.size := HY10.out.lt
  obtain ⟨b6, o6, rfl, k6⟩ := ends_reg1 HLY10.out.en (j := 1) (by rw [HDY.out.2.2]; decide)
  have hk6 : (y.ends.getD 1 default).2 1 = 4 := HDY.out.1
  rw [hk6] at k6
  have hb6 : b6 < w10.heap.size := by simpa using World.block_lt_of_cell? _ _ k6
  obtain rfl : en9 = 2 := by rw [Ends.count HLY10.out.en, HDY.out.2.2]
  have PZ := hid (runReady_calls HGY.out (by decide) _ w10 ⟨_, _, _, _, _, _, _, _, _, _, _, _, rfl, HLY10.out⟩)
  rw [HDY.out.2.1] at PZ
  go_wp2_with fail
  refine PZ.out.mono ?_
  rintro x w11 ⟨nb11, nn11, nc11, rfl, h11, hb11⟩
  obtain rfl : nn11 = 0 := Ints.count h11
  have HT11 := hid (below_deep HT10.out hb11)
  clear h11 hb11 PZ
  go_wp2
  go_ret
  exact ⟨rfl, HT11.out⟩
end Go.Proofs.YtllhdmhfjahgladGreatDoor

namespace Go.Proofs.YtllhdmhfjahgladGreatDoor
open Go.RowKit

def numLit (k : Int) : Lit := .int .i64 k
theorem numLit_inj {a b : Int} (h : numLit a = numLit b) : a = b := by
  simpa [numLit] using h
theorem numLit_is (k : Int) : WideAt.IsKeyLit (numLit k) := by simp [numLit, WideAt.IsKeyLit]
theorem nkey_law : Maps.Keyed Tryz.prog 3 := Maps.int_keyed Tryz.underlying3
def InKey (k : Int) : Prop := (Lit.int .i64 k).wf = true
theorem nkey_of {k : Int} (h : InKey k) : keyOf Tryz.prog 3 (.int .i64 k) = some (.int .i64 k) := Maps.keyOf_int_mk Tryz.underlying3 h

/-- Block b is a map of at most n entries that has, at each key, what f tells. -/
def MapN (w : World) (b n : Nat) (f : Int → Option Value) : Prop :=
  ∃ D : DataW Value, w.ownsMap Tryz.prog 3 asIs b n D ∧ (∀ k, f k = none → Maps.has D (numLit k) = false) ∧ (∀ k v, f k = some v → Maps.has D (numLit k) = true ∧ ∀ z, D.atKey (numLit k) z = .held v)

theorem MapN.made (w : World) : MapN (w.alloc (.map #[] 0)) w.heap.size 0 (fun _ => none) :=
  ⟨_, World.ownsMap_made w _ _ _, fun _ _ => rfl, fun _ _ h => by cases h⟩
theorem MapN.lt {w : World} {b n : Nat} {f : Int → Option Value} (h : MapN w b n f) : b < w.heap.size := by
  obtain ⟨D, h, _⟩ := h; exact h.lt
theorem MapN.block {w w' : World} {b n : Nat} {f : Int → Option Value} (h : MapN w b n f) (hb : w'.heap[b]? = w.heap[b]?) : MapN w' b n f := by
  obtain ⟨D, ⟨es, clock, h1, h2⟩, r⟩ := h
  exact ⟨D, ⟨es, clock, hb.trans h1, h2⟩, r⟩
theorem MapN.below {w w' : World} {b n B : Nat} {f : Int → Option Value} (h : MapN w b n f) (hb : Below B w w') (hB : b < B) : MapN w' b n f := h.block (hb.block b hB)
theorem MapN.alloc {w : World} {b n : Nat} {f : Int → Option Value} (h : MapN w b n f) (o : Obj) : MapN (w.alloc o) b n f := h.block (Below.heap_alloc _ _ _ h.lt)
theorem MapN.mono {w : World} {b n m : Nat} {f : Int → Option Value} (h : MapN w b n f) (hn : n ≤ m) : MapN w b m f := by
  obtain ⟨D, h, r⟩ := h; exact ⟨D, h.mono hn, r⟩
theorem MapN.ext {w : World} {b n : Nat} {f g : Int → Option Value} (h : MapN w b n f) (e : ∀ k, f k = g k) : MapN w b n g := by
  have : f = g := funext e
  rwa [← this]

/-- m[k]. -/
theorem MapN.get {w : World} {b n : Nat} {f : Int → Option Value} (h : MapN w b n f) {t e : TypeId} (ht : Tryz.prog.underlying t = some (.map 3 e)) {z : Value} (hz : (zeroValue e).run Tryz.prog w = .ok z w) (k : Int) (hk : InKey k) :
    (Instr.lookup t (.map (some b)) (.int .i64 k) false).run Tryz.prog w = .ok ((f k).getD z) w := by
  obtain ⟨D, h, h0, h1⟩ := h
  obtain ⟨v, ps, hr, hv⟩ := h.lookup nkey_law ht hz (zd := .held z) (zp := []) rfl (nkey_of hk)
  rw [hr]
  simp only [asIs, Option.some.injEq, Prod.mk.injEq] at hv
  cases hf : f k with
  | none =>
    have e1 : DataW.held v = .held z := by rw [hv.1]; exact Maps.atKey_of_not_has (h0 k hf) (.held z)
    cases e1; rfl
  | some u =>
    have e1 : DataW.held v = .held u := by rw [hv.1]; exact (h1 k u hf).2 _
    cases e1; rfl

/-- m[k] = v. -/
theorem MapN.put {w : World} {b n : Nat} {f : Int → Option Value} (h : MapN w b n f) {t e : TypeId} (ht : Tryz.prog.underlying t = some (.map 3 e)) (hn : n < maxLen) (k : Int) (hk : InKey k) (v : Value) :
    ∃ w', (Instr.mapUpdate t (.map (some b)) (.int .i64 k) v).run Tryz.prog w = .ok () w' ∧ MapN w' b (n + 1) (fun j => if j = k then some v else f j) ∧ w.grownBy w' (some b) := by
  obtain ⟨D, h, h0, h1⟩ := h
  obtain ⟨w', hr, ho, hg⟩ := h.update nkey_law ht hn (nkey_of hk) (val := v) (d := .held v) (ps := []) rfl
  rw [show Lit.int .i64 k = numLit k from rfl] at ho
  refine ⟨w', hr, ⟨_, ho, fun j hj => ?_, fun j u hj => ?_⟩, hg⟩
  · by_cases e : j = k
    · simp [e] at hj
    · simp only [if_neg e] at hj
      rw [Maps.has_put_other (fun x => e (numLit_inj x))]
      exact h0 j hj
  · by_cases e : j = k
    · subst e
      simp at hj
      subst hj
      exact ⟨Maps.has_put_same h.isMap (numLit_is _) _, fun z => Maps.atKey_put_same h.isMap (numLit_is _) _ z⟩
    · simp only [if_neg e] at hj
      obtain ⟨g1, g2⟩ := h1 j u hj
      exact ⟨by rw [Maps.has_put_other (fun x => e (numLit_inj x))]; exact g1, fun z => by rw [Maps.atKey_put_other (fun x => e (numLit_inj x))]; exact g2 z⟩

/-- m[k] = v at the operation. -/
theorem wpList_putN (w : World) {ops : Array Oper} {rest : List Oper} {o : Oper} {a : Act} {Q : Exit → Act → World → Prop}
    (hg : o.guard = none) (m x v : Operand) (t : TypeId) (hop : o.op = Op.mapUpdate t m x v) (e : TypeId) (ht : Tryz.prog.underlying t = some (.map 3 e)) (b n : Nat) (f : Int → Option Value)
    (hm : a.eval m = .map (some b)) (h : MapN w b n f) (hn : n < maxLen) (k : Int) (hk : InKey k) (val : Value) (hx : a.eval x = .int .i64 k) (hv : a.eval v = val)
    (hK : ∀ w', MapN w' b (n + 1) (fun j => if j = k then some val else f j) → w.grownBy w' (some b) → wpList Tryz.prog ops Q rest (a.put o.dst undef) w') :
    wpList Tryz.prog ops Q (o :: rest) a w := by
  refine wpList_plain hg fun K' hK' => ?_
  obtain ⟨w', hrun, r1, r2⟩ := h.put ht hn k hk val
  unfold Oper.wp
  simp [execOp, hop, hm, hx, hv, hrun, Result.andThen]
  exact hK' _ _ (hK w' r1 r2)
end Go.Proofs.YtllhdmhfjahgladGreatDoor
