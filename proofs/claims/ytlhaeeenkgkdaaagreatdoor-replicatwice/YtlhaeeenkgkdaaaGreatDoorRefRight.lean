/-
  Add and Set of the program: a version more, and one that is made.
  seenFrom and Clear of the program: chains without what is old.
  Of and Rows of the program: chains of rows, and what keys have ahead of a deed.
  The document's own RightChains, walked.
-/
import Derived.Test.YtlhaeeenkgkdaaaGreatDoorChainWith
import Derived.Test.YtlhaeeenkgkdaaaGreatDoorChainAt
import Derived.Deep.DeepCutAuto
namespace Go.Proofs.YtlhaeeenkgkdaaaGreatDoor
open Go.RowKit

theorem grown_any {w w' : World} (h : w.grownBy w' none) (r : Option Nat) : w.grownBy w' r := ⟨h.os, h.tape, h.output, h.size, fun k hk _ => h.block k hk (by simp)⟩
theorem grown_trans {w w1 w2 : World} {r : Option Nat} (h1 : w.grownBy w1 r) (h2 : w1.grownBy w2 r) : w.grownBy w2 r :=
 ⟨h2.os.trans h1.os, h2.tape.trans h1.tape, h2.output.trans h1.output, Nat.le_trans h1.size h2.size, fun k hk hne => (h2.block k (Nat.lt_of_lt_of_le hk h1.size) hne).trans (h1.block k hk hne)⟩
theorem grown_drewN {w w1 : World} {r : Option Nat} (h : w.grownBy w1 r) (q : Nat) : w.grownBy (w1.drewN q) r := ⟨h.os, h.tape, h.output, h.size, h.block⟩
theorem addClo_in : Entered 113 := fun _ _ => by kernel_rfl
theorem setClo_in : Entered 106 := fun _ _ => by kernel_rfl

set_option maxHeartbeats 1000000 in
set_option maxRecDepth 100000 in
theorem addClo_turns (w : World) (bx : Nat) (by_ : Int) (hc : w.cell? ⟨bx, 0, none⟩ = some (.int .i64 by_)) : Turns w 113 #[.pointer (some ⟨bx, 0, none⟩)] (· ++ [newV by_]) := by
 intro W v l hb ho hr hl
 show Calls Tryz.prog 113 #[v, .pointer (some ⟨bx, 0, none⟩)] W _
 have c0 := kept_cell hb hc
 have HO := hid (ho.alloc (.cells #[.int .i64 by_, .bool false, .bool false, .int .i64 0] 78))
 have HC1 := hid (lies_one W #[.int .i64 by_, .bool false, .bool false, .int .i64 0] 78 4 rfl)
 have HY := hid (verC_one (newV by_))
 have HBY : Hid ((l.length + 1) * 24 ≤ 140737488355328) := by show _ ≤ _; omega
 have HSZ := hid (le_box (o := .cells #[.int .i64 by_, .bool false, .bool false, .int .i64 0] 78) hb.size)
 clear hb hc ho hr
 go_enter Tryz.func113, Tryz.ntmps113
 go_wp2_with (at_builtin; refine wpList_onto _ rfl _ _ 113 78 4 24 _ Tryz.underlying113 verInfo rfl (by decide) (by decide) rfl w.heap.size _ l.length (flat verC l) rfl HO.out _ 1 _ _ rfl HC1.out HY.out HBY.out HSZ.out ?_)
 intro v1 w1 h1 h2
 have H1 : Hid (OwnsV w1 w.heap.size v1 (l ++ [newV by_])) := by
   show World.ownsRow _ _ _ _ _ _ _
   rw [List.length_append, flat_snoc]; exact h1
 have H2 := hid (grown_trans (grown_any (World.grownBy_alloc W (.cells #[.int .i64 by_, .bool false, .bool false, .int .i64 0] 78) none) v.ownBlock) h2)
 clear h1 h2
 go_wp2
 go_ret
 exact ⟨_, rfl, H1.out, H2.out⟩

set_option maxHeartbeats 1000000 in
set_option maxRecDepth 100000 in
theorem addC_callsK (L : List Chn) (base : Option Addr) (n c : Nat) (k : ByteArray) (by_ : Int) (w : World) (hf : FitC L) (ha : ChainsIn w base n c L) (hk : k.size ≤ maxLen) :
   Calls Tryz.prog 92 #[.slice base n c, .string k, .int .i64 by_] w fun e w' => ChainsToldK w w' (addC k by_ L) e := by
 have hmf : ∀ (fn : Fn) (first cap : Array Value) (w : World), (Instr.makeFunc fn first cap).run Tryz.prog w = .ok (.func fn first cap) w := fun _ _ _ _ => rfl
 have HG := hid (grew w (.cells #[.int .i64 by_] 3))
 have HW := hid (withC_calls L base n c k 113 #[.pointer (some ⟨w.heap.size, 0, none⟩)] (· ++ [newV by_]) (w.alloc (.cells #[.int .i64 by_] 3)) hf (ha.below HG.out) hk addClo_in (addClo_turns _ _ by_ (cell_box _ _ _)))
 rw [← addC_with hf.srt] at HW
 clear hf ha
 go_enter Tryz.func92, Tryz.ntmps92
 go_wp2_with fail
 refine HW.out.mono ?_
 rintro e w1 ⟨b1, n1, c1, rfl, hch, hb⟩
 have HC := hid hch
 have HB := hid (below_deep HG.out hb)
 clear hch hb
 go_wp2
 go_ret
 exact ⟨_, _, _, rfl, HC.out, HB.out⟩

def verAt (w : World) (g o : Nat) (y : Int) (m h : Bool) (x : Int) : World :=
 (((w.setCell ⟨g, o, none⟩ (.int .i64 y)).setCell ⟨g, o + 1, none⟩ (.bool m)).setCell ⟨g, o + 2, none⟩ (.bool h)).setCell ⟨g, o + 3, none⟩ (.int .i64 x)
theorem verAt_owns {w : World} {B g n c p : Nat} {l : List Ver} (ho : w.ownsRow B 78 4 (.slice (some ⟨g, 0, none⟩) n c) n (flat verC l)) (hp : p < l.length) (y : Int) (m h : Bool) (x : Int) :
   (verAt w g (p * 4) y m h x).ownsRow B 78 4 (.slice (some ⟨g, 0, none⟩) n c) n (flat verC (l.set p (y, m, h, x))) ∧ w.grownBy (verAt w g (p * 4) y m h x) (some g) := by
 obtain ⟨u, hu⟩ : ∃ u, l[p]? = some u := ⟨_, List.getElem?_eq_getElem hp⟩
 obtain ⟨a1, b1⟩ := World.ownsRow.stored ho (p * 4) (.int .i64 y)
 have e1 : (flat verC l).set (p * 4) (.int .i64 y) = flat verC (l.set p (y, u.made, u.has_, u.n)) := flat_set verC_length _ l p 0 u _ hp (by omega) hu rfl
 rw [e1] at a1
 obtain ⟨a2, b2⟩ := World.ownsRow.stored a1 (p * 4 + 1) (.bool m)
 have e2 : (flat verC (l.set p (y, u.made, u.has_, u.n))).set (p * 4 + 1) (.bool m) = flat verC (l.set p (y, m, u.has_, u.n)) := by
   rw [flat_set verC_length _ (l.set p (y, u.made, u.has_, u.n)) p 1 (y, u.made, u.has_, u.n) (y, m, u.has_, u.n) (by simpa using hp) (by omega) (by simp [hp]) rfl, List.set_set]
 rw [e2] at a2
 obtain ⟨a3, b3⟩ := World.ownsRow.stored a2 (p * 4 + 2) (.bool h)
 have e3 : (flat verC (l.set p (y, m, u.has_, u.n))).set (p * 4 + 2) (.bool h) = flat verC (l.set p (y, m, h, u.n)) := by
   rw [flat_set verC_length _ (l.set p (y, m, u.has_, u.n)) p 2 (y, m, u.has_, u.n) (y, m, h, u.n) (by simpa using hp) (by omega) (by simp [hp]) rfl, List.set_set]
 rw [e3] at a3
 obtain ⟨a4, b4⟩ := World.ownsRow.stored a3 (p * 4 + 3) (.int .i64 x)
 have e4 : (flat verC (l.set p (y, m, h, u.n))).set (p * 4 + 3) (.int .i64 x) = flat verC (l.set p (y, m, h, x)) := by
   rw [flat_set verC_length _ (l.set p (y, m, h, u.n)) p 3 (y, m, h, u.n) (y, m, h, x) (by simpa using hp) (by omega) (by simp [hp]) rfl, List.set_set]
 rw [e4] at a4
 exact ⟨a4, grown_trans b1 (grown_trans b2 (grown_trans b3 b4))⟩

set_option maxHeartbeats 1000000 in
set_option maxRecDepth 100000 in
theorem setClo_turns (w : World) (bx : Nat) (y : Int) (m h : Bool) (x : Int) (hc : Four w bx y m h x) : Turns w 106 #[.pointer (some ⟨bx, 0, none⟩)] (setV (y, m, h, x)) := by
 intro W v l hb ho hr hl
 show Calls Tryz.prog 106 #[v, .pointer (some ⟨bx, 0, none⟩)] W _
 have hcW := hc.below hb
 obtain ⟨vb, vc, rfl, hv⟩ := Lies.owned ho
 have HBC := hid (below_calls l vb l.length vc y W (by omega) hr hv)
 have HE := hid (setV_bel (v := (y, m, h, x)) hr)
 simp only [Ver.by_] at HE
 have hle := belV_le y l
 have HO := hid ho
 have HCW := hid hcW
 have y0 := hcW.c0
 clear ho hr hc hb hv hcW
 generalize belV y l = p at *
 by_cases hlt : p < l.length
 · have hdec : decide ((p : Int) < (l.length : Int)) = true := by simp; omega
   have hi : (p : Int) < (l.length : Int) := by omega
   obtain ⟨g, rfl⟩ : ∃ g, vb = some ⟨g, 0, none⟩ := by
     rcases HO.out.2 with ⟨_, h0⟩ | ⟨g, cap, cur, h', _⟩
     · omega
     · simp only [Value.slice.injEq] at h'
       exact ⟨g, h'.1⟩
   have hgw : g < W.heap.size := (HO.out.lt g rfl).2
   rcases hx : l.getD p default with ⟨y', m', h', x'⟩
   have HX := hid hx
   clear hx
   go_enter Tryz.func106, Tryz.ntmps106
   go_wp2_with fail
   refine HBC.out.mono ?_
   rintro e w1 ⟨rfl, hb1⟩
   have HO1 := hid (owns_keep HO.out hb1)
   have HG1 := hid (grown_any (grown_below hb1) (some g))
   obtain ⟨d0, d1, d2, d3⟩ := HCW.out.below hb1
   have hgw1 : g < w1.heap.size := Nat.lt_of_lt_of_le hgw hb1.size
   have hbxw : bx < w1.heap.size := by simpa using World.block_lt_of_cell? _ _ d0
   have k0 : w1.cell? ⟨g, p * 4, none⟩ = some (.int .i64 y') := by
     rw [World.ownsRow.cellAt HO1.out _ (by omega)]
     exact flat_at verC_length l p hlt 0 _ (by rw [HX.out]; rfl)
   have k1 : w1.cell? ⟨g, p * 4 + 1, none⟩ = some (.bool m') := by
     rw [World.ownsRow.cellAt HO1.out _ (by omega)]
     exact flat_at verC_length l p hlt 1 _ (by rw [HX.out]; rfl)
   have k2 : w1.cell? ⟨g, p * 4 + 2, none⟩ = some (.bool h') := by
     rw [World.ownsRow.cellAt HO1.out _ (by omega)]
     exact flat_at verC_length l p hlt 2 _ (by rw [HX.out]; rfl)
   have k3 : w1.cell? ⟨g, p * 4 + 3, none⟩ = some (.int .i64 x') := by
     rw [World.ownsRow.cellAt HO1.out _ (by omega)]
     exact flat_at verC_length l p hlt 3 _ (by rw [HX.out]; rfl)
   have f0 := World.ownsRow.frozenAt HO1.out (p * 4)
   have f1 := World.ownsRow.frozenAt HO1.out (p * 4 + 1)
   have f2 := World.ownsRow.frozenAt HO1.out (p * 4 + 2)
   have f3 := World.ownsRow.frozenAt HO1.out (p * 4 + 3)
   clear hb1 HBC y0
   by_cases hyy : y' = y
   · subst hyy
     have HE2 : Hid (setV (y', m, h, x) l = l.set p (y', m, h, x)) := by
       show _ = _
       rw [HE.out, if_pos ⟨hlt, by rw [HX.out]⟩]
     have HVA := hid (fun W' (hw : World.ownsRow W' w.heap.size 78 4 (.slice (some ⟨g, 0, none⟩) l.length vc) l.length (flat verC l)) => verAt_owns hw hlt y' m h x)
     unfold verAt at HVA
     have hbe : (y' == y') = true := by simp
     go_wp2
     go_quiet (fail)
     go_wp2
     go_ret
     refine ⟨_, rfl, ?_, ?_⟩
     · show World.ownsRow _ _ _ _ _ _ _
       rw [HE2.out, List.length_set]
       exact (HVA.out _ HO1.out).1
     · refine grown_trans (grown_drewN HG1.out _) (HVA.out (w1.drewN _) HO1.out).2
   · have HE2 : Hid (setV (y, m, h, x) l = l) := by
       show _ = _
       rw [HE.out, if_neg (by rw [HX.out]; exact fun h => hyy h.2)]
     have hbe : (y' == y) = false := by simpa using hyy
     go_wp2
     go_quiet (fail)
     go_wp2
     go_ret
     refine ⟨_, rfl, ?_, ?_⟩
     · show World.ownsRow _ _ _ _ _ _ _
       rw [HE2.out]
       exact HO1.out
     · exact grown_drewN HG1.out _
 · have hdec : decide ((p : Int) < (l.length : Int)) = false := by simp; omega
   have HE2 : Hid (setV (y, m, h, x) l = l) := by
     show _ = _
     rw [HE.out, if_neg (fun h => hlt h.1)]
   go_enter Tryz.func106, Tryz.ntmps106
   go_wp2_with fail
   refine HBC.out.mono ?_
   rintro e w1 ⟨rfl, hb1⟩
   have HO1 := hid (owns_keep HO.out hb1)
   have HG1 := hid (fun r => grown_any (grown_below hb1) r)
   clear hb1 HBC y0
   go_wp2
   go_quiet (fail)
   go_wp2
   go_ret
   refine ⟨_, rfl, ?_, ?_⟩
   · show World.ownsRow _ _ _ _ _ _ _
     rw [HE2.out]
     exact HO1.out
   · exact grown_drewN (HG1.out _) _

set_option maxHeartbeats 1000000 in
set_option maxRecDepth 100000 in
theorem setC_callsK (L : List Chn) (base : Option Addr) (n c : Nat) (k : ByteArray) (y : Int) (m h : Bool) (x : Int) (w : World) (hf : FitC L) (ha : ChainsIn w base n c L) (hk : k.size ≤ maxLen) :
   Calls Tryz.prog 85 #[.slice base n c, .string k, .agg #[.int .i64 y, .bool m, .bool h, .int .i64 x]] w fun e w' => ChainsToldK w w' (setC k (y, m, h, x) L) e := by
 have hmf : ∀ (fn : Fn) (first cap : Array Value) (w : World), (Instr.makeFunc fn first cap).run Tryz.prog w = .ok (.func fn first cap) w := fun _ _ _ _ => rfl
 have HG := hid (grew w (.cells #[.int .i64 y, .bool m, .bool h, .int .i64 x] 78))
 have HW := hid (withC_calls L base n c k 106 #[.pointer (some ⟨w.heap.size, 0, none⟩)] (setV (y, m, h, x)) (w.alloc (.cells #[.int .i64 y, .bool m, .bool h, .int .i64 x] 78)) hf (ha.below HG.out) hk setClo_in (setClo_turns _ _ y m h x (Four.box _ _ _ _ _ _)))
 rw [← setC_with hf.srt] at HW
 clear hf ha
 go_enter Tryz.func85, Tryz.ntmps85
 go_wp2_with fail
 refine HW.out.mono ?_
 rintro e w1 ⟨b1, n1, c1, rfl, hch, hb⟩
 have HC := hid hch
 have HB := hid (below_deep HG.out hb)
 clear hch hb
 go_wp2
 go_ret
 exact ⟨_, _, _, rfl, HC.out, HB.out⟩
end Go.Proofs.YtlhaeeenkgkdaaaGreatDoor

namespace Go.Proofs.YtlhaeeenkgkdaaaGreatDoor
open Go.RowKit

theorem Vers.drop {w : World} {b o n c m : Nat} {l : List Ver} (h : Vers w (some ⟨b, o, none⟩) n c l) (hm : m ≤ n) : Vers w (some ⟨b, o + m * 4, none⟩) (n - m) (c - m) (l.drop m) := by
 have hn := Vers.count h
 have hlc := h.hdr.le
 have hmx := h.hdr.max
 refine ⟨by rw [flat_length verC_length, List.length_drop, hn], ⟨by omega, by omega, fun h => by cases h⟩, ?_⟩
 rcases h.run with h0 | ⟨b', o', e, hr⟩
 · exact .inl (by omega)
 · cases e
   refine .inr ⟨b, o + m * 4, rfl, fun j u hu => ?_⟩
   rw [flat_drop verC_length, List.getElem?_drop] at hu
   rw [Nat.add_assoc]
   exact hr _ u hu
theorem Vers.none_left {w : World} {base : Option Addr} {c : Nat} {l : List Ver} (hl : l = []) (hh : Hdr base 0 c) : Vers w base 0 c l := by
 subst hl
 exact ⟨rfl, hh, .inl rfl⟩

set_option maxHeartbeats 1000000 in
set_option maxRecDepth 100000 in
theorem seenFrom_calls (l : List Ver) (base : Option Addr) (n c : Nat) (by_ : Int) (w : World) (hn : n < 4611686018427387904) (hr : Rise l) (ha : Vers w base n c l) :
   Calls Tryz.prog 87 #[.slice base n c, .int .i64 by_] w fun e w' => ∃ b' n' c', e = .returned (.slice b' n' c') ∧ Vers w' b' n' c' (clearV by_ l) ∧ Below w.heap.size w w' := by
 have HBC := hid (below_calls l base n c by_ w hn hr ha)
 have HE := hid (clearV_bel (by_ := by_) hr)
 have hle := belV_le by_ l
 rw [← Vers.count ha] at hle
 have HV := hid ha
 have HN := hid (Vers.count ha)
 have hlc := ha.hdr.le
 have hmx := ha.hdr.max
 unfold maxLen at hmx
 clear ha hr
 generalize belV by_ l = m at *
 cases m with
 | zero =>
   have HE0 : Hid (clearV by_ l = l) := by show _ = _; rw [HE.out, if_pos rfl]
   go_enter Tryz.func87, Tryz.ntmps87
   go_wp2_with fail
   refine HBC.out.mono ?_
   rintro e w1 ⟨rfl, hb⟩
   go_wp2
   go_ret
   exact ⟨_, _, _, rfl, by rw [HE0.out]; exact HV.out.below (by decide) hb, hb⟩
 | succ m =>
   go_enter Tryz.func87, Tryz.ntmps87
   go_wp2_with fail
   refine HBC.out.mono ?_
   rintro e w1 ⟨rfl, hb⟩
   have HB := hid hb
   have HV1 := hid (HV.out.below (by decide) hb)
   clear hb HBC
   rcases HV1.out.run with h | ⟨b, o, rfl, hrun⟩
   · omega
   obtain ⟨c0, c1, c2, c3⟩ := Vers.cells hrun (i := m) (by rw [← HN.out]; omega)
   have hbw : b < w1.heap.size := by simpa using World.block_lt_of_cell? _ _ c0
   have HE1 : Hid (clearV by_ l = if ((l.getD m default).made && !(l.getD m default).has_) = true then l.drop (m + 1) else l.drop m) := by show _ = _; rw [HE.out]; rfl
   clear hrun
   rcases hx : l.getD m default with ⟨y, mm, hh, x⟩
   rw [hx] at c0 c1 c2 c3 HE1
   simp only [Ver.by_, Ver.made, Ver.has_, Ver.n] at c0 c1 c2 c3
   clear hx
   have HG := hid (grew w1 (.cells #[.int .i64 y, .bool mm, .bool hh, .int .i64 x] 78))
   have HV2 := hid (HV1.out.below (by decide) HG.out)
   have HB2 := hid (below_deep HB.out HG.out)
   have hwr : IntKind.i64.wrap (m : Int) = (m : Int) := by rw [IntKind.wrap_i64]; omega
   have hi : (m : Int) < (n : Int) := by omega
   have hb1 : (m : Int) + 1 ≤ (n : Int) := by omega
   have hb2 : (0 : Int) ≤ (m : Int) + 1 := by omega
   have htn : ((m : Int) + 1).toNat = m + 1 := by omega
   have HD1 := hid (Vers.drop HV2.out (m := m + 1) (by omega))
   have HD0 := hid (Vers.drop HV2.out (m := m) (by omega))
   have HNIL : Hid (c = m + 1 → l.drop (m + 1) = []) := fun h => List.drop_eq_nil_of_le (by rw [← HN.out]; omega)
   by_cases hq : mm = true ∧ hh = false
   · obtain ⟨rfl, rfl⟩ := hq
     have HE2 : Hid (clearV by_ l = l.drop (m + 1)) := by show _ = _; rw [HE1.out]; rfl
     go_wp2
     all_goals
       go_ret
       refine ⟨_, _, _, rfl, ?_, HB2.out⟩
       rw [HE2.out]
       first
         | exact HD1.out
         | (rw [show n - (m + 1) = 0 from by omega]; exact Vers.none_left (HNIL.out (by omega)) ⟨by omega, by unfold maxLen; omega, fun h => by cases h⟩)
   · have HE2 : Hid (clearV by_ l = l.drop m) := by
       show _ = _
       rw [HE1.out, if_neg (by
         simp only [Ver.made, Ver.has_, Bool.and_eq_true, Bool.not_eq_true']
         exact hq)]
     have hb3 : ¬ (c = m) := by omega
     cases mm with
     | false =>
       go_wp2
       all_goals
         go_ret
         exact ⟨_, _, _, rfl, by rw [HE2.out]; exact HD0.out, HB2.out⟩
     | true =>
       cases hh with
       | false => exact absurd ⟨rfl, rfl⟩ hq
       | true =>
         go_wp2
         all_goals
           go_ret
           exact ⟨_, _, _, rfl, by rw [HE2.out]; exact HD0.out, HB2.out⟩

theorem clearV_len (by_ : Int) (l : List Ver) : (clearV by_ l).length ≤ l.length := (clearV_sub by_ l).length_le

set_option maxHeartbeats 2000000 in
set_option maxRecDepth 100000 in
theorem clearC_calls (L : List Chn) (base : Option Addr) (n c : Nat) (by_ : Int) (w : World) (hf : FitC L) (ha : ChainsIn w base n c L) :
   Calls Tryz.prog 67 #[.slice base n c, .int .i64 by_] w fun e w' => ChainsTold w w' (clearC by_ L) e := by
 have hcn : n ≤ 387420489 := by rw [ha.len]; exact hf.count
 have HA := hid ha
 have HLN := hid ha.len
 have HF := hid hf
 clear ha hf
 go_enter Tryz.func67, Tryz.ntmps67
 go_wp2
 go_loopw [5, 11] (fun v i wr => ∃ (j r : Nat) (S : List Slot), j ≤ n ∧ r ≤ j ∧ i = .int .i64 j ∧ Hid (wr.ownsRow w.heap.size 115 2 v r (flat slotC S)) ∧ Hid (OwnSlots wr w.heap.size S (clearC by_ (L.take j))) ∧ Hid (Below w.heap.size w wr)) (fun _ i _ => n - (intOf i).toNat)
 case atStart => exact ⟨0, 0, [], Nat.zero_le _, Nat.le_refl _, rfl, World.ownsRow_nil _ _ _ _, OwnSlots.nil _ _, Below.refl _ _⟩
 case round =>
   obtain ⟨j, r, S, hj, hrj, rfl, HO, HS, HBR⟩ := hrel
   by_cases hlt : j < n
   · have hjl : j < L.length := by rw [← HLN.out]; exact hlt
     have hi : (j : Int) < (n : Int) := by omega
     rcases (HA.out.below HBR.out).run with h | ⟨b, o, rfl, hrun⟩
     · omega
     obtain ⟨vb, vn, vc, c0, c1, hvv, hkz⟩ := hrun j hlt
     have hbw : b < wr.heap.size := by simpa using World.block_lt_of_cell? _ _ c0
     have hfew := HF.out.few _ (memC hjl)
     have HRI := hid (HF.out.rise _ (memC hjl))
     have HTK := hid (take_snoc_getD hjl)
     rcases hx : L.getD j default with ⟨key, vs⟩
     rw [hx] at c0 hvv hkz HTK hfew HRI
     simp only at c0 hvv hkz hfew HRI
     clear hx hrun
     have hvn := Vers.count hvv
     have HGW := hid (grew wr (.cells #[.string key, .slice vb vn vc] 115))
     have HSF := hid (seenFrom_calls vs vb vn vc by_ _ (by omega) HRI.out (hvv.below (by decide) HGW.out))
     have HCS : Hid (clearC by_ (L.take (j + 1)) = clearC by_ (L.take j) ++ (if clearV by_ vs = [] then [] else [(key, clearV by_ vs)])) := by
       show _ = _
       rw [HTK.out, clearC_snoc]
     have HKZ := hid hkz
     have HLE := hid (clearV_len by_ vs)
     have HNE := hid (own_old HO.out)
     clear hvv hkz hvn
     go_wp2_with fail
     refine HSF.out.mono ?_
     rintro e w1 ⟨b1, n1, c1', rfl, hv1, hb1⟩
     have hn1 : n1 ≤ 1954687338214 := by
       have h1 := Vers.count hv1
       have h2 := HLE.out
       omega
     have HB1 := hid (below_deep HGW.out hb1)
     by_cases h0 : n1 = 0
     · subst h0
       have HNX : Hid (clearC by_ (L.take (j + 1)) = clearC by_ (L.take j)) := by
         show _ = _
         rw [HCS.out, if_pos (List.eq_nil_of_length_eq_zero (Vers.count hv1).symm), List.append_nil]
       clear hv1 hb1
       go_wp2
       go_roundw
       case rel => exact ⟨j + 1, r, S, by omega, by omega, by go_num, owns_keep HO.out HB1.out, by rw [HNX.out]; exact HS.out.below HB1.out, below_deep HBR.out HB1.out⟩
       case measure => simp [intOf]; omega
     · have HNX : Hid (clearC by_ (L.take (j + 1)) = clearC by_ (L.take j) ++ [(key, clearV by_ vs)]) := by
         show _ = _
         rw [HCS.out, if_neg (fun e => h0 (by rw [Vers.count hv1, e]; rfl))]
       have HS0 : Hid ((fun w' => w'.cell? ⟨wr.heap.size, 0, none⟩ = some (.string key) ∧ w'.cell? ⟨wr.heap.size, 1, none⟩ = some (.slice vb vn vc)) w1.drew) :=
         ⟨kept_cell hb1.drew (box_cell wr #[.string key, .slice vb vn vc] _ 0 _ rfl), kept_cell hb1.drew (box_cell wr #[.string key, .slice vb vn vc] _ 1 _ rfl)⟩
       have HOV := hid (ownVers_calls _ b1 n1 c1' w1.drew (by omega) (hv1.below (by decide) (Below.refl _ _).drew))
       have hpos : (0 : Int) < (n1 : Int) := by omega
       clear hv1 hb1 HSF
       go_wp2
       go_region_held3 (fun w' => w'.cell? ⟨wr.heap.size, 0, none⟩ = some (.string key) ∧ w'.cell? ⟨wr.heap.size, 1, none⟩ = some (.slice vb vn vc))
         (first
           | exact HS0.out
           | exact cells2_keep HS0.out (by assumption)
           | exact cells2_past _ (by assumption)
           | exact cells2_grown HNE.out (by assumption) (by assumption))
         (first
           | (go_at_call 88; refine HOV.out.mono ?_; rintro e w2 ⟨b2, c2', rfl, ho2, hb2⟩)
           | (refine step_grow _ rfl _ _ 30 115 2 40 _ Tryz.underlying30 chnInfo rfl (by decide) (by decide) rfl w.heap.size _ r (flat slotC S) rfl ?_ _ 1 _ [.string key, .slice b2 n1 c2'] rfl ?_ ?_ ?_ ?_ ?_; (exact (owns_keep (owns_keep HO.out HB1.out.drew) hb2).alloc _); (exact lies_one w2 #[.string key, .slice b2 n1 c2'] _ 2 rfl); (exact slotC_one (key, b2, n1, c2')); omega; (exact Nat.le_trans HBR.out.size (Nat.le_trans HB1.out.size (Nat.le_trans hb2.size (by simp)))); intro v3 w3 hown3 hg3))
       have HX := hid (own_step HO.out HS.out HBR.out HB1.out.drew hb2 ho2 HKZ.out hown3 hg3)
       clear hown3 hg3 ho2 hb2 HOV HS0
       go_wp2
       go_roundw
       case rel => exact ⟨j + 1, r + 1, S ++ [(key, b2, n1, c2')], by omega, by omega, by go_num, HX.out.1, by rw [HNX.out]; exact HX.out.2.1, HX.out.2.2⟩
       case measure => simp [intOf]; omega
   · obtain rfl : j = n := by omega
     have hs := HS.out
     rw [List.take_of_length_le (by rw [← HLN.out]; exact Nat.le_refl _)] at hs
     obtain ⟨b2, c2, rfl, hch⟩ := chains_owned HO.out hs
     have HC := hid hch
     clear hs hch
     go_wp2
     go_ret
     exact ⟨_, _, _, rfl, HC.out, HBR.out⟩
end Go.Proofs.YtlhaeeenkgkdaaaGreatDoor

namespace Go.Proofs.YtlhaeeenkgkdaaaGreatDoor
open Go.RowKit

set_option maxHeartbeats 2000000 in
set_option maxRecDepth 100000 in
theorem ofC_calls (l : List Row) (base : Option Addr) (n c : Nat) (w : World) (hr : Right l) (hsm : Small l) (ha : Holds w base n c l) :
   Calls Tryz.prog 63 #[.slice base n c] w fun e w' => ChainsTold w w' (ofRows l) e := by
 have hcn : n ≤ 387420489 := by rw [ha.len]; exact right_few hr
 have HA := hid ha
 have HLN := hid ha.len
 have HSM := hid hsm
 clear ha hr hsm
 go_enter Tryz.func63, Tryz.ntmps63
 go_wp2
 go_loopw [3, 9] (fun v i wr => ∃ (j : Nat) (S : List Slot), j ≤ n ∧ i = .int .i64 j ∧ Hid (wr.ownsRow w.heap.size 115 2 v j (flat slotC S)) ∧ Hid (OwnSlots wr w.heap.size S (ofRows (l.take j))) ∧ Hid (Below w.heap.size w wr)) (fun _ i _ => n - (intOf i).toNat)
 case atStart => exact ⟨0, [], Nat.zero_le _, rfl, World.ownsRow_nil _ _ _ _, OwnSlots.nil _ _, Below.refl _ _⟩
 case round =>
   obtain ⟨j, S, hj, rfl, HO, HS, HBR⟩ := hrel
   by_cases hlt : j < n
   · have hjl : j < l.length := by rw [← HLN.out]; exact hlt
     have hi : (j : Int) < (n : Int) := by omega
     rcases (HA.out.below HBR.out).seg with h | ⟨b, o, rfl, hrun⟩
     · rw [h] at hjl; simp at hjl
     obtain ⟨c0, c1⟩ := hrun j hjl
     have hbw : b < wr.heap.size := by simpa using World.block_lt_of_cell? _ _ c0
     have HTK := hid (take_snoc_getD hjl)
     have hkz := small_getD HSM.out hjl
     rcases hx : l.getD j default with ⟨key, x⟩
     rw [hx] at c0 c1 HTK hkz
     simp only at c0 c1 hkz
     clear hx hrun
     have HOF : Hid (ofRows (l.take (j + 1)) = ofRows (l.take j) ++ [(key, [(-1, true, true, x)])]) := by
       show _ = _
       rw [HTK.out, ofRows_snoc]
     have HG2 := hid (below_deep (grew wr (.cells #[.string key, .int .i64 x] 117)) (grew _ (.cells #[.int .i64 (-1), .bool true, .bool true, .int .i64 x] 78)))
     have HS2 := hid (show ((wr.alloc (.cells #[.string key, .int .i64 x] 117)).alloc (.cells #[.int .i64 (-1), .bool true, .bool true, .int .i64 x] 78)).heap.size = wr.heap.size + 1 + 1 by rw [World.size_alloc, World.size_alloc])
     have HG3 := hid (grew ((wr.alloc (.cells #[.string key, .int .i64 x] 117)).alloc (.cells #[.int .i64 (-1), .bool true, .bool true, .int .i64 x] 78)) (.cells #[.int .i64 (-1), .bool true, .bool true, .int .i64 x] 78))
     have HOV := hid (World.ownsRow_lit (base := ((wr.alloc (.cells #[.string key, .int .i64 x] 117)).alloc (.cells #[.int .i64 (-1), .bool true, .bool true, .int .i64 x] 78)).heap.size) (e := 78) (size := 4) ((wr.alloc (.cells #[.string key, .int .i64 x] 117)).alloc (.cells #[.int .i64 (-1), .bool true, .bool true, .int .i64 x] 78)) #[.int .i64 (-1), .bool true, .bool true, .int .i64 x] 1 (Nat.le_refl _) (by unfold maxLen; omega) rfl)
     have HLO := hid (lies_one (((wr.alloc (.cells #[.string key, .int .i64 x] 117)).alloc (.cells #[.int .i64 (-1), .bool true, .bool true, .int .i64 x] 78)).alloc (.cells #[.int .i64 (-1), .bool true, .bool true, .int .i64 x] 78)) #[.string key, .slice (some ⟨wr.heap.size + 1 + 1, 0, none⟩) 1 1] 115 2 rfl)
     rw [World.size_alloc, HS2.out] at HLO
     have HOW := hid (((owns_keep HO.out HG2.out).alloc (.cells #[.int .i64 (-1), .bool true, .bool true, .int .i64 x] 78)).alloc (.cells #[.string key, .slice (some ⟨wr.heap.size + 1 + 1, 0, none⟩) 1 1] 115))
     have HSE := hid (slotC_one (key, some ⟨wr.heap.size + 1 + 1, 0, none⟩, 1, 1))
     have HBY : Hid ((j + 1) * 40 ≤ 140737488355328) := by show _ ≤ _; omega
     have HSZ := hid (le_box (o := .cells #[.string key, .slice (some ⟨wr.heap.size + 1 + 1, 0, none⟩) 1 1] 115) (Nat.le_trans HBR.out.size (Nat.le_trans HG2.out.size HG3.out.size)))
     have HKZ := hid hkz
     rw [HS2.out] at HOV
     clear hkz
     go_wp2_with (at_builtin; refine wpList_onto _ rfl _ _ 30 115 2 40 _ Tryz.underlying30 chnInfo rfl (by decide) (by decide) rfl w.heap.size _ j (flat slotC S) rfl HOW.out _ 1 _ _ rfl HLO.out HSE.out HBY.out HSZ.out ?_)
     intro v3 w3 hown3 hg3
     have HX := hid (own_step (vs := [(-1, true, true, x)]) HO.out HS.out HBR.out HG2.out HG3.out (by rw [HS2.out]; exact HOV.out) HKZ.out hown3 hg3)
     clear hown3 hg3
     go_wp2
     go_roundw
     case rel => exact ⟨j + 1, _, by omega, by go_num, HX.out.1, by rw [HOF.out]; exact HX.out.2.1, HX.out.2.2⟩
     case measure => simp [intOf]; omega
   · obtain rfl : j = n := by omega
     have hs := HS.out
     rw [List.take_of_length_le (by rw [← HLN.out]; exact Nat.le_refl _)] at hs
     obtain ⟨b2, c2, rfl, hch⟩ := chains_owned HO.out hs
     have HC := hid hch
     clear hs hch
     go_wp2
     go_ret
     exact ⟨_, _, _, rfl, HC.out, HBR.out⟩

def RowsTold (w w' : World) (o : Option (List Row)) (e : Ending) : Prop := ∃ (b : Option Addr) (n c : Nat) (ok : Bool), e = .returned (.tuple #[.slice b n c, .bool ok]) ∧ ok = o.isSome ∧ Holds w' b n c (o.getD []) ∧ Below w.heap.size w w'
theorem rowCells_snoc (l : List Row) (x : Row) : rowCells (l ++ [x]) = rowCells l ++ [.string x.1, .int .i64 x.2] := by rw [rowCells_append]; rfl

set_option maxHeartbeats 2000000 in
set_option maxRecDepth 100000 in
theorem rowsC_calls (L : List Chn) (base : Option Addr) (n c : Nat) (by_ : Int) (w : World) (hf : FitC L) (ha : ChainsIn w base n c L) :
   Calls Tryz.prog 66 #[.slice base n c, .int .i64 by_] w fun e w' => RowsTold w w' (rowsC L by_) e := by
 have hcn : n ≤ 387420489 := by rw [ha.len]; exact hf.count
 have HA := hid ha
 have HLN := hid ha.len
 have HF := hid hf
 clear ha hf
 go_enter Tryz.func66, Tryz.ntmps66
 go_wp2
 go_loopw [6, 12] (fun v i wr => ∃ (j r : Nat) (R : List Row), j ≤ n ∧ r ≤ j ∧ i = .int .i64 j ∧ Hid (wr.ownsRow w.heap.size 117 2 v r (rowCells R)) ∧ Hid (rowsGo L by_ (L.take j) = some R) ∧ Hid (Below w.heap.size w wr)) (fun _ i _ => n - (intOf i).toNat)
 case atStart => exact ⟨0, 0, [], Nat.zero_le _, Nat.le_refl _, rfl, World.ownsRow_nil _ _ _ _, rfl, Below.refl _ _⟩
 case round =>
   obtain ⟨j, r, R, hj, hrj, rfl, HO, HR, HBR⟩ := hrel
   by_cases hlt : j < n
   · have hjl : j < L.length := by rw [← HLN.out]; exact hlt
     have hi : (j : Int) < (n : Int) := by omega
     rcases (HA.out.below HBR.out).run with h | ⟨b, o, rfl, hrun⟩
     · omega
     obtain ⟨vb, vn, vc, c0, c1, hvv, hkz⟩ := hrun j hlt
     have hbw : b < wr.heap.size := by simpa using World.block_lt_of_cell? _ _ c0
     have hfew := HF.out.few _ (memC hjl)
     have HRI := hid (HF.out.rise _ (memC hjl))
     have HBO := hid (before_own HF.out.srt (memC hjl) by_)
     have HSN := hid (rowsGo_snoc L by_ (L.getD j default) HR.out)
     rw [← take_snoc_getD hjl] at HSN
     have HST := hid (rowsGo_stop L by_ (memC hjl))
     rcases hx : L.getD j default with ⟨key, vs⟩
     rw [hx] at c0 hvv hfew HRI HBO HSN HST
     simp only at c0 hvv hfew HRI HBO HSN HST
     clear hx hrun
     have hvn := Vers.count hvv
     have HGW := hid (grew wr (.cells #[.string key, .slice vb vn vc] 115))
     have HLB := hid (lastBelow_calls vs vb vn vc by_ _ (by omega) HRI.out (hvv.below (by decide) HGW.out))
     rw [← HBO.out] at HLB
     clear hvv hkz hvn HBO HRI
     generalize before L key by_ = q at *
     go_wp2_with fail
     refine HLB.out.mono ?_
     rintro e w1 ⟨y, m, h, x, rfl, rfl, hb1⟩
     simp only [Ver.made, Ver.has_, Ver.n] at HSN HST
     have k0 := kept_cell hb1 (box_cell wr #[.string key, .slice vb vn vc] 115 0 _ rfl)
     have hwl : wr.heap.size < w1.heap.size := by simpa using World.block_lt_of_cell? _ _ k0
     have HB1 := hid (below_deep HGW.out hb1)
     have HB2 := hid (below_deep HB1.out (grew w1 (.cells #[.int .i64 y, .bool m, .bool h, .int .i64 x] 78)))
     clear hb1 HLB
     cases m with
     | false =>
       have HNO : Hid (rowsC L by_ = none) := HST.out (by simp)
       go_wp2
       go_ret2
       exact ⟨_, _, _, _, rfl, by rw [HNO.out]; rfl, by rw [HNO.out]; exact Holds.empty _ rfl rfl ⟨Nat.le_refl _, Nat.zero_le _, fun _ => rfl⟩, below_deep HBR.out HB2.out⟩
     | true =>
       cases h with
       | false =>
         have HNX : Hid (rowsGo L by_ (L.take (j + 1)) = some R) := by show _ = _; rw [HSN.out]; rfl
         go_wp2
         go_roundw
         case rel => exact ⟨j + 1, r, R, by omega, by omega, by go_num, owns_keep HO.out HB2.out, HNX, below_deep HBR.out HB2.out⟩
         case measure => simp [intOf]; omega
       | true =>
         have HNX : Hid (rowsGo L by_ (L.take (j + 1)) = some (R ++ [(key, x)])) := by show _ = _; rw [HSN.out]; rfl
         have HLO := hid (lies_one (w1.alloc (.cells #[.int .i64 y, .bool true, .bool true, .int .i64 x] 78)) #[.string key, .int .i64 x] 117 2 rfl)
         rw [World.size_alloc] at HLO
         have HOW := hid ((owns_keep HO.out HB2.out).alloc (.cells #[.string key, .int .i64 x] 117))
         have HSE := hid (rowCells_one [(key, x)])
         have HBY : Hid ((r + 1) * 24 ≤ 140737488355328) := by show _ ≤ _; omega
         have HSZ := hid (le_box (o := .cells #[.string key, .int .i64 x] 117) (Nat.le_trans HBR.out.size HB2.out.size))
         go_wp2_with (at_builtin; refine wpList_onto _ rfl _ _ 49 117 2 24 _ Tryz.underlying49 pairInfo rfl (by decide) (by decide) rfl w.heap.size _ r (rowCells R) rfl HOW.out _ 1 _ _ rfl HLO.out HSE.out HBY.out HSZ.out ?_)
         intro v3 w3 hown3 hg3
         have HO3 : Hid (w3.ownsRow w.heap.size 117 2 v3 (r + 1) (rowCells (R ++ [(key, x)]))) := by
           show World.ownsRow _ _ _ _ _ _ _
           rw [rowCells_snoc]; exact hown3
         have HB3 := hid (((below_deep HBR.out HB2.out).alloc (Nat.le_trans HBR.out.size HB2.out.size) (.cells #[.string key, .int .i64 x] 117)).grown hg3 HSZ.out (fun a ha => (HO.out.lt a ha).1))
         clear hown3 hg3
         go_wp2
         go_roundw
         case rel => exact ⟨j + 1, r + 1, _, by omega, by omega, by go_num, HO3, HNX, HB3⟩
         case measure => simp [intOf]; omega
   · obtain rfl : j = n := by omega
     have HR3 : Hid (rowsC L by_ = some R) := by
       have := HR.out
       rw [List.take_of_length_le (by rw [← HLN.out]; exact Nat.le_refl _)] at this
       exact this
     obtain ⟨b2, c2, rfl, hho⟩ := holds_of_owned HO.out
     have HH := hid hho
     clear hho
     go_wp2
     go_ret2
     exact ⟨_, _, _, _, rfl, by rw [HR3.out]; rfl, by rw [HR3.out]; exact HH.out, HBR.out⟩
end Go.Proofs.YtlhaeeenkgkdaaaGreatDoor

namespace Go.Proofs.YtlhaeeenkgkdaaaGreatDoor
open Go.RowKit

end Go.Proofs.YtlhaeeenkgkdaaaGreatDoor
