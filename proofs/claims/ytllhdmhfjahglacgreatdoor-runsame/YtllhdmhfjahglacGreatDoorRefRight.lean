/-
  Add and Set of the program: a version more, and one that is made.
  seenFrom and Clear of the program: chains without what is old.
  Of and Rows of the program: chains of rows, and what keys have ahead of a deed.
  The document's own RightChains, walked.
-/
import Derived.Test.YtllhdmhfjahglacGreatDoorChainWith
import Derived.Test.YtllhdmhfjahglacGreatDoorChainAt
import Derived.Deep.DeepCutAuto
namespace Go.Proofs.YtllhdmhfjahglacGreatDoor
open Go.RowKit

theorem grown_any {w w' : World} (h : w.grownBy w' none) (r : Option Nat) : w.grownBy w' r := ⟨h.os, h.tape, h.output, h.size, fun k hk _ => h.block k hk (by simp)⟩
theorem grown_trans {w w1 w2 : World} {r : Option Nat} (h1 : w.grownBy w1 r) (h2 : w1.grownBy w2 r) : w.grownBy w2 r :=
  ⟨h2.os.trans h1.os, h2.tape.trans h1.tape, h2.output.trans h1.output, Nat.le_trans h1.size h2.size, fun k hk hne => (h2.block k (Nat.lt_of_lt_of_le hk h1.size) hne).trans (h1.block k hk hne)⟩
theorem grown_drewN {w w1 : World} {r : Option Nat} (h : w.grownBy w1 r) (q : Nat) : w.grownBy (w1.drewN q) r := ⟨h.os, h.tape, h.output, h.size, h.block⟩
theorem addClo_in : Entered 84 := fun _ _ => by kernel_rfl
theorem setClo_in : Entered 103 := fun _ _ => by kernel_rfl

set_option maxHeartbeats 1000000 in
set_option maxRecDepth 100000 in
theorem addClo_turns (w : World) (bx : Nat) (by_ : Int) (hc : w.cell? ⟨bx, 0, none⟩ = some (.int .i64 by_)) : Turns w 84 #[.pointer (some ⟨bx, 0, none⟩)] (· ++ [newV by_]) := by
  intro W v l hb ho hr hl
  show Calls Tryz.prog 84 #[v, .pointer (some ⟨bx, 0, none⟩)] W _
  have c0 := kept_cell hb hc
  have HO := hid (ho.alloc (.cells #[.int .i64 by_, .bool false, .bool false, .int .i64 0] 70))
  have HC1 := hid (lies_one W #[.int .i64 by_, .bool false, .bool false, .int .i64 0] 70 4 rfl)
  have HY := hid (verC_one (newV by_))
  have HBY : Hid ((l.length + 1) * 24 ≤ 140737488355328) := by show _ ≤ _; omega
  have HSZ := hid (le_box (o := .cells #[.int .i64 by_, .bool false, .bool false, .int .i64 0] 70) hb.size)
  clear hb hc ho hr
  go_enter Tryz.func84, Tryz.ntmps84
  go_wp2_with (at_builtin; refine wpList_onto _ rfl _ _ 66 70 4 24 _ Tryz.underlying66 verInfo rfl (by decide) (by decide) rfl w.heap.size _ l.length (flat verC l) rfl HO.out _ 1 _ _ rfl HC1.out HY.out HBY.out HSZ.out ?_)
  intro v1 w1 h1 h2
  have H1 : Hid (OwnsV w1 w.heap.size v1 (l ++ [newV by_])) := by
    show World.ownsRow _ _ _ _ _ _ _
    rw [List.length_append, flat_snoc]; exact h1
  have H2 := hid (grown_trans (grown_any (World.grownBy_alloc W (.cells #[.int .i64 by_, .bool false, .bool false, .int .i64 0] 70) none) v.ownBlock) h2)
  clear h1 h2
  go_wp2
  go_ret
  exact ⟨_, rfl, H1.out, H2.out⟩

set_option maxHeartbeats 1000000 in
set_option maxRecDepth 100000 in
theorem addC_callsK (L : List Chn) (base : Option Addr) (n c : Nat) (k : ByteArray) (by_ : Int) (w : World) (hf : FitC L) (ha : ChainsIn w base n c L) (hk : k.size ≤ maxLen) :
    Calls Tryz.prog 58 #[.slice base n c, .string k, .int .i64 by_] w fun e w' => ChainsToldK w w' (addC k by_ L) e := by
  have hmf : ∀ (fn : Fn) (first cap : Array Value) (w : World), (Instr.makeFunc fn first cap).run Tryz.prog w = .ok (.func fn first cap) w := fun _ _ _ _ => rfl
  have HG := hid (grew w (.cells #[.int .i64 by_] 3))
  have HW := hid (withC_calls L base n c k 84 #[.pointer (some ⟨w.heap.size, 0, none⟩)] (· ++ [newV by_]) (w.alloc (.cells #[.int .i64 by_] 3)) hf (ha.below HG.out) hk addClo_in (addClo_turns _ _ by_ (cell_box _ _ _)))
  rw [← addC_with hf.srt] at HW
  clear hf ha
  go_enter Tryz.func58, Tryz.ntmps58
  go_wp2_with fail
  refine HW.out.mono ?_
  rintro e w1 ⟨b1, n1, c1, rfl, hch, hb⟩
  have HC := hid hch
  have HB := hid (below_deep HG.out hb)
  clear hch hb
  go_wp2
  go_ret
  exact ⟨_, _, _, rfl, HC.out, HB.out⟩

/-- A version is written at its place in a row of versions. -/
def verAt (w : World) (g o : Nat) (y : Int) (m h : Bool) (x : Int) : World :=
  (((w.setCell ⟨g, o, none⟩ (.int .i64 y)).setCell ⟨g, o + 1, none⟩ (.bool m)).setCell ⟨g, o + 2, none⟩ (.bool h)).setCell ⟨g, o + 3, none⟩ (.int .i64 x)
theorem verAt_owns {w : World} {B g n c p : Nat} {l : List Ver} (ho : w.ownsRow B 70 4 (.slice (some ⟨g, 0, none⟩) n c) n (flat verC l)) (hp : p < l.length) (y : Int) (m h : Bool) (x : Int) :
    (verAt w g (p * 4) y m h x).ownsRow B 70 4 (.slice (some ⟨g, 0, none⟩) n c) n (flat verC (l.set p (y, m, h, x))) ∧ w.grownBy (verAt w g (p * 4) y m h x) (some g) := by
  obtain ⟨u, hu⟩ : ∃ u, l[p]? = some u := ⟨_, List.getElem?_eq_getElem hp⟩
  obtain ⟨a1, b1⟩ := World.ownsRow.stored ho (p * 4) (.int .i64 y)
  have e1 : (flat verC l).set (p * 4) (.int .i64 y) = flat verC (l.set p (y, u.made, u.has_, u.n)) := flat_set verC_length _ l p 0 u _ hp (by omega) hu rfl
  rw [e1] at a1
  obtain ⟨a2, b2⟩ := World.ownsRow.stored a1 (p * 4 + 1) (.bool m)
  have e2 : (flat verC (l.set p (y, u.made, u.has_, u.n))).set (p * 4 + 1) (.bool m) = flat verC (l.set p (y, m, u.has_, u.n)) := by
    rw [flat_set verC_length _ (l.set p (y, u.made, u.has_, u.n)) p 1 (y, u.made, u.has_, u.n) (y, m, u.has_, u.n) (by simpa using hp) (by omega) (by simp [hp]) rfl, List.set_set]
  rw [e2] at a2
  obtain ⟨a3, b3⟩ := World.ownsRow.stored a2 (p * 4 + 2) (.bool h)
  have e3 : (flat verC (l.set p (y, m, u.has_, u.n))).set (p * 4 + 2) (.bool h) = flat verC (l.set p (y, m, h, u.n)) := by
    rw [flat_set verC_length _ (l.set p (y, m, u.has_, u.n)) p 2 (y, m, u.has_, u.n) (y, m, h, u.n) (by simpa using hp) (by omega) (by simp [hp]) rfl, List.set_set]
  rw [e3] at a3
  obtain ⟨a4, b4⟩ := World.ownsRow.stored a3 (p * 4 + 3) (.int .i64 x)
  have e4 : (flat verC (l.set p (y, m, h, u.n))).set (p * 4 + 3) (.int .i64 x) = flat verC (l.set p (y, m, h, x)) := by
    rw [flat_set verC_length _ (l.set p (y, m, h, u.n)) p 3 (y, m, h, u.n) (y, m, h, x) (by simpa using hp) (by omega) (by simp [hp]) rfl, List.set_set]
  rw [e4] at a4
  exact ⟨a4, grown_trans b1 (grown_trans b2 (grown_trans b3 b4))⟩

set_option maxHeartbeats 1000000 in
set_option maxRecDepth 100000 in
theorem setClo_turns (w : World) (bx : Nat) (y : Int) (m h : Bool) (x : Int) (hc : Four w bx y m h x) : Turns w 103 #[.pointer (some ⟨bx, 0, none⟩)] (setV (y, m, h, x)) := by
  intro W v l hb ho hr hl
  show Calls Tryz.prog 103 #[v, .pointer (some ⟨bx, 0, none⟩)] W _
  have hcW := hc.below hb
  obtain ⟨vb, vc, rfl, hv⟩ := Lies.owned ho
  have HBC := hid (below_calls l vb l.length vc y W (by omega) hr hv)
  have HE := hid (setV_bel (v := (y, m, h, x)) hr)
  simp only [Ver.by_] at HE
  have hle := belV_le y l
  have HO := hid ho
  have HCW := hid hcW
  have y0 := hcW.c0
  clear ho hr hc hb hv hcW
  generalize belV y l = p at *
  by_cases hlt : p < l.length
  · have hdec : decide ((p : Int) < (l.length : Int)) = true := by simp; omega
    have hi : (p : Int) < (l.length : Int) := by omega
    obtain ⟨g, rfl⟩ : ∃ g, vb = some ⟨g, 0, none⟩ := by
      rcases HO.out.2 with ⟨_, h0⟩ | ⟨g, cap, cur, h', _⟩
      · omega
      · simp only [Value.slice.injEq] at h'
        exact ⟨g, h'.1⟩
    have hgw : g < W.heap.size := (HO.out.lt g rfl).2
    rcases hx : l.getD p default with ⟨y', m', h', x'⟩
    have HX := hid hx
    clear hx
    go_enter Tryz.func103, Tryz.ntmps103
    go_wp2_with fail
    refine HBC.out.mono ?_
    rintro e w1 ⟨rfl, hb1⟩
    have HO1 := hid (owns_keep HO.out hb1)
    have HG1 := hid (grown_any (grown_below hb1) (some g))
    obtain ⟨d0, d1, d2, d3⟩ := HCW.out.below hb1
    have hgw1 : g < w1.heap.size := Nat.lt_of_lt_of_le hgw hb1.size
    have hbxw : bx < w1.heap.size := by simpa using World.block_lt_of_cell? _ _ d0
    have k0 : w1.cell? ⟨g, p * 4, none⟩ = some (.int .i64 y') := by
      rw [World.ownsRow.cellAt HO1.out _ (by omega)]
      exact flat_at verC_length l p hlt 0 _ (by rw [HX.out]; rfl)
    have k1 : w1.cell? ⟨g, p * 4 + 1, none⟩ = some (.bool m') := by
      rw [World.ownsRow.cellAt HO1.out _ (by omega)]
      exact flat_at verC_length l p hlt 1 _ (by rw [HX.out]; rfl)
    have k2 : w1.cell? ⟨g, p * 4 + 2, none⟩ = some (.bool h') := by
      rw [World.ownsRow.cellAt HO1.out _ (by omega)]
      exact flat_at verC_length l p hlt 2 _ (by rw [HX.out]; rfl)
    have k3 : w1.cell? ⟨g, p * 4 + 3, none⟩ = some (.int .i64 x') := by
      rw [World.ownsRow.cellAt HO1.out _ (by omega)]
      exact flat_at verC_length l p hlt 3 _ (by rw [HX.out]; rfl)
    have f0 := World.ownsRow.frozenAt HO1.out (p * 4)
    have f1 := World.ownsRow.frozenAt HO1.out (p * 4 + 1)
    have f2 := World.ownsRow.frozenAt HO1.out (p * 4 + 2)
    have f3 := World.ownsRow.frozenAt HO1.out (p * 4 + 3)
    clear hb1 HBC y0
    by_cases hyy : y' = y
    · subst hyy
      have HE2 : Hid (setV (y', m, h, x) l = l.set p (y', m, h, x)) := by
        show _ = _
        rw [HE.out, if_pos ⟨hlt, by rw [HX.out]⟩]
      have HVA := hid (fun W' (hw : World.ownsRow W' w.heap.size 70 4 (.slice (some ⟨g, 0, none⟩) l.length vc) l.length (flat verC l)) => verAt_owns hw hlt y' m h x)
      unfold verAt at HVA
      have hbe : (y' == y') = true := by simp
      go_wp2
      go_quiet (fail)
      go_wp2
      go_ret
      refine ⟨_, rfl, ?_, ?_⟩
      · show World.ownsRow _ _ _ _ _ _ _
        rw [HE2.out, List.length_set]
        exact (HVA.out _ HO1.out).1
      · refine grown_trans (grown_drewN HG1.out _) (HVA.out (w1.drewN _) HO1.out).2
    · have HE2 : Hid (setV (y, m, h, x) l = l) := by
        show _ = _
        rw [HE.out, if_neg (by rw [HX.out]; exact fun h => hyy h.2)]
      have hbe : (y' == y) = false := by simpa using hyy
      go_wp2
      go_quiet (fail)
      go_wp2
      go_ret
      refine ⟨_, rfl, ?_, ?_⟩
      · show World.ownsRow _ _ _ _ _ _ _
        rw [HE2.out]
        exact HO1.out
      · exact grown_drewN HG1.out _
  · have hdec : decide ((p : Int) < (l.length : Int)) = false := by simp; omega
    have HE2 : Hid (setV (y, m, h, x) l = l) := by
      show _ = _
      rw [HE.out, if_neg (fun h => hlt h.1)]
    go_enter Tryz.func103, Tryz.ntmps103
    go_wp2_with fail
    refine HBC.out.mono ?_
    rintro e w1 ⟨rfl, hb1⟩
    have HO1 := hid (owns_keep HO.out hb1)
    have HG1 := hid (fun r => grown_any (grown_below hb1) r)
    clear hb1 HBC y0
    go_wp2
    go_quiet (fail)
    go_wp2
    go_ret
    refine ⟨_, rfl, ?_, ?_⟩
    · show World.ownsRow _ _ _ _ _ _ _
      rw [HE2.out]
      exact HO1.out
    · exact grown_drewN (HG1.out _) _

set_option maxHeartbeats 1000000 in
set_option maxRecDepth 100000 in
theorem setC_callsK (L : List Chn) (base : Option Addr) (n c : Nat) (k : ByteArray) (y : Int) (m h : Bool) (x : Int) (w : World) (hf : FitC L) (ha : ChainsIn w base n c L) (hk : k.size ≤ maxLen) :
    Calls Tryz.prog 71 #[.slice base n c, .string k, .agg #[.int .i64 y, .bool m, .bool h, .int .i64 x]] w fun e w' => ChainsToldK w w' (setC k (y, m, h, x) L) e := by
  have hmf : ∀ (fn : Fn) (first cap : Array Value) (w : World), (Instr.makeFunc fn first cap).run Tryz.prog w = .ok (.func fn first cap) w := fun _ _ _ _ => rfl
  have HG := hid (grew w (.cells #[.int .i64 y, .bool m, .bool h, .int .i64 x] 70))
  have HW := hid (withC_calls L base n c k 103 #[.pointer (some ⟨w.heap.size, 0, none⟩)] (setV (y, m, h, x)) (w.alloc (.cells #[.int .i64 y, .bool m, .bool h, .int .i64 x] 70)) hf (ha.below HG.out) hk setClo_in (setClo_turns _ _ y m h x (Four.box _ _ _ _ _ _)))
  rw [← setC_with hf.srt] at HW
  clear hf ha
  go_enter Tryz.func71, Tryz.ntmps71
  go_wp2_with fail
  refine HW.out.mono ?_
  rintro e w1 ⟨b1, n1, c1, rfl, hch, hb⟩
  have HC := hid hch
  have HB := hid (below_deep HG.out hb)
  clear hch hb
  go_wp2
  go_ret
  exact ⟨_, _, _, rfl, HC.out, HB.out⟩
theorem addC_calls (L : List Chn) (base : Option Addr) (n c : Nat) (k : ByteArray) (by_ : Int) (w : World) (hf : FitC L) (ha : ChainsIn w base n c L) (hk : k.size ≤ maxLen) :
    Calls Tryz.prog 58 #[.slice base n c, .string k, .int .i64 by_] w fun e w' => ChainsTold w w' (addC k by_ L) e :=
  (addC_callsK L base n c k by_ w hf ha hk).mono fun _ _ h => h.told
theorem setC_calls (L : List Chn) (base : Option Addr) (n c : Nat) (k : ByteArray) (y : Int) (m h : Bool) (x : Int) (w : World) (hf : FitC L) (ha : ChainsIn w base n c L) (hk : k.size ≤ maxLen) :
    Calls Tryz.prog 71 #[.slice base n c, .string k, .agg #[.int .i64 y, .bool m, .bool h, .int .i64 x]] w fun e w' => ChainsTold w w' (setC k (y, m, h, x) L) e :=
  (setC_callsK L base n c k y m h x w hf ha hk).mono fun _ _ h => h.told
end Go.Proofs.YtllhdmhfjahglacGreatDoor

namespace Go.Proofs.YtllhdmhfjahglacGreatDoor
open Go.RowKit

theorem Vers.drop {w : World} {b o n c m : Nat} {l : List Ver} (h : Vers w (some ⟨b, o, none⟩) n c l) (hm : m ≤ n) : Vers w (some ⟨b, o + m * 4, none⟩) (n - m) (c - m) (l.drop m) := by
  have hn := Vers.count h
  have hlc := h.hdr.le
  have hmx := h.hdr.max
  refine ⟨by rw [flat_length verC_length, List.length_drop, hn], ⟨by omega, by omega, fun h => by cases h⟩, ?_⟩
  rcases h.run with h0 | ⟨b', o', e, hr⟩
  · exact .inl (by omega)
  · cases e
    refine .inr ⟨b, o + m * 4, rfl, fun j u hu => ?_⟩
    rw [flat_drop verC_length, List.getElem?_drop] at hu
    rw [Nat.add_assoc]
    exact hr _ u hu
theorem Vers.none_left {w : World} {base : Option Addr} {c : Nat} {l : List Ver} (hl : l = []) (hh : Hdr base 0 c) : Vers w base 0 c l := by
  subst hl
  exact ⟨rfl, hh, .inl rfl⟩

theorem clearV_len (by_ : Int) (l : List Ver) : (clearV by_ l).length ≤ l.length := (clearV_sub by_ l).length_le

end Go.Proofs.YtllhdmhfjahglacGreatDoor

namespace Go.Proofs.YtllhdmhfjahglacGreatDoor
open Go.RowKit

set_option maxHeartbeats 2000000 in
set_option maxRecDepth 100000 in
theorem ofC_calls (l : List Row) (base : Option Addr) (n c : Nat) (w : World) (hr : Right l) (hsm : Small l) (ha : Holds w base n c l) :
    Calls Tryz.prog 45 #[.slice base n c] w fun e w' => ChainsTold w w' (ofRows l) e := by
  have hcn : n ≤ 387420489 := by rw [ha.len]; exact right_few hr
  have HA := hid ha
  have HLN := hid ha.len
  have HSM := hid hsm
  clear ha hr hsm
  go_enter Tryz.func45, Tryz.ntmps45
  go_wp2
  go_loopw [3, 9] (fun v i wr => ∃ (j : Nat) (S : List Slot), j ≤ n ∧ i = .int .i64 j ∧ Hid (wr.ownsRow w.heap.size 68 2 v j (flat slotC S)) ∧ Hid (OwnSlots wr w.heap.size S (ofRows (l.take j))) ∧ Hid (Below w.heap.size w wr)) (fun _ i _ => n - (intOf i).toNat)
  case atStart => exact ⟨0, [], Nat.zero_le _, rfl, World.ownsRow_nil _ _ _ _, OwnSlots.nil _ _, Below.refl _ _⟩
  case round =>
    obtain ⟨j, S, hj, rfl, HO, HS, HBR⟩ := hrel
    by_cases hlt : j < n
    · have hjl : j < l.length := by rw [← HLN.out]; exact hlt
      have hi : (j : Int) < (n : Int) := by omega
      rcases (HA.out.below HBR.out).seg with h | ⟨b, o, rfl, hrun⟩
      · rw [h] at hjl; simp at hjl
      obtain ⟨c0, c1⟩ := hrun j hjl
      have hbw : b < wr.heap.size := by simpa using World.block_lt_of_cell? _ _ c0
      have HTK := hid (take_snoc_getD hjl)
      have hkz := small_getD HSM.out hjl
      rcases hx : l.getD j default with ⟨key, x⟩
      rw [hx] at c0 c1 HTK hkz
      simp only at c0 c1 hkz
      clear hx hrun
      have HOF : Hid (ofRows (l.take (j + 1)) = ofRows (l.take j) ++ [(key, [(-1, true, true, x)])]) := by
        show _ = _
        rw [HTK.out, ofRows_snoc]
      have HG2 := hid (below_deep (grew wr (.cells #[.string key, .int .i64 x] 52)) (grew _ (.cells #[.int .i64 (-1), .bool true, .bool true, .int .i64 x] 70)))
      have HS2 := hid (show ((wr.alloc (.cells #[.string key, .int .i64 x] 52)).alloc (.cells #[.int .i64 (-1), .bool true, .bool true, .int .i64 x] 70)).heap.size = wr.heap.size + 1 + 1 by rw [World.size_alloc, World.size_alloc])
      have HG3 := hid (grew ((wr.alloc (.cells #[.string key, .int .i64 x] 52)).alloc (.cells #[.int .i64 (-1), .bool true, .bool true, .int .i64 x] 70)) (.cells #[.int .i64 (-1), .bool true, .bool true, .int .i64 x] 70))
      have HOV := hid (World.ownsRow_lit (base := ((wr.alloc (.cells #[.string key, .int .i64 x] 52)).alloc (.cells #[.int .i64 (-1), .bool true, .bool true, .int .i64 x] 70)).heap.size) (e := 70) (size := 4) ((wr.alloc (.cells #[.string key, .int .i64 x] 52)).alloc (.cells #[.int .i64 (-1), .bool true, .bool true, .int .i64 x] 70)) #[.int .i64 (-1), .bool true, .bool true, .int .i64 x] 1 (Nat.le_refl _) (by unfold maxLen; omega) rfl)
      have HLO := hid (lies_one (((wr.alloc (.cells #[.string key, .int .i64 x] 52)).alloc (.cells #[.int .i64 (-1), .bool true, .bool true, .int .i64 x] 70)).alloc (.cells #[.int .i64 (-1), .bool true, .bool true, .int .i64 x] 70)) #[.string key, .slice (some ⟨wr.heap.size + 1 + 1, 0, none⟩) 1 1] 68 2 rfl)
      rw [World.size_alloc, HS2.out] at HLO
      have HOW := hid (((owns_keep HO.out HG2.out).alloc (.cells #[.int .i64 (-1), .bool true, .bool true, .int .i64 x] 70)).alloc (.cells #[.string key, .slice (some ⟨wr.heap.size + 1 + 1, 0, none⟩) 1 1] 68))
      have HSE := hid (slotC_one (key, some ⟨wr.heap.size + 1 + 1, 0, none⟩, 1, 1))
      have HBY : Hid ((j + 1) * 40 ≤ 140737488355328) := by show _ ≤ _; omega
      have HSZ := hid (le_box (o := .cells #[.string key, .slice (some ⟨wr.heap.size + 1 + 1, 0, none⟩) 1 1] 68) (Nat.le_trans HBR.out.size (Nat.le_trans HG2.out.size HG3.out.size)))
      have HKZ := hid hkz
      rw [HS2.out] at HOV
      clear hkz
      go_wp2_with (at_builtin; refine wpList_onto _ rfl _ _ 30 68 2 40 _ Tryz.underlying30 chnInfo rfl (by decide) (by decide) rfl w.heap.size _ j (flat slotC S) rfl HOW.out _ 1 _ _ rfl HLO.out HSE.out HBY.out HSZ.out ?_)
      intro v3 w3 hown3 hg3
      have HX := hid (own_step (vs := [(-1, true, true, x)]) HO.out HS.out HBR.out HG2.out HG3.out (by rw [HS2.out]; exact HOV.out) HKZ.out hown3 hg3)
      clear hown3 hg3
      go_wp2
      go_roundw
      case rel => exact ⟨j + 1, _, by omega, by go_num, HX.out.1, by rw [HOF.out]; exact HX.out.2.1, HX.out.2.2⟩
      case measure => simp [intOf]; omega
    · obtain rfl : j = n := by omega
      have hs := HS.out
      rw [List.take_of_length_le (by rw [← HLN.out]; exact Nat.le_refl _)] at hs
      obtain ⟨b2, c2, rfl, hch⟩ := chains_owned HO.out hs
      have HC := hid hch
      clear hs hch
      go_wp2
      go_ret
      exact ⟨_, _, _, rfl, HC.out, HBR.out⟩

/-- How rows are told, if they are. -/
def RowsTold (w w' : World) (o : Option (List Row)) (e : Ending) : Prop := ∃ (b : Option Addr) (n c : Nat) (ok : Bool), e = .returned (.tuple #[.slice b n c, .bool ok]) ∧ ok = o.isSome ∧ Holds w' b n c (o.getD []) ∧ Below w.heap.size w w'
theorem rowCells_snoc (l : List Row) (x : Row) : rowCells (l ++ [x]) = rowCells l ++ [.string x.1, .int .i64 x.2] := by rw [rowCells_append]; rfl

end Go.Proofs.YtllhdmhfjahglacGreatDoor

namespace Go.Proofs.YtllhdmhfjahglacGreatDoor
open Go.RowKit

/-- A version is right, and behind the one ahead of it. -/
def RightVAt (l : List Ver) (k : Nat) : Prop := RightV (l.getD k default) ∧ (0 < k → (l.getD (k - 1) default).by_ < (l.getD k default).by_)
def RightCAt (L : List Chn) (i : Nat) : Prop := keyB (L.getD i default).1 = true ∧ (0 < i → less (L.getD (i - 1) default).1 (L.getD i default).1 = true) ∧ (L.getD i default).2 ≠ [] ∧ ∀ k, k < (L.getD i default).2.length → RightVAt (L.getD i default).2 k
theorem memD {α : Type} [Inhabited α] {l : List α} {i : Nat} (h : i < l.length) : l.getD i default ∈ l := by simp [List.getD, h]
theorem mem_at {α : Type} [Inhabited α] {l : List α} {x : α} (h : x ∈ l) : ∃ i, i < l.length ∧ l.getD i default = x := by
  obtain ⟨i, hi, rfl⟩ := List.getElem_of_mem h
  exact ⟨i, hi, by simp [List.getD, hi]⟩
theorem rise_of {l : List Ver} (h : ∀ k, k < l.length → RightVAt l k) : Rise l := by
  unfold Rise
  rw [List.pairwise_iff_getElem]
  have key : ∀ d i (hi : i < l.length) (hj : i + d + 1 < l.length), l[i].by_ < l[i + d + 1].by_ := by
    intro d
    induction d with
    | zero =>
      intro i hi hj
      have := (h (i + 1) hj).2 (by omega)
      simpa [List.getD, hi, hj] using this
    | succ d ih =>
      intro i hi hj
      have h1 := ih i hi (by omega)
      have h2 := (h (i + (d + 1) + 1) hj).2 (by omega)
      have h3 : i + d + 1 < l.length := by omega
      simp only [Nat.add_sub_cancel] at h2
      rw [show i + (d + 1) = i + d + 1 from by omega] at h2
      simp only [List.getD, List.getElem?_eq_getElem h3, List.getElem?_eq_getElem (show i + d + 1 + 1 < l.length by omega), Option.getD_some] at h2
      exact Int.lt_trans h1 h2
  intro i j hi hj hij
  obtain ⟨d, rfl⟩ : ∃ d, j = i + d + 1 := ⟨j - i - 1, by omega⟩
  exact key d i hi hj
theorem srtC_of {L : List Chn} (h : ∀ i, i < L.length → RightCAt L i) : SrtC L := by
  unfold SrtC
  rw [List.pairwise_iff_getElem]
  have key : ∀ d i (hi : i < L.length) (hj : i + d + 1 < L.length), less L[i].1 L[i + d + 1].1 = true := by
    intro d
    induction d with
    | zero =>
      intro i hi hj
      have := (h (i + 1) hj).2.1 (by omega)
      simpa [List.getD, hi, hj] using this
    | succ d ih =>
      intro i hi hj
      have h1 := ih i hi (by omega)
      have h2 := (h (i + (d + 1) + 1) hj).2.1 (by omega)
      have h3 : i + d + 1 < L.length := by omega
      simp only [Nat.add_sub_cancel] at h2
      rw [show i + (d + 1) = i + d + 1 from by omega] at h2
      simp only [List.getD, List.getElem?_eq_getElem h3, List.getElem?_eq_getElem (show i + d + 1 + 1 < L.length by omega), Option.getD_some] at h2
      exact less_trans h1 h2
  intro i j hi hj hij
  obtain ⟨d, rfl⟩ : ∃ d, j = i + d + 1 := ⟨j - i - 1, by omega⟩
  exact key d i hi hj
theorem rightC_of {L : List Chn} (h : ∀ i, i < L.length → RightCAt L i) : RightC L := by
  refine ⟨srtC_of h, fun c hc => ?_, fun c hc => ?_, fun c hc => ?_, fun c hc v hv => ?_⟩
  · obtain ⟨i, hi, rfl⟩ := mem_at hc; exact (h i hi).1
  · obtain ⟨i, hi, rfl⟩ := mem_at hc; exact (h i hi).2.2.1
  · obtain ⟨i, hi, rfl⟩ := mem_at hc; exact rise_of (h i hi).2.2.2
  · obtain ⟨i, hi, rfl⟩ := mem_at hc
    obtain ⟨k, hk, rfl⟩ := mem_at hv
    exact ((h i hi).2.2.2 k hk).1
theorem rightC_at {L : List Chn} (h : RightC L) {i : Nat} (hi : i < L.length) : RightCAt L i := by
  have hm := memC hi
  refine ⟨h.key _ hm, fun h0 => srtC_lt h.srt (by omega) hi, h.some_ _ hm, fun k hk => ⟨h.ver _ hm _ (memD hk), fun h0 => rise_lt (h.rise _ hm) (by omega) hk⟩⟩
/-- What is first wrong with a version. -/
theorem ver_parts (y x : Int) (mm hh pr : Bool) :
    decide (y < -1) = true ∨ (decide (y < -1) = false ∧ decide (1000000 < y) = true) ∨ (decide (y < -1) = false ∧ decide (1000000 < y) = false ∧ pr = true) ∨
    (decide (y < -1) = false ∧ decide (1000000 < y) = false ∧ pr = false ∧ decide (x < -1073741824) = true) ∨
    (decide (y < -1) = false ∧ decide (1000000 < y) = false ∧ pr = false ∧ decide (x < -1073741824) = false ∧ decide (1073741824 < x) = true) ∨
    (decide (y < -1) = false ∧ decide (1000000 < y) = false ∧ pr = false ∧ decide (x < -1073741824) = false ∧ decide (1073741824 < x) = false ∧ hh = false ∧ (x != 0) = true) ∨
    (decide (y < -1) = false ∧ decide (1000000 < y) = false ∧ pr = false ∧ decide (x < -1073741824) = false ∧ decide (1073741824 < x) = false ∧ hh = true ∧ mm = false) ∨
    (decide (y < -1) = false ∧ decide (1000000 < y) = false ∧ pr = false ∧ decide (x < -1073741824) = false ∧ decide (1073741824 < x) = false ∧ hh = false ∧ (x != 0) = false ∧ mm = false) ∨
    (decide (y < -1) = false ∧ decide (1000000 < y) = false ∧ pr = false ∧ decide (x < -1073741824) = false ∧ decide (1073741824 < x) = false ∧ hh = false ∧ (x != 0) = false ∧ mm = true) ∨
    (decide (y < -1) = false ∧ decide (1000000 < y) = false ∧ pr = false ∧ decide (x < -1073741824) = false ∧ decide (1073741824 < x) = false ∧ hh = true ∧ mm = true) := by
  cases decide (y < -1) <;> cases decide (1000000 < y) <;> cases pr <;> cases decide (x < -1073741824) <;> cases decide (1073741824 < x) <;> cases hh <;> cases (x != 0) <;> cases mm <;> simp

theorem rightV_of {y x : Int} {mm hh : Bool} (h1 : decide (y < -1) = false) (h2 : decide (1000000 < y) = false) (h4 : decide (x < -1073741824) = false) (h5 : decide (1073741824 < x) = false) (h6 : hh = false → (x != 0) = false) (h7 : mm = false → hh = false) : RightV (y, mm, hh, x) := by
  simp only [decide_eq_false_iff_not] at h1 h2 h4 h5
  exact ⟨by show -1 ≤ y; omega, by show y ≤ 1000000; omega, by show -1073741824 ≤ x; omega, by show x ≤ 1073741824; omega, fun h => by simpa using h6 h, h7⟩
theorem rightV_not {y x : Int} {mm hh : Bool} (hv : RightV (y, mm, hh, x)) : decide (y < -1) = false ∧ decide (1000000 < y) = false ∧ decide (x < -1073741824) = false ∧ decide (1073741824 < x) = false ∧ (hh = false → (x != 0) = false) ∧ (hh = true → mm = true) := by
  have a1 : -1 ≤ y := hv.lo
  have a2 : y ≤ 1000000 := hv.hi
  have a3 : -1073741824 ≤ x := hv.nlo
  have a4 : x ≤ 1073741824 := hv.nhi
  refine ⟨by simp; omega, by simp; omega, by simp; omega, by simp; omega, fun h => by have : x = 0 := hv.zero h; simp [this], fun h => ?_⟩
  cases mm with
  | true => rfl
  | false => have : hh = false := hv.made rfl; rw [this] at h; cases h


/-- A test's answer: false just where p is so. -/
def Fails (b : Bool) (p : Prop) : Prop := b = false ↔ p
/-- What is right ahead of a chain's versions. -/
def HeadOk (L : List Chn) (i : Nat) : Prop := keyB (L.getD i default).1 = true ∧ (0 < i → less (L.getD (i - 1) default).1 (L.getD i default).1 = true) ∧ (L.getD i default).2 ≠ []

end Go.Proofs.YtllhdmhfjahglacGreatDoor
