/-
  Add and Set of the program: a version more, and one that is made.
-/
import Derived.Test.YtllhdmhfjahglacChainWith
namespace Go.Proofs.Ytllhdmhfjahglac
open Go.RowKit

theorem grown_any {w w' : World} (h : w.grownBy w' none) (r : Option Nat) : w.grownBy w' r := ⟨h.os, h.tape, h.output, h.size, fun k hk _ => h.block k hk (by simp)⟩
theorem grown_trans {w w1 w2 : World} {r : Option Nat} (h1 : w.grownBy w1 r) (h2 : w1.grownBy w2 r) : w.grownBy w2 r :=
  ⟨h2.os.trans h1.os, h2.tape.trans h1.tape, h2.output.trans h1.output, Nat.le_trans h1.size h2.size, fun k hk hne => (h2.block k (Nat.lt_of_lt_of_le hk h1.size) hne).trans (h1.block k hk hne)⟩
theorem grown_drewN {w w1 : World} {r : Option Nat} (h : w.grownBy w1 r) (q : Nat) : w.grownBy (w1.drewN q) r := ⟨h.os, h.tape, h.output, h.size, h.block⟩
theorem addClo_in : Entered 60 := fun _ _ => by kernel_rfl
theorem setClo_in : Entered 61 := fun _ _ => by kernel_rfl

set_option maxHeartbeats 1000000 in
set_option maxRecDepth 100000 in
theorem addClo_turns (w : World) (bx : Nat) (by_ : Int) (hc : w.cell? ⟨bx, 0, none⟩ = some (.int .i64 by_)) : Turns w 60 #[.pointer (some ⟨bx, 0, none⟩)] (· ++ [newV by_]) := by
  intro W v l hb ho hr hl
  show Calls Try.prog 60 #[v, .pointer (some ⟨bx, 0, none⟩)] W _
  have c0 := kept_cell hb hc
  have HO := hid (ho.alloc (.cells #[.int .i64 by_, .bool false, .bool false, .int .i64 0] 28))
  have HC1 := hid (lies_one W #[.int .i64 by_, .bool false, .bool false, .int .i64 0] 28 4 rfl)
  have HY := hid (verC_one (newV by_))
  have HBY : Hid ((l.length + 1) * 24 ≤ 140737488355328) := by show _ ≤ _; omega
  have HSZ := hid (le_box (o := .cells #[.int .i64 by_, .bool false, .bool false, .int .i64 0] 28) hb.size)
  clear hb hc ho hr
  go_enter Try.func60, Try.ntmps60
  go_wp2_with (at_builtin; refine wpList_onto _ rfl _ _ 67 28 4 24 _ Try.underlying67 verInfo rfl (by decide) (by decide) rfl w.heap.size _ l.length (flat verC l) rfl HO.out _ 1 _ _ rfl HC1.out HY.out HBY.out HSZ.out ?_)
  intro v1 w1 h1 h2
  have H1 : Hid (OwnsV w1 w.heap.size v1 (l ++ [newV by_])) := by
    show World.ownsRow _ _ _ _ _ _ _
    rw [List.length_append, flat_snoc]; exact h1
  have H2 := hid (grown_trans (grown_any (World.grownBy_alloc W (.cells #[.int .i64 by_, .bool false, .bool false, .int .i64 0] 28) none) v.ownBlock) h2)
  clear h1 h2
  go_wp2
  go_ret
  exact ⟨_, rfl, H1.out, H2.out⟩

set_option maxHeartbeats 1000000 in
set_option maxRecDepth 100000 in
theorem addC_callsK (L : List Chn) (base : Option Addr) (n c : Nat) (k : ByteArray) (by_ : Int) (w : World) (hf : FitC L) (ha : ChainsIn w base n c L) (hk : k.size ≤ maxLen) :
    Calls Try.prog 30 #[.slice base n c, .string k, .int .i64 by_] w fun e w' => ChainsToldK w w' (addC k by_ L) e := by
  have hmf : ∀ (fn : Fn) (first cap : Array Value) (w : World), (Instr.makeFunc fn first cap).run Try.prog w = .ok (.func fn first cap) w := fun _ _ _ _ => rfl
  have HG := hid (grew w (.cells #[.int .i64 by_] 3))
  have HW := hid (withC_calls L base n c k 60 #[.pointer (some ⟨w.heap.size, 0, none⟩)] (· ++ [newV by_]) (w.alloc (.cells #[.int .i64 by_] 3)) hf (ha.below HG.out) hk addClo_in (addClo_turns _ _ by_ (cell_box _ _ _)))
  rw [← addC_with hf.srt] at HW
  clear hf ha
  go_enter Try.func30, Try.ntmps30
  go_wp2_with fail
  refine HW.out.mono ?_
  rintro e w1 ⟨b1, n1, c1, rfl, hch, hb⟩
  have HC := hid hch
  have HB := hid (below_deep HG.out hb)
  clear hch hb
  go_wp2
  go_ret
  exact ⟨_, _, _, rfl, HC.out, HB.out⟩

/-- A version is written at its place in a row of versions. -/
def verAt (w : World) (g o : Nat) (y : Int) (m h : Bool) (x : Int) : World :=
  (((w.setCell ⟨g, o, none⟩ (.int .i64 y)).setCell ⟨g, o + 1, none⟩ (.bool m)).setCell ⟨g, o + 2, none⟩ (.bool h)).setCell ⟨g, o + 3, none⟩ (.int .i64 x)
theorem verAt_owns {w : World} {B g n c p : Nat} {l : List Ver} (ho : w.ownsRow B 28 4 (.slice (some ⟨g, 0, none⟩) n c) n (flat verC l)) (hp : p < l.length) (y : Int) (m h : Bool) (x : Int) :
    (verAt w g (p * 4) y m h x).ownsRow B 28 4 (.slice (some ⟨g, 0, none⟩) n c) n (flat verC (l.set p (y, m, h, x))) ∧ w.grownBy (verAt w g (p * 4) y m h x) (some g) := by
  obtain ⟨u, hu⟩ : ∃ u, l[p]? = some u := ⟨_, List.getElem?_eq_getElem hp⟩
  obtain ⟨a1, b1⟩ := World.ownsRow.stored ho (p * 4) (.int .i64 y)
  have e1 : (flat verC l).set (p * 4) (.int .i64 y) = flat verC (l.set p (y, u.made, u.has_, u.n)) := flat_set verC_length _ l p 0 u _ hp (by omega) hu rfl
  rw [e1] at a1
  obtain ⟨a2, b2⟩ := World.ownsRow.stored a1 (p * 4 + 1) (.bool m)
  have e2 : (flat verC (l.set p (y, u.made, u.has_, u.n))).set (p * 4 + 1) (.bool m) = flat verC (l.set p (y, m, u.has_, u.n)) := by
    rw [flat_set verC_length _ (l.set p (y, u.made, u.has_, u.n)) p 1 (y, u.made, u.has_, u.n) (y, m, u.has_, u.n) (by simpa using hp) (by omega) (by simp [hp]) rfl, List.set_set]
  rw [e2] at a2
  obtain ⟨a3, b3⟩ := World.ownsRow.stored a2 (p * 4 + 2) (.bool h)
  have e3 : (flat verC (l.set p (y, m, u.has_, u.n))).set (p * 4 + 2) (.bool h) = flat verC (l.set p (y, m, h, u.n)) := by
    rw [flat_set verC_length _ (l.set p (y, m, u.has_, u.n)) p 2 (y, m, u.has_, u.n) (y, m, h, u.n) (by simpa using hp) (by omega) (by simp [hp]) rfl, List.set_set]
  rw [e3] at a3
  obtain ⟨a4, b4⟩ := World.ownsRow.stored a3 (p * 4 + 3) (.int .i64 x)
  have e4 : (flat verC (l.set p (y, m, h, u.n))).set (p * 4 + 3) (.int .i64 x) = flat verC (l.set p (y, m, h, x)) := by
    rw [flat_set verC_length _ (l.set p (y, m, h, u.n)) p 3 (y, m, h, u.n) (y, m, h, x) (by simpa using hp) (by omega) (by simp [hp]) rfl, List.set_set]
  rw [e4] at a4
  exact ⟨a4, grown_trans b1 (grown_trans b2 (grown_trans b3 b4))⟩

set_option maxHeartbeats 1000000 in
set_option maxRecDepth 100000 in
theorem setClo_turns (w : World) (bx : Nat) (y : Int) (m h : Bool) (x : Int) (hc : Four w bx y m h x) : Turns w 61 #[.pointer (some ⟨bx, 0, none⟩)] (setV (y, m, h, x)) := by
  intro W v l hb ho hr hl
  show Calls Try.prog 61 #[v, .pointer (some ⟨bx, 0, none⟩)] W _
  have hcW := hc.below hb
  obtain ⟨vb, vc, rfl, hv⟩ := Lies.owned ho
  have HBC := hid (below_calls l vb l.length vc y W (by omega) hr hv)
  have HE := hid (setV_bel (v := (y, m, h, x)) hr)
  simp only [Ver.by_] at HE
  have hle := belV_le y l
  have HO := hid ho
  have HCW := hid hcW
  have y0 := hcW.c0
  clear ho hr hc hb hv hcW
  generalize belV y l = p at *
  by_cases hlt : p < l.length
  · have hdec : decide ((p : Int) < (l.length : Int)) = true := by simp; omega
    have hi : (p : Int) < (l.length : Int) := by omega
    obtain ⟨g, rfl⟩ : ∃ g, vb = some ⟨g, 0, none⟩ := by
      rcases HO.out.2 with ⟨_, h0⟩ | ⟨g, cap, cur, h', _⟩
      · omega
      · simp only [Value.slice.injEq] at h'
        exact ⟨g, h'.1⟩
    have hgw : g < W.heap.size := (HO.out.lt g rfl).2
    rcases hx : l.getD p default with ⟨y', m', h', x'⟩
    have HX := hid hx
    clear hx
    go_enter Try.func61, Try.ntmps61
    go_wp2_with fail
    refine HBC.out.mono ?_
    rintro e w1 ⟨rfl, hb1⟩
    have HO1 := hid (owns_keep HO.out hb1)
    have HG1 := hid (grown_any (grown_below hb1) (some g))
    obtain ⟨d0, d1, d2, d3⟩ := HCW.out.below hb1
    have hgw1 : g < w1.heap.size := Nat.lt_of_lt_of_le hgw hb1.size
    have hbxw : bx < w1.heap.size := by simpa using World.block_lt_of_cell? _ _ d0
    have k0 : w1.cell? ⟨g, p * 4, none⟩ = some (.int .i64 y') := by
      rw [World.ownsRow.cellAt HO1.out _ (by omega)]
      exact flat_at verC_length l p hlt 0 _ (by rw [HX.out]; rfl)
    have k1 : w1.cell? ⟨g, p * 4 + 1, none⟩ = some (.bool m') := by
      rw [World.ownsRow.cellAt HO1.out _ (by omega)]
      exact flat_at verC_length l p hlt 1 _ (by rw [HX.out]; rfl)
    have k2 : w1.cell? ⟨g, p * 4 + 2, none⟩ = some (.bool h') := by
      rw [World.ownsRow.cellAt HO1.out _ (by omega)]
      exact flat_at verC_length l p hlt 2 _ (by rw [HX.out]; rfl)
    have k3 : w1.cell? ⟨g, p * 4 + 3, none⟩ = some (.int .i64 x') := by
      rw [World.ownsRow.cellAt HO1.out _ (by omega)]
      exact flat_at verC_length l p hlt 3 _ (by rw [HX.out]; rfl)
    have f0 := World.ownsRow.frozenAt HO1.out (p * 4)
    have f1 := World.ownsRow.frozenAt HO1.out (p * 4 + 1)
    have f2 := World.ownsRow.frozenAt HO1.out (p * 4 + 2)
    have f3 := World.ownsRow.frozenAt HO1.out (p * 4 + 3)
    clear hb1 HBC y0
    by_cases hyy : y' = y
    · subst hyy
      have HE2 : Hid (setV (y', m, h, x) l = l.set p (y', m, h, x)) := by
        show _ = _
        rw [HE.out, if_pos ⟨hlt, by rw [HX.out]⟩]
      have HVA := hid (fun W' (hw : World.ownsRow W' w.heap.size 28 4 (.slice (some ⟨g, 0, none⟩) l.length vc) l.length (flat verC l)) => verAt_owns hw hlt y' m h x)
      unfold verAt at HVA
      have hbe : (y' == y') = true := by simp
      go_wp2
      go_quiet (fail)
      go_wp2
      go_ret
      refine ⟨_, rfl, ?_, ?_⟩
      · show World.ownsRow _ _ _ _ _ _ _
        rw [HE2.out, List.length_set]
        exact (HVA.out _ HO1.out).1
      · refine grown_trans (grown_drewN HG1.out _) (HVA.out (w1.drewN _) HO1.out).2
    · have HE2 : Hid (setV (y, m, h, x) l = l) := by
        show _ = _
        rw [HE.out, if_neg (by rw [HX.out]; exact fun h => hyy h.2)]
      have hbe : (y' == y) = false := by simpa using hyy
      go_wp2
      go_quiet (fail)
      go_wp2
      go_ret
      refine ⟨_, rfl, ?_, ?_⟩
      · show World.ownsRow _ _ _ _ _ _ _
        rw [HE2.out]
        exact HO1.out
      · exact grown_drewN HG1.out _
  · have hdec : decide ((p : Int) < (l.length : Int)) = false := by simp; omega
    have HE2 : Hid (setV (y, m, h, x) l = l) := by
      show _ = _
      rw [HE.out, if_neg (fun h => hlt h.1)]
    go_enter Try.func61, Try.ntmps61
    go_wp2_with fail
    refine HBC.out.mono ?_
    rintro e w1 ⟨rfl, hb1⟩
    have HO1 := hid (owns_keep HO.out hb1)
    have HG1 := hid (fun r => grown_any (grown_below hb1) r)
    clear hb1 HBC y0
    go_wp2
    go_quiet (fail)
    go_wp2
    go_ret
    refine ⟨_, rfl, ?_, ?_⟩
    · show World.ownsRow _ _ _ _ _ _ _
      rw [HE2.out]
      exact HO1.out
    · exact grown_drewN (HG1.out _) _

set_option maxHeartbeats 1000000 in
set_option maxRecDepth 100000 in
theorem setC_callsK (L : List Chn) (base : Option Addr) (n c : Nat) (k : ByteArray) (y : Int) (m h : Bool) (x : Int) (w : World) (hf : FitC L) (ha : ChainsIn w base n c L) (hk : k.size ≤ maxLen) :
    Calls Try.prog 32 #[.slice base n c, .string k, .agg #[.int .i64 y, .bool m, .bool h, .int .i64 x]] w fun e w' => ChainsToldK w w' (setC k (y, m, h, x) L) e := by
  have hmf : ∀ (fn : Fn) (first cap : Array Value) (w : World), (Instr.makeFunc fn first cap).run Try.prog w = .ok (.func fn first cap) w := fun _ _ _ _ => rfl
  have HG := hid (grew w (.cells #[.int .i64 y, .bool m, .bool h, .int .i64 x] 28))
  have HW := hid (withC_calls L base n c k 61 #[.pointer (some ⟨w.heap.size, 0, none⟩)] (setV (y, m, h, x)) (w.alloc (.cells #[.int .i64 y, .bool m, .bool h, .int .i64 x] 28)) hf (ha.below HG.out) hk setClo_in (setClo_turns _ _ y m h x (Four.box _ _ _ _ _ _)))
  rw [← setC_with hf.srt] at HW
  clear hf ha
  go_enter Try.func32, Try.ntmps32
  go_wp2_with fail
  refine HW.out.mono ?_
  rintro e w1 ⟨b1, n1, c1, rfl, hch, hb⟩
  have HC := hid hch
  have HB := hid (below_deep HG.out hb)
  clear hch hb
  go_wp2
  go_ret
  exact ⟨_, _, _, rfl, HC.out, HB.out⟩
theorem addC_calls (L : List Chn) (base : Option Addr) (n c : Nat) (k : ByteArray) (by_ : Int) (w : World) (hf : FitC L) (ha : ChainsIn w base n c L) (hk : k.size ≤ maxLen) :
    Calls Try.prog 30 #[.slice base n c, .string k, .int .i64 by_] w fun e w' => ChainsTold w w' (addC k by_ L) e :=
  (addC_callsK L base n c k by_ w hf ha hk).mono fun _ _ h => h.told
theorem setC_calls (L : List Chn) (base : Option Addr) (n c : Nat) (k : ByteArray) (y : Int) (m h : Bool) (x : Int) (w : World) (hf : FitC L) (ha : ChainsIn w base n c L) (hk : k.size ≤ maxLen) :
    Calls Try.prog 32 #[.slice base n c, .string k, .agg #[.int .i64 y, .bool m, .bool h, .int .i64 x]] w fun e w' => ChainsTold w w' (setC k (y, m, h, x) L) e :=
  (setC_callsK L base n c k y m h x w hf ha hk).mono fun _ _ h => h.told
end Go.Proofs.Ytllhdmhfjahglac
