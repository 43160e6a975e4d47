/-
  The document's own Add, walked.
  Blocks of five cells that hold an engine, and rows that a call owns beside them.
  The document's own New, walked.
-/
import Derived.Test.YtlhaeeenkgkdaaaGreatDoorRefRight
import Derived.Test.YtlhaeeenkgkdaaaGreatDoorChainAt
import Derived.Test.YtlhaeeenkgkdaaaGreatDoorChainWith
import Derived.Test.YtlhaeeenkgkdaaaGreatDoorPlanMath
namespace Go.Proofs.YtlhaeeenkgkdaaaGreatDoor
open Go.RowKit

def addStep (k : ByteArray) (by_ : Int) (s : List Chn × Bool) (c : Chn) : List Chn × Bool :=
 if s.2 = false ∧ less k c.1 = true then
   (if c.1 = k then ((s.1 ++ [(k, [newV by_])]) ++ [(c.1, c.2 ++ [newV by_])], true) else ((s.1 ++ [(k, [newV by_])]) ++ [c], true))
 else if c.1 = k then (s.1 ++ [(c.1, c.2 ++ [newV by_])], true) else (s.1 ++ [c], s.2)
def addGo (k : ByteArray) (by_ : Int) (L : List Chn) : List Chn × Bool := L.foldl (addStep k by_) ([], false)
theorem addGo_done {k : ByteArray} {by_ : Int} : ∀ {L : List Chn} {a : List Chn}, (∀ c ∈ L, c.1 ≠ k) → L.foldl (addStep k by_) (a, true) = (a ++ L, true)
 | [], a, _ => by simp
 | c :: L, a, h => by
   have e : addStep k by_ (a, true) c = (a ++ [c], true) := by
     unfold addStep
     rw [if_neg (fun h => by cases h.1), if_neg (h c (by simp))]
   rw [List.foldl_cons, e, addGo_done (fun x hx => h x (by simp [hx]))]
   simp
theorem addGo_is {k : ByteArray} {by_ : Int} : ∀ {L : List Chn} {a : List Chn}, SrtC L → (if (L.foldl (addStep k by_) (a, false)).2 = true then (L.foldl (addStep k by_) (a, false)).1 else (L.foldl (addStep k by_) (a, false)).1 ++ [(k, [newV by_])]) = a ++ addC k by_ L
 | [], a, _ => by simp [addC]
 | c :: L, a, h => by
   obtain ⟨h1, h2⟩ := srtC_cons.1 h
   rw [List.foldl_cons, addC]
   by_cases e1 : less k c.1 = true
   · have hne : c.1 ≠ k := fun e => less_ne e1 e.symm
     have e : addStep k by_ (a, false) c = ((a ++ [(k, [newV by_])]) ++ [c], true) := by
       unfold addStep
       rw [if_pos ⟨rfl, e1⟩, if_neg hne]
     rw [e, addGo_done (fun x hx e => less_ne (less_trans e1 (h1 x hx)) e.symm), if_pos e1]
     simp
   · rw [if_neg e1]
     by_cases e2 : c.1 = k
     · have e : addStep k by_ (a, false) c = (a ++ [(c.1, c.2 ++ [newV by_])], true) := by
         unfold addStep
         rw [if_neg (fun h => e1 h.2), if_pos e2]
       rw [e, addGo_done (fun x hx e => less_ne (h1 x hx) (by rw [e2, e])), if_pos e2, e2]
       simp
     · have e : addStep k by_ (a, false) c = (a ++ [c], false) := by
         unfold addStep
         rw [if_neg (fun h => e1 h.2), if_neg e2]
       rw [e, addGo_is h2, if_neg e2]
       simp
theorem addGo_addC {k : ByteArray} {by_ : Int} {L : List Chn} (h : SrtC L) : (if (addGo k by_ L).2 = true then (addGo k by_ L).1 else (addGo k by_ L).1 ++ [(k, [newV by_])]) = addC k by_ L := by
 have := addGo_is (k := k) (by_ := by_) (a := []) h
 rw [List.nil_append] at this
 exact this
theorem addGo_snoc (k : ByteArray) (by_ : Int) (L : List Chn) (c : Chn) : addGo k by_ (L ++ [c]) = addStep k by_ (addGo k by_ L) c := by simp [addGo]
theorem slot_step {w wr w1 w2 : World} {r : Nat} {u v2 : Value} {S : List Slot} {L : List Chn} {s : Slot} {x : Chn}
   (HO : wr.ownsRow w.heap.size 115 2 u r (flat slotC S)) (HS : SlotsAre wr w.heap.size 78 S L) (HB : Below w.heap.size w wr) (hb1 : Below wr.heap.size wr w1)
   (hs : SlotIs w1 w.heap.size 78 s x) (hown2 : w2.ownsRow w.heap.size 115 2 v2 (r + 1) (flat slotC S ++ slotC s)) (hg2 : w1.grownBy w2 u.ownBlock) :
   w2.ownsRow w.heap.size 115 2 v2 (r + 1) (flat slotC (S ++ [s])) ∧ SlotsAre w2 w.heap.size 78 (S ++ [s]) (L ++ [x]) ∧ Below w.heap.size w w2 := by
 have hrow := owns_keep HO hb1
 refine ⟨by rw [flat_snoc]; exact hown2, ((HS.below hb1).snoc hs).grown hrow (by decide) hg2, ?_⟩
 exact (below_deep HB hb1).grown hg2 (Nat.le_trans HB.size hb1.size) (fun k hk => (HO.lt k hk).1)

theorem old_slot {w wr : World} {key : ByteArray} {vb : Option Addr} {vn vc : Nat} {vs : List Ver} (h : Vers w vb vn vc vs) (hz : key.size ≤ maxLen) (hb : Below w.heap.size w wr) : SlotIs wr w.heap.size 78 (key, vb, vn, vc) (key, vs) :=
 ⟨rfl, h.below (by decide) hb, (Lies.spot (t := 78) (by decide) h).below hb, hz⟩
theorem one_slot (w : World) (B' : Nat) {key : ByteArray} (hz : key.size ≤ maxLen) (y : Int) (m h : Bool) (x : Int) : SlotIs (w.alloc (.cells #[.int .i64 y, .bool m, .bool h, .int .i64 x] 78)) B' 78 (key, some ⟨w.heap.size, 0, none⟩, 1, 1) (key, [(y, m, h, x)]) :=
 own_slot (B := w.heap.size) rfl hz (World.ownsRow_lit (base := w.heap.size) (e := 78) (size := 4) w #[.int .i64 y, .bool m, .bool h, .int .i64 x] 1 (Nat.le_refl _) (by unfold maxLen; omega) rfl)

set_option maxHeartbeats 4000000 in
set_option maxRecDepth 100000 in
theorem refAddC_calls (L : List Chn) (base : Option Addr) (n c : Nat) (k : ByteArray) (by_ : Int) (w : World) (hf : FitC L) (ha : ChainsIn w base n c L) (hkz : k.size ≤ maxLen) :
   Calls Tryz.prog 70 #[.slice base n c, .string k, .int .i64 by_] w fun e w' => ChainsTold w w' (addC k by_ L) e := by
 have hcn : n ≤ 387420489 := by rw [ha.len]; exact hf.count
 have HA := hid ha
 have HLN := hid ha.len
 have HF := hid hf
 have HKZ := hid hkz
 have HFIN := hid (addGo_addC (k := k) (by_ := by_) hf.srt)
 clear ha hf hkz
 go_enter Tryz.func70, Tryz.ntmps70
 go_wp2
 go_loopw [7, 8, 13] (fun v d i wr => ∃ (j r : Nat) (dn : Bool) (S : List Slot) (P : List Chn), j ≤ n ∧ r ≤ 2 * j ∧ i = .int .i64 j ∧ d = .bool dn ∧ Hid (addGo k by_ (L.take j) = (P, dn)) ∧ Hid (wr.ownsRow w.heap.size 115 2 v r (flat slotC S)) ∧ Hid (SlotsAre wr w.heap.size 78 S P) ∧ Hid (Below w.heap.size w wr)) (fun _ _ i _ => n - (intOf i).toNat)
 case atStart => exact ⟨0, 0, false, [], [], Nat.zero_le _, Nat.le_refl _, rfl, rfl, rfl, World.ownsRow_nil _ _ _ _, SlotsAre.nil _ _ _, Below.refl _ _⟩
 case round =>
   obtain ⟨j, r, dn, S, P, hj, hrj, rfl, rfl, HG, HO, HS, HBR⟩ := hrel
   by_cases hlt : j < n
   · have hjl : j < L.length := by rw [← HLN.out]; exact hlt
     have hi : (j : Int) < (n : Int) := by omega
     rcases HA.out.run with h | ⟨b, o, rfl, hrun⟩
     · omega
     obtain ⟨vb, vn, vc, c0w, c1w, hvv, hkz⟩ := hrun j hlt
     have c0 := kept_cell HBR.out c0w
     have c1 := kept_cell HBR.out c1w
     have hbw : b < wr.heap.size := by simpa using World.block_lt_of_cell? _ _ c0
     have hfew := HF.out.few _ (memC hjl)
     rw [← Vers.count hvv] at hfew
     have HSN := hid (addGo_snoc k by_ (L.take j) (L.getD j default))
     rw [← take_snoc_getD hjl, HG.out] at HSN
     obtain ⟨key, vs, hx⟩ : ∃ key vs, L.getD j default = (key, vs) := ⟨_, _, rfl⟩
     rw [hx] at c0 hvv hkz HSN
     simp only at c0 hvv hkz
     have HOS := hid (fun wr hb => old_slot (wr := wr) hvv hkz hb)
     have HVC := hid (Vers.count hvv)
     have HVW := hid hvv
     have HKEZ := hid hkz
     clear hx hrun hvv hkz c0w c1w
     have HGW := hid (grew wr (.cells #[.string key, .slice vb vn vc] 115))
     have HNE := hid (own_old HO.out)
     have hrb : r ≤ 774840978 := by omega
     by_cases he : key = k
     · have t1 : (key.toList == k.toList) = true := by rw [he]; simp
       have hls : ¬ less k key = true := by rw [he, less_irrefl]; simp
       have t0 : Op.bytesLess k.toList key.toList = false := by have := hls; simp only [less] at this; simpa using this
       have HE := hid he
       have HLS := hid hls
       clear he hls
       cases dn with
       | false =>
         have HP : Hid (addGo k by_ (L.take (j + 1)) = (P ++ [(key, vs ++ [newV by_])], true)) := by
           show _ = _
           rw [HSN.out]; unfold addStep; rw [if_neg (fun h => HLS.out h.2), if_pos HE.out]
         have HEM := hid (World.ownsRow_lit (base := wr.heap.size + 1) (e := 78) (size := 4) (wr.alloc (.cells #[.string key, .slice vb vn vc] 115)) #[] 0 (by rw [World.size_alloc]; omega) (by unfold maxLen; omega) rfl)
         rw [World.size_alloc] at HEM
         have HB2 := hid (below_deep HGW.out (grew (wr.alloc (.cells #[.string key, .slice vb vn vc] 115)) (.cells #[] 78)))
         have HV2 := hid ((HVW.out.below (by decide) HBR.out).below (by decide) HB2.out)
         have HX0 := hid (And.intro (box_past (.cells #[] 78) (box_cell wr #[.string key, .slice vb vn vc] 115 0 _ rfl)) (box_past (.cells #[] 78) (box_cell wr #[.string key, .slice vb vn vc] 115 1 _ rfl)))
         have N1 : Hid ((0 + vn) * 24 ≤ 140737488355328) := by show _ ≤ _; omega
         have L2 : Hid (wr.heap.size + 1 ≤ ((wr.alloc (.cells #[.string key, .slice vb vn vc] 115)).alloc (.cells #[] 78)).heap.size) := by show _ ≤ _; rw [World.size_alloc, World.size_alloc]; omega
         have O1 := hid (flatV_one vs)
         go_wp2_with (at_builtin; refine wpList_onto _ rfl _ _ 113 78 4 24 _ Tryz.underlying113 verInfo rfl (by decide) (by decide) rfl (wr.heap.size + 1) _ 0 [] rfl HEM.out vb vn vc (flat verC vs) rfl HV2.out O1.out N1.out L2.out ?_)
         intro v3 w3 hown3 hg3
         have hown3' : w3.ownsRow (wr.heap.size + 1) 78 4 v3 vn (flat verC vs) := by simpa using hown3
         have HE3 := hid hown3'
         have HB3 : Hid (Below (wr.heap.size + 1) (wr.alloc (.cells #[.string key, .slice vb vn vc] 115)) w3) := ((Below.refl _ _).alloc (by rw [World.size_alloc]; omega) _).grown hg3 L2.out (fun a h => (HEM.out.lt a h).1)
         have HB3' := hid (below_deep HGW.out (by have := HB3.out; rw [show wr.heap.size + 1 = (wr.alloc (.cells #[.string key, .slice vb vn vc] 115)).heap.size from (World.size_alloc _ _).symm] at this; exact this))
         have HE4 := hid (HE3.out.alloc (.cells #[.int .i64 by_, .bool false, .bool false, .int .i64 0] 78))
         have HLN4 := hid (lies_one w3 #[.int .i64 by_, .bool false, .bool false, .int .i64 0] 78 4 rfl)
         have N2 : Hid ((vn + 1) * 24 ≤ 140737488355328) := by show _ ≤ _; omega
         have L4 : Hid (wr.heap.size + 1 ≤ (w3.alloc (.cells #[.int .i64 by_, .bool false, .bool false, .int .i64 0] 78)).heap.size) := by show _ ≤ _; rw [World.size_alloc]; have := HB3.out.size; rw [World.size_alloc] at this; omega
         have O2 := hid (verC_one (newV by_))
         have y0 : w3.cell? ⟨wr.heap.size, 0, none⟩ = some (.string key) := by
           rw [HB3.out.cell (p := ⟨wr.heap.size, 0, none⟩) (by simp)]; exact box_cell wr #[.string key, .slice vb vn vc] 115 0 _ rfl
         have y1 : w3.cell? ⟨wr.heap.size, 1, none⟩ = some (.slice vb vn vc) := by
           rw [HB3.out.cell (p := ⟨wr.heap.size, 1, none⟩) (by simp)]; exact box_cell wr #[.string key, .slice vb vn vc] 115 1 _ rfl
         have yf : w3.frozen? ⟨wr.heap.size, 1, none⟩ = false := by
           rw [HB3.out.frozen (p := ⟨wr.heap.size, 1, none⟩) (by simp)]; exact World.frozen?_alloc_at _ _ _ _ rfl
         have HY := hid (And.intro y0 (And.intro y1 yf))
         clear hown3 hg3 hown3' y0 y1 yf HX0
         go_wp2_with (at_builtin; refine wpList_onto _ rfl _ _ 113 78 4 24 _ Tryz.underlying113 verInfo rfl (by decide) (by decide) rfl (wr.heap.size + 1) _ vn (flat verC vs) rfl HE4.out _ 1 _ _ rfl HLN4.out O2.out N2.out L4.out ?_)
         intro v5 w5 hown5 hg5
         have HNE5 : Hid (some wr.heap.size ≠ v3.ownBlock) := fun e => by have := (HE3.out.lt _ e.symm).1; omega
         have x0 := hg5.cell (box_past (.cells #[.int .i64 by_, .bool false, .bool false, .int .i64 0] 78) HY.out.1) HNE5.out
         have x1 := hg5.cell (box_past (.cells #[.int .i64 by_, .bool false, .bool false, .int .i64 0] 78) HY.out.2.1) HNE5.out
         have hxl : wr.heap.size < w5.heap.size := by simpa using World.block_lt_of_cell? _ _ x0
         have xf : w5.frozen? ⟨wr.heap.size, 1, none⟩ = false := by
           have hl3 : wr.heap.size < w3.heap.size := by simpa using World.block_lt_of_cell? _ _ HY.out.1
           rw [World.frozen?_of_block (w := w3) ((hg5.block wr.heap.size (by rw [World.size_alloc]; omega) HNE5.out).trans (Below.heap_alloc w3 _ _ hl3))]
           exact HY.out.2.2
         obtain ⟨b5, c5, rfl, hl5⟩ := Lies.owned hown5
         have HB5 : Hid (Below wr.heap.size wr (w5.setCell ⟨wr.heap.size, 1, none⟩ (.slice b5 (vn + 1) c5))) := by
           have h3 : Below wr.heap.size wr w3 := HB3'.out
           have h5 := (h3.alloc h3.size (.cells #[.int .i64 by_, .bool false, .bool false, .int .i64 0] 78)).grown hg5 (le_box h3.size) (fun a h => by have := (HE3.out.lt a h).1; omega)
           exact h5.setCell (p := ⟨wr.heap.size, 1, none⟩) (Nat.le_refl _) _
         have HOz := hid (owns_keep HO.out HB5.out)
         have HSz := hid (HS.out.below HB5.out)
         have HBz := hid (below_deep HBR.out HB5.out)
         have HSI : Hid (SlotIs (w5.setCell ⟨wr.heap.size, 1, none⟩ (.slice b5 (vn + 1) c5)) w.heap.size 78 (key, b5, vn + 1, c5) (key, vs ++ [newV by_])) := by
           refine own_slot (B := wr.heap.size + 1) rfl HKEZ.out ?_
           have h6 : w5.ownsRow (wr.heap.size + 1) 78 4 (.slice b5 (vn + 1) c5) (vs ++ [newV by_]).length (flat verC (vs ++ [newV by_])) := by
             rw [List.length_append, ← HVC.out, flat_snoc]; exact hown5
           exact ownsRow_setCell_below h6 (a := ⟨wr.heap.size, 1, none⟩) (by simp) _
         have z0 : (w5.setCell ⟨wr.heap.size, 1, none⟩ (.slice b5 (vn + 1) c5)).cell? ⟨wr.heap.size, 0, none⟩ = some (.string key) := by rw [set_off (by decide)]; exact x0
         have z1 : (w5.setCell ⟨wr.heap.size, 1, none⟩ (.slice b5 (vn + 1) c5)).cell? ⟨wr.heap.size, 1, none⟩ = some (.slice b5 (vn + 1) c5) := World.cell?_setCell_same _ _ _ x1
         clear hown5 hg5 hl5
         have HLO := hid (lies_one (w5.setCell ⟨wr.heap.size, 1, none⟩ (.slice b5 (vn + 1) c5)) #[.string key, .slice b5 (vn + 1) c5] 115 2 rfl)
         rw [World.size_setCell] at HLO
         have HGZ := hid (grew (w5.setCell ⟨wr.heap.size, 1, none⟩ (.slice b5 (vn + 1) c5)) (.cells #[.string key, .slice b5 (vn + 1) c5] 115))
         have HOW := hid (owns_keep HOz.out HGZ.out)
         have HSIZ := hid (HSI.out.below HGZ.out)
         have HSE := hid (slotC_one (key, b5, (vn + 1), c5))
         have HBY : Hid ((r + 1) * 40 ≤ 140737488355328) := by show _ ≤ _; omega
         have HSZ := hid (Nat.le_trans HBz.out.size HGZ.out.size)
         go_wp2_with (at_builtin; refine wpList_onto _ rfl _ _ 30 115 2 40 _ Tryz.underlying30 chnInfo rfl (by decide) (by decide) rfl w.heap.size _ _ _ rfl HOW.out _ 1 _ _ rfl HLO.out HSE.out HBY.out HSZ.out ?_)
         intro vz wz hownz hgz
         have HXZ := hid (slot_step HOz.out HSz.out HBz.out HGZ.out HSIZ.out hownz hgz)
         clear hownz hgz
         go_wp2
         go_roundw
         case rel => exact ⟨j + 1, r + 1, true, _, _, by omega, by omega, by go_num, rfl, HP, HXZ.out.1, HXZ.out.2.1, HXZ.out.2.2⟩
         case measure => simp [intOf]; omega
       | true =>
         have HP : Hid (addGo k by_ (L.take (j + 1)) = (P ++ [(key, vs ++ [newV by_])], true)) := by
           show _ = _
           rw [HSN.out]; unfold addStep; rw [if_neg (fun h => HLS.out h.2), if_pos HE.out]
         have HEM := hid (World.ownsRow_lit (base := wr.heap.size + 1) (e := 78) (size := 4) (wr.alloc (.cells #[.string key, .slice vb vn vc] 115)) #[] 0 (by rw [World.size_alloc]; omega) (by unfold maxLen; omega) rfl)
         rw [World.size_alloc] at HEM
         have HB2 := hid (below_deep HGW.out (grew (wr.alloc (.cells #[.string key, .slice vb vn vc] 115)) (.cells #[] 78)))
         have HV2 := hid ((HVW.out.below (by decide) HBR.out).below (by decide) HB2.out)
         have HX0 := hid (And.intro (box_past (.cells #[] 78) (box_cell wr #[.string key, .slice vb vn vc] 115 0 _ rfl)) (box_past (.cells #[] 78) (box_cell wr #[.string key, .slice vb vn vc] 115 1 _ rfl)))
         have N1 : Hid ((0 + vn) * 24 ≤ 140737488355328) := by show _ ≤ _; omega
         have L2 : Hid (wr.heap.size + 1 ≤ ((wr.alloc (.cells #[.string key, .slice vb vn vc] 115)).alloc (.cells #[] 78)).heap.size) := by show _ ≤ _; rw [World.size_alloc, World.size_alloc]; omega
         have O1 := hid (flatV_one vs)
         go_wp2_with (at_builtin; refine wpList_onto _ rfl _ _ 113 78 4 24 _ Tryz.underlying113 verInfo rfl (by decide) (by decide) rfl (wr.heap.size + 1) _ 0 [] rfl HEM.out vb vn vc (flat verC vs) rfl HV2.out O1.out N1.out L2.out ?_)
         intro v3 w3 hown3 hg3
         have hown3' : w3.ownsRow (wr.heap.size + 1) 78 4 v3 vn (flat verC vs) := by simpa using hown3
         have HE3 := hid hown3'
         have HB3 : Hid (Below (wr.heap.size + 1) (wr.alloc (.cells #[.string key, .slice vb vn vc] 115)) w3) := ((Below.refl _ _).alloc (by rw [World.size_alloc]; omega) _).grown hg3 L2.out (fun a h => (HEM.out.lt a h).1)
         have HB3' := hid (below_deep HGW.out (by have := HB3.out; rw [show wr.heap.size + 1 = (wr.alloc (.cells #[.string key, .slice vb vn vc] 115)).heap.size from (World.size_alloc _ _).symm] at this; exact this))
         have HE4 := hid (HE3.out.alloc (.cells #[.int .i64 by_, .bool false, .bool false, .int .i64 0] 78))
         have HLN4 := hid (lies_one w3 #[.int .i64 by_, .bool false, .bool false, .int .i64 0] 78 4 rfl)
         have N2 : Hid ((vn + 1) * 24 ≤ 140737488355328) := by show _ ≤ _; omega
         have L4 : Hid (wr.heap.size + 1 ≤ (w3.alloc (.cells #[.int .i64 by_, .bool false, .bool false, .int .i64 0] 78)).heap.size) := by show _ ≤ _; rw [World.size_alloc]; have := HB3.out.size; rw [World.size_alloc] at this; omega
         have O2 := hid (verC_one (newV by_))
         have y0 : w3.cell? ⟨wr.heap.size, 0, none⟩ = some (.string key) := by
           rw [HB3.out.cell (p := ⟨wr.heap.size, 0, none⟩) (by simp)]; exact box_cell wr #[.string key, .slice vb vn vc] 115 0 _ rfl
         have y1 : w3.cell? ⟨wr.heap.size, 1, none⟩ = some (.slice vb vn vc) := by
           rw [HB3.out.cell (p := ⟨wr.heap.size, 1, none⟩) (by simp)]; exact box_cell wr #[.string key, .slice vb vn vc] 115 1 _ rfl
         have yf : w3.frozen? ⟨wr.heap.size, 1, none⟩ = false := by
           rw [HB3.out.frozen (p := ⟨wr.heap.size, 1, none⟩) (by simp)]; exact World.frozen?_alloc_at _ _ _ _ rfl
         have HY := hid (And.intro y0 (And.intro y1 yf))
         clear hown3 hg3 hown3' y0 y1 yf HX0
         go_wp2_with (at_builtin; refine wpList_onto _ rfl _ _ 113 78 4 24 _ Tryz.underlying113 verInfo rfl (by decide) (by decide) rfl (wr.heap.size + 1) _ vn (flat verC vs) rfl HE4.out _ 1 _ _ rfl HLN4.out O2.out N2.out L4.out ?_)
         intro v5 w5 hown5 hg5
         have HNE5 : Hid (some wr.heap.size ≠ v3.ownBlock) := fun e => by have := (HE3.out.lt _ e.symm).1; omega
         have x0 := hg5.cell (box_past (.cells #[.int .i64 by_, .bool false, .bool false, .int .i64 0] 78) HY.out.1) HNE5.out
         have x1 := hg5.cell (box_past (.cells #[.int .i64 by_, .bool false, .bool false, .int .i64 0] 78) HY.out.2.1) HNE5.out
         have hxl : wr.heap.size < w5.heap.size := by simpa using World.block_lt_of_cell? _ _ x0
         have xf : w5.frozen? ⟨wr.heap.size, 1, none⟩ = false := by
           have hl3 : wr.heap.size < w3.heap.size := by simpa using World.block_lt_of_cell? _ _ HY.out.1
           rw [World.frozen?_of_block (w := w3) ((hg5.block wr.heap.size (by rw [World.size_alloc]; omega) HNE5.out).trans (Below.heap_alloc w3 _ _ hl3))]
           exact HY.out.2.2
         obtain ⟨b5, c5, rfl, hl5⟩ := Lies.owned hown5
         have HB5 : Hid (Below wr.heap.size wr (w5.setCell ⟨wr.heap.size, 1, none⟩ (.slice b5 (vn + 1) c5))) := by
           have h3 : Below wr.heap.size wr w3 := HB3'.out
           have h5 := (h3.alloc h3.size (.cells #[.int .i64 by_, .bool false, .bool false, .int .i64 0] 78)).grown hg5 (le_box h3.size) (fun a h => by have := (HE3.out.lt a h).1; omega)
           exact h5.setCell (p := ⟨wr.heap.size, 1, none⟩) (Nat.le_refl _) _
         have HOz := hid (owns_keep HO.out HB5.out)
         have HSz := hid (HS.out.below HB5.out)
         have HBz := hid (below_deep HBR.out HB5.out)
         have HSI : Hid (SlotIs (w5.setCell ⟨wr.heap.size, 1, none⟩ (.slice b5 (vn + 1) c5)) w.heap.size 78 (key, b5, vn + 1, c5) (key, vs ++ [newV by_])) := by
           refine own_slot (B := wr.heap.size + 1) rfl HKEZ.out ?_
           have h6 : w5.ownsRow (wr.heap.size + 1) 78 4 (.slice b5 (vn + 1) c5) (vs ++ [newV by_]).length (flat verC (vs ++ [newV by_])) := by
             rw [List.length_append, ← HVC.out, flat_snoc]; exact hown5
           exact ownsRow_setCell_below h6 (a := ⟨wr.heap.size, 1, none⟩) (by simp) _
         have z0 : (w5.setCell ⟨wr.heap.size, 1, none⟩ (.slice b5 (vn + 1) c5)).cell? ⟨wr.heap.size, 0, none⟩ = some (.string key) := by rw [set_off (by decide)]; exact x0
         have z1 : (w5.setCell ⟨wr.heap.size, 1, none⟩ (.slice b5 (vn + 1) c5)).cell? ⟨wr.heap.size, 1, none⟩ = some (.slice b5 (vn + 1) c5) := World.cell?_setCell_same _ _ _ x1
         clear hown5 hg5 hl5
         have HLO := hid (lies_one (w5.setCell ⟨wr.heap.size, 1, none⟩ (.slice b5 (vn + 1) c5)) #[.string key, .slice b5 (vn + 1) c5] 115 2 rfl)
         rw [World.size_setCell] at HLO
         have HGZ := hid (grew (w5.setCell ⟨wr.heap.size, 1, none⟩ (.slice b5 (vn + 1) c5)) (.cells #[.string key, .slice b5 (vn + 1) c5] 115))
         have HOW := hid (owns_keep HOz.out HGZ.out)
         have HSIZ := hid (HSI.out.below HGZ.out)
         have HSE := hid (slotC_one (key, b5, (vn + 1), c5))
         have HBY : Hid ((r + 1) * 40 ≤ 140737488355328) := by show _ ≤ _; omega
         have HSZ := hid (Nat.le_trans HBz.out.size HGZ.out.size)
         go_wp2_with (at_builtin; refine wpList_onto _ rfl _ _ 30 115 2 40 _ Tryz.underlying30 chnInfo rfl (by decide) (by decide) rfl w.heap.size _ _ _ rfl HOW.out _ 1 _ _ rfl HLO.out HSE.out HBY.out HSZ.out ?_)
         intro vz wz hownz hgz
         have HXZ := hid (slot_step HOz.out HSz.out HBz.out HGZ.out HSIZ.out hownz hgz)
         clear hownz hgz
         go_wp2
         go_roundw
         case rel => exact ⟨j + 1, r + 1, true, _, _, by omega, by omega, by go_num, rfl, HP, HXZ.out.1, HXZ.out.2.1, HXZ.out.2.2⟩
         case measure => simp [intOf]; omega
     · have t1 : (key.toList == k.toList) = false := by simpa using fun e => he (toList_inj e)
       cases dn with
       | true =>
         have HP : Hid (addGo k by_ (L.take (j + 1)) = (P ++ [(key, vs)], true)) := by
           show _ = _
           rw [HSN.out]; unfold addStep; rw [if_neg (fun h => by cases h.1), if_neg he]
         have HOz := hid (owns_keep HO.out HGW.out)
         have HSz := hid (HS.out.below HGW.out)
         have HBz := hid (below_deep HBR.out HGW.out)
         have HSI := hid (HOS.out _ HBz.out)
         have HLO := hid (lies_one (wr.alloc (.cells #[.string key, .slice vb vn vc] 115)) #[.string key, .slice vb vn vc] 115 2 rfl)
         rw [World.size_alloc] at HLO
         have HGZ := hid (grew (wr.alloc (.cells #[.string key, .slice vb vn vc] 115)) (.cells #[.string key, .slice vb vn vc] 115))
         have HOW := hid (owns_keep HOz.out HGZ.out)
         have HSIZ := hid (HSI.out.below HGZ.out)
         have HSE := hid (slotC_one (key, vb, vn, vc))
         have HBY : Hid ((r + 1) * 40 ≤ 140737488355328) := by show _ ≤ _; omega
         have HSZ := hid (Nat.le_trans HBz.out.size HGZ.out.size)
         go_wp2_with (at_builtin; refine wpList_onto _ rfl _ _ 30 115 2 40 _ Tryz.underlying30 chnInfo rfl (by decide) (by decide) rfl w.heap.size _ _ _ rfl HOW.out _ 1 _ _ rfl HLO.out HSE.out HBY.out HSZ.out ?_)
         intro vz wz hownz hgz
         have HXZ := hid (slot_step HOz.out HSz.out HBz.out HGZ.out HSIZ.out hownz hgz)
         clear hownz hgz
         go_wp2
         go_roundw
         case rel => exact ⟨j + 1, r + 1, true, _, _, by omega, by omega, by go_num, rfl, HP, HXZ.out.1, HXZ.out.2.1, HXZ.out.2.2⟩
         case measure => simp [intOf]; omega
       | false =>
         by_cases hls : less k key = true
         · have t0 : Op.bytesLess k.toList key.toList = true := hls
           have t2 : Op.bytesLess key.toList k.toList = false := less_asymm hls
           have HP : Hid (addGo k by_ (L.take (j + 1)) = (P ++ [(k, [newV by_])] ++ [(key, vs)], true)) := by
             show _ = _
             rw [HSN.out]; unfold addStep; rw [if_pos ⟨rfl, hls⟩, if_neg he]
           have HSK := hid (one_slot (wr.alloc (.cells #[.string key, .slice vb vn vc] 115)) w.heap.size HKZ.out by_ false false 0)
           rw [World.size_alloc] at HSK
           have HB2 := hid (below_deep HGW.out (grew (wr.alloc (.cells #[.string key, .slice vb vn vc] 115)) (.cells #[.int .i64 by_, .bool false, .bool false, .int .i64 0] 78)))
           have HLO2 := hid (lies_one ((wr.alloc (.cells #[.string key, .slice vb vn vc] 115)).alloc (.cells #[.int .i64 by_, .bool false, .bool false, .int .i64 0] 78)) #[.string k, .slice (some ⟨wr.heap.size + 1, 0, none⟩) 1 1] 115 2 rfl)
           rw [World.size_alloc, World.size_alloc] at HLO2
           have HB3 := hid (below_deep HB2.out (grew ((wr.alloc (.cells #[.string key, .slice vb vn vc] 115)).alloc (.cells #[.int .i64 by_, .bool false, .bool false, .int .i64 0] 78)) (.cells #[.string k, .slice (some ⟨wr.heap.size + 1, 0, none⟩) 1 1] 115)))
           have HSK3 := hid (HSK.out.below (grew ((wr.alloc (.cells #[.string key, .slice vb vn vc] 115)).alloc (.cells #[.int .i64 by_, .bool false, .bool false, .int .i64 0] 78)) (.cells #[.string k, .slice (some ⟨wr.heap.size + 1, 0, none⟩) 1 1] 115)))
           have HOW2 := hid (owns_keep HO.out HB3.out)
           have HSE2 := hid (slotC_one (k, some ⟨wr.heap.size + 1, 0, none⟩, 1, 1))
           have HBY2 : Hid ((r + 1) * 40 ≤ 140737488355328) := by show _ ≤ _; omega
           have HSZ2 := hid (Nat.le_trans HBR.out.size HB3.out.size)
           go_wp2_with (at_builtin; refine wpList_onto _ rfl _ _ 30 115 2 40 _ Tryz.underlying30 chnInfo rfl (by decide) (by decide) rfl w.heap.size _ r (flat slotC S) rfl HOW2.out _ 1 _ _ rfl HLO2.out HSE2.out HBY2.out HSZ2.out ?_)
           intro v2 w2 hown2 hg2
           have x0 : w2.cell? ⟨wr.heap.size, 0, none⟩ = some (.string key) := hg2.cell (kept_cell (below_deep (grew (wr.alloc (.cells #[.string key, .slice vb vn vc] 115)) (.cells #[.int .i64 by_, .bool false, .bool false, .int .i64 0] 78)) (grew ((wr.alloc (.cells #[.string key, .slice vb vn vc] 115)).alloc (.cells #[.int .i64 by_, .bool false, .bool false, .int .i64 0] 78)) (.cells #[.string k, .slice (some ⟨wr.heap.size + 1, 0, none⟩) 1 1] 115))) (box_cell wr #[.string key, .slice vb vn vc] 115 0 _ rfl)) HNE.out
           have x1 : w2.cell? ⟨wr.heap.size, 1, none⟩ = some (.slice vb vn vc) := hg2.cell (kept_cell (below_deep (grew (wr.alloc (.cells #[.string key, .slice vb vn vc] 115)) (.cells #[.int .i64 by_, .bool false, .bool false, .int .i64 0] 78)) (grew ((wr.alloc (.cells #[.string key, .slice vb vn vc] 115)).alloc (.cells #[.int .i64 by_, .bool false, .bool false, .int .i64 0] 78)) (.cells #[.string k, .slice (some ⟨wr.heap.size + 1, 0, none⟩) 1 1] 115))) (box_cell wr #[.string key, .slice vb vn vc] 115 1 _ rfl)) HNE.out
           have hxl : wr.heap.size < w2.heap.size := by simpa using World.block_lt_of_cell? _ _ x0
           have HX2 := hid (slot_step HO.out HS.out HBR.out HB3.out HSK3.out hown2 hg2)
           have HOz := hid HX2.out.1
           have HSz := hid HX2.out.2.1
           have HBz := hid HX2.out.2.2
           have HSI := hid (HOS.out _ HBz.out)
           clear hown2 hg2 HX2
           have HLO := hid (lies_one w2 #[.string key, .slice vb vn vc] 115 2 rfl)
           have HGZ := hid (grew w2 (.cells #[.string key, .slice vb vn vc] 115))
           have HOW := hid (owns_keep HOz.out HGZ.out)
           have HSIZ := hid (HSI.out.below HGZ.out)
           have HSE := hid (slotC_one (key, vb, vn, vc))
           have HBY : Hid ((r + 1 + 1) * 40 ≤ 140737488355328) := by show _ ≤ _; omega
           have HSZ := hid (Nat.le_trans HBz.out.size HGZ.out.size)
           go_wp2_with (at_builtin; refine wpList_onto _ rfl _ _ 30 115 2 40 _ Tryz.underlying30 chnInfo rfl (by decide) (by decide) rfl w.heap.size _ _ _ rfl HOW.out _ 1 _ _ rfl HLO.out HSE.out HBY.out HSZ.out ?_)
           intro vz wz hownz hgz
           have HXZ := hid (slot_step HOz.out HSz.out HBz.out HGZ.out HSIZ.out hownz hgz)
           clear hownz hgz
           go_wp2
           go_roundw
           case rel => exact ⟨j + 1, r + 1 + 1, true, _, _, by omega, by omega, by go_num, rfl, HP, HXZ.out.1, HXZ.out.2.1, HXZ.out.2.2⟩
           case measure => simp [intOf]; omega
         · have t0 : Op.bytesLess k.toList key.toList = false := by have := hls; simp only [less] at this; simpa using this
           have t2 : Op.bytesLess key.toList k.toList = true := by
             rcases less_cases key k with g | g | g
             · exact g
             · exact absurd g he
             · exact absurd g hls
           have HP : Hid (addGo k by_ (L.take (j + 1)) = (P ++ [(key, vs)], false)) := by
             show _ = _
             rw [HSN.out]; unfold addStep; rw [if_neg (fun h => hls h.2), if_neg he]
           have HOz := hid (owns_keep HO.out HGW.out)
           have HSz := hid (HS.out.below HGW.out)
           have HBz := hid (below_deep HBR.out HGW.out)
           have HSI := hid (HOS.out _ HBz.out)
           have HLO := hid (lies_one (wr.alloc (.cells #[.string key, .slice vb vn vc] 115)) #[.string key, .slice vb vn vc] 115 2 rfl)
           rw [World.size_alloc] at HLO
           have HGZ := hid (grew (wr.alloc (.cells #[.string key, .slice vb vn vc] 115)) (.cells #[.string key, .slice vb vn vc] 115))
           have HOW := hid (owns_keep HOz.out HGZ.out)
           have HSIZ := hid (HSI.out.below HGZ.out)
           have HSE := hid (slotC_one (key, vb, vn, vc))
           have HBY : Hid ((r + 1) * 40 ≤ 140737488355328) := by show _ ≤ _; omega
           have HSZ := hid (Nat.le_trans HBz.out.size HGZ.out.size)
           go_wp2_with (at_builtin; refine wpList_onto _ rfl _ _ 30 115 2 40 _ Tryz.underlying30 chnInfo rfl (by decide) (by decide) rfl w.heap.size _ _ _ rfl HOW.out _ 1 _ _ rfl HLO.out HSE.out HBY.out HSZ.out ?_)
           intro vz wz hownz hgz
           have HXZ := hid (slot_step HOz.out HSz.out HBz.out HGZ.out HSIZ.out hownz hgz)
           clear hownz hgz
           go_wp2
           go_roundw
           case rel => exact ⟨j + 1, r + 1, false, _, _, by omega, by omega, by go_num, rfl, HP, HXZ.out.1, HXZ.out.2.1, HXZ.out.2.2⟩
           case measure => simp [intOf]; omega
   · obtain rfl : j = n := by omega
     have HG2 : Hid (addGo k by_ L = (P, dn)) := by
       have := HG.out
       rw [List.take_of_length_le (by rw [← HLN.out]; exact Nat.le_refl _)] at this
       exact this
     rw [HG2.out] at HFIN
     cases dn with
     | true =>
       have HC : Hid (P = addC k by_ L) := HFIN.out
       obtain ⟨b2, c2, rfl, hl2⟩ := Lies.owned HO.out
       have HCH := hid (chains_of_slots hl2 HS.out)
       clear hl2
       go_wp2
       go_ret
       exact ⟨_, _, _, rfl, by rw [← HC.out]; exact HCH.out, HBR.out⟩
     | false =>
       have HC : Hid (P ++ [(k, [newV by_])] = addC k by_ L) := HFIN.out
       have HSK := hid (one_slot wr w.heap.size HKZ.out by_ false false 0)
       have HLO := hid (lies_one (wr.alloc (.cells #[.int .i64 by_, .bool false, .bool false, .int .i64 0] 78)) #[.string k, .slice (some ⟨wr.heap.size, 0, none⟩) 1 1] 115 2 rfl)
       rw [World.size_alloc] at HLO
       have HB2 := hid (below_deep (grew wr (.cells #[.int .i64 by_, .bool false, .bool false, .int .i64 0] 78)) (grew (wr.alloc (.cells #[.int .i64 by_, .bool false, .bool false, .int .i64 0] 78)) (.cells #[.string k, .slice (some ⟨wr.heap.size, 0, none⟩) 1 1] 115)))
       have HSK3 := hid (HSK.out.below (grew (wr.alloc (.cells #[.int .i64 by_, .bool false, .bool false, .int .i64 0] 78)) (.cells #[.string k, .slice (some ⟨wr.heap.size, 0, none⟩) 1 1] 115)))
       have HOW := hid (owns_keep HO.out HB2.out)
       have HSE := hid (slotC_one (k, some ⟨wr.heap.size, 0, none⟩, 1, 1))
       have HBY : Hid ((r + 1) * 40 ≤ 140737488355328) := by show _ ≤ _; omega
       have HSZ := hid (Nat.le_trans HBR.out.size HB2.out.size)
       go_wp2_with (at_builtin; refine wpList_onto _ rfl _ _ 30 115 2 40 _ Tryz.underlying30 chnInfo rfl (by decide) (by decide) rfl w.heap.size _ r (flat slotC S) rfl HOW.out _ 1 _ _ rfl HLO.out HSE.out HBY.out HSZ.out ?_)
       intro v2 w2 hown2 hg2
       have HX := hid (slot_step HO.out HS.out HBR.out HB2.out HSK3.out hown2 hg2)
       clear hown2 hg2
       obtain ⟨b2, c2, rfl, hl2⟩ := Lies.owned HX.out.1
       have HCH := hid (chains_of_slots hl2 HX.out.2.1)
       clear hl2
       go_wp2
       go_ret
       exact ⟨_, _, _, rfl, by rw [← HC.out]; exact HCH.out, HX.out.2.2⟩
end Go.Proofs.YtlhaeeenkgkdaaaGreatDoor

namespace Go.Proofs.YtlhaeeenkgkdaaaGreatDoor
open Go.RowKit

theorem Box.cells5 {w : World} {b : Nat} {t : TypeId} {v0 v1 v2 v3 v4 : Value} (h : Box w b #[v0, v1, v2, v3, v4] t) :
   w.cell? ⟨b, 0, none⟩ = some v0 ∧ w.cell? ⟨b, 1, none⟩ = some v1 ∧ w.cell? ⟨b, 2, none⟩ = some v2 ∧ w.cell? ⟨b, 3, none⟩ = some v3 ∧ w.cell? ⟨b, 4, none⟩ = some v4 :=
 ⟨h.cell 0 _ rfl, h.cell 1 _ rfl, h.cell 2 _ rfl, h.cell 3 _ rfl, h.cell 4 _ rfl⟩
theorem Box.free5 {w : World} {b : Nat} {t : TypeId} {cs : Array Value} (h : Box w b cs t) :
   w.frozen? ⟨b, 0, none⟩ = false ∧ w.frozen? ⟨b, 1, none⟩ = false ∧ w.frozen? ⟨b, 2, none⟩ = false ∧ w.frozen? ⟨b, 3, none⟩ = false ∧ w.frozen? ⟨b, 4, none⟩ = false :=
 ⟨h.free 0, h.free 1, h.free 2, h.free 3, h.free 4⟩
def put5 (w : World) (b : Nat) (v0 v1 v2 v3 v4 : Value) : World :=
 ((((w.setCell ⟨b, 0, none⟩ v0).setCell ⟨b, 1, none⟩ v1).setCell ⟨b, 2, none⟩ v2).setCell ⟨b, 3, none⟩ v3).setCell ⟨b, 4, none⟩ v4
theorem put5_off (w : World) (b : Nat) (v0 v1 v2 v3 v4 : Value) : Off b w (put5 w b v0 v1 v2 v3 v4) :=
 ((((Off.set _ _ _ _).trans (Off.set _ _ _ _)).trans (Off.set _ _ _ _)).trans (Off.set _ _ _ _)).trans (Off.set _ _ _ _)
theorem put5_box {w : World} {b : Nat} {t : TypeId} {u0 u1 u2 u3 u4 : Value} (h : Box w b #[u0, u1, u2, u3, u4] t) (v0 v1 v2 v3 v4 : Value) : Box (put5 w b v0 v1 v2 v3 v4) b #[v0, v1, v2, v3, v4] t := by
 have := ((((h.set 0 v0).set 1 v1).set 2 v2).set 3 v3).set 4 v4
 exact this
theorem put5_below {w0 w : World} {B b : Nat} (h : Below B w0 w) (hb : B ≤ b) (v0 v1 v2 v3 v4 : Value) : Below B w0 (put5 w b v0 v1 v2 v3 v4) :=
 ((((h.setCell (p := ⟨b, 0, none⟩) hb _).setCell (p := ⟨b, 1, none⟩) hb _).setCell (p := ⟨b, 2, none⟩) hb _).setCell (p := ⟨b, 3, none⟩) hb _).setCell (p := ⟨b, 4, none⟩) hb _
theorem put5_far {w : World} {b b' : Nat} {cs : Array Value} {t : TypeId} (h : Box w b' cs t) (hne : b' ≠ b) (v0 v1 v2 v3 v4 : Value) : Box (put5 w b v0 v1 v2 v3 v4) b' cs t :=
 ((((h.far ⟨b, 0, none⟩ hne _).far ⟨b, 1, none⟩ hne _).far ⟨b, 2, none⟩ hne _).far ⟨b, 3, none⟩ hne _).far ⟨b, 4, none⟩ hne _
theorem box_off {w w' : World} {b b' : Nat} {cs : Array Value} {t : TypeId} (h : Box w b' cs t) (ho : Off b w w') (hne : b' ≠ b) : Box w' b' cs t := (ho.block b' h.lt hne).trans h
theorem owns_off {w w' : World} {b B e s n : Nat} {v : Value} {xs : List Value} (h : w.ownsRow B e s v n xs) (ho : Off b w w') (hne : some b ≠ v.ownBlock) : w'.ownsRow B e s v n xs := by
 refine ⟨h.1, h.2.imp id ?_⟩
 rintro ⟨g, cap, cur, rfl, hb, hg, rest⟩
 refine ⟨g, cap, cur, rfl, hb, ?_, rest⟩
 exact (ho.block g (Array.getElem?_eq_some_iff.1 hg).1 (fun e => hne (by rw [← e]; rfl))).trans hg
theorem own_ne {w : World} {b B e s n : Nat} {v : Value} {xs : List Value} {cs : Array Value} {t : TypeId} (h : w.ownsRow B e s v n xs) (hb : Box w b cs t) (hne : t ≠ e) : some b ≠ v.ownBlock :=
 own_apart h (.inr ⟨cs, _, hb⟩) hne
theorem SlotsAre.off0 {w w' : World} {b : Nat} {cs : Array Value} {t : TypeId} {S : List Slot} {L : List Chn} (h : SlotsAre w 0 78 S L) (hb : Box w b cs t) (h2 : 78 ≠ t) (ho : Off b w w') : SlotsAre w' 0 78 S L := by
 refine ⟨h.1, fun i hi => ?_⟩
 obtain ⟨e1, e2, e3, e4⟩ := h.2 i hi
 rcases e3 with e3 | e3 | e3
 · exact ⟨e1, Lies.off e2 ho (.inl e3), .inl e3, e4⟩
 · refine ⟨e1, Lies.off e2 ho (.inr fun a ha => absurd (e3 a ha) (Nat.not_lt_zero _)), .inr (.inl e3), e4⟩
 · exact ⟨e1, Lies.off e2 ho (.inr (kind_ne hb e3 h2)), .inr (.inr (e3.off ho (kind_ne hb e3 h2))), e4⟩
theorem put_deeds {w wr w2 : World} {cb db sb eb : Option Addr} {B b0 b1 cn cc dn dc sn sc en ec : Nat} {bs : Int} {e : Eng} {zs : Array Value} {zt : TypeId} {T : List DSlot} {s : DSlot} {d : Deed3} {vb : Option Addr} {n vc : Nat} (HX : Box wr b0 #[.slice cb cn cc, .slice db dn dc, .slice sb sn sc, .slice eb en ec, .int .i64 bs] 33) (HL : EngLies wr cb cn cc db dn dc sb sn sc eb en ec e) (HZ : Box wr b1 zs zt) (hne : b1 ≠ b0) (HB : Below B w wr) (hB : B ≤ b0) (hb : Below wr.heap.size wr w2)
   (HT : DSlotsAre wr T e.deeds) (HS : DSlotIs wr s d) (ho : w2.ownsRow wr.heap.size 44 3 (.slice vb n vc) n (flat dslotC T ++ dslotC s)) :
   Box (w2.setCell ⟨b0, 1, none⟩ (.slice vb n vc)) b0 #[.slice cb cn cc, .slice vb n vc, .slice sb sn sc, .slice eb en ec, .int .i64 bs] 33 ∧ EngLies (w2.setCell ⟨b0, 1, none⟩ (.slice vb n vc)) cb cn cc vb n vc sb sn sc eb en ec ⟨e.chains, e.deeds ++ [d], e.state, e.ends, e.base⟩ ∧ Box (w2.setCell ⟨b0, 1, none⟩ (.slice vb n vc)) b1 zs zt ∧ Below B w (w2.setCell ⟨b0, 1, none⟩ (.slice vb n vc)) := by
 have hl : Lies w2 3 vb n vc (flat dslotC (T ++ [s])) := by
   rw [flat_snoc]
   obtain ⟨b', c', e', h⟩ := Lies.owned ho
   simp only [Value.slice.injEq, true_and] at e'
   obtain ⟨e1, e2⟩ := e'
   rw [e1, e2]; exact h
 have hL := HL.below hb
 have h2 : EngLies w2 cb cn cc vb n vc sb sn sc eb en ec ⟨e.chains, e.deeds ++ [d], e.state, e.ends, e.base⟩ :=
   ⟨hL.ch, deeds_of_slots hl ((HT.below hb).snoc (HS.below hb)), hL.st, hL.en, Kind.owned ho, hL.sk, hL.ek⟩
 exact ⟨(HX.below hb).set 1 _, h2.put (HX.below hb) (Off.set _ _ _ _), (HZ.below hb).far ⟨b0, 1, none⟩ hne _, (HB.trans (hb.mono (Nat.le_trans hB (Nat.le_of_lt HX.lt)))).setCell (p := ⟨b0, 1, none⟩) hB _⟩
theorem put_state {w wr w2 : World} {cb db sb eb : Option Addr} {B b0 b1 cn cc dn dc sn sc en ec : Nat} {bs : Int} {e : Eng} {zs : Array Value} {zt : TypeId} {S : List Int} {vb : Option Addr} {n vc : Nat} (HX : Box wr b0 #[.slice cb cn cc, .slice db dn dc, .slice sb sn sc, .slice eb en ec, .int .i64 bs] 33) (HL : EngLies wr cb cn cc db dn dc sb sn sc eb en ec e) (HZ : Box wr b1 zs zt) (hne : b1 ≠ b0) (HB : Below B w wr) (hB : B ≤ b0) (hb : Below wr.heap.size wr w2)
   (ho : w2.ownsRow wr.heap.size 3 1 (.slice vb n vc) n (intsC S)) :
   Box (w2.setCell ⟨b0, 2, none⟩ (.slice vb n vc)) b0 #[.slice cb cn cc, .slice db dn dc, .slice vb n vc, .slice eb en ec, .int .i64 bs] 33 ∧ EngLies (w2.setCell ⟨b0, 2, none⟩ (.slice vb n vc)) cb cn cc db dn dc vb n vc eb en ec ⟨e.chains, e.deeds, S, e.ends, e.base⟩ ∧ Box (w2.setCell ⟨b0, 2, none⟩ (.slice vb n vc)) b1 zs zt ∧ Below B w (w2.setCell ⟨b0, 2, none⟩ (.slice vb n vc)) := by
 have hl : Ints w2 vb n vc S := by
   obtain ⟨b', c', e', h⟩ := Lies.owned ho
   simp only [Value.slice.injEq, true_and] at e'
   obtain ⟨e1, e2⟩ := e'
   rw [e1, e2]; exact h
 have hL := HL.below hb
 have h2 : EngLies w2 cb cn cc db dn dc vb n vc eb en ec ⟨e.chains, e.deeds, S, e.ends, e.base⟩ :=
   ⟨hL.ch, hL.de, hl, hL.en, hL.dk, Kind.owned ho, hL.ek⟩
 exact ⟨(HX.below hb).set 2 _, h2.put (HX.below hb) (Off.set _ _ _ _), (HZ.below hb).far ⟨b0, 2, none⟩ hne _, (HB.trans (hb.mono (Nat.le_trans hB (Nat.le_of_lt HX.lt)))).setCell (p := ⟨b0, 2, none⟩) hB _⟩
theorem put_ends {w wr w2 : World} {cb db sb eb : Option Addr} {B b0 b1 cn cc dn dc sn sc en ec : Nat} {bs : Int} {e : Eng} {zs : Array Value} {zt : TypeId} {E : List End3} {vb : Option Addr} {n vc : Nat} (HX : Box wr b0 #[.slice cb cn cc, .slice db dn dc, .slice sb sn sc, .slice eb en ec, .int .i64 bs] 33) (HL : EngLies wr cb cn cc db dn dc sb sn sc eb en ec e) (HZ : Box wr b1 zs zt) (hne : b1 ≠ b0) (HB : Below B w wr) (hB : B ≤ b0) (hb : Below wr.heap.size wr w2)
   (ho : w2.ownsRow wr.heap.size 83 5 (.slice vb n vc) n (endCells E)) :
   Box (w2.setCell ⟨b0, 3, none⟩ (.slice vb n vc)) b0 #[.slice cb cn cc, .slice db dn dc, .slice sb sn sc, .slice vb n vc, .int .i64 bs] 33 ∧ EngLies (w2.setCell ⟨b0, 3, none⟩ (.slice vb n vc)) cb cn cc db dn dc sb sn sc vb n vc ⟨e.chains, e.deeds, e.state, E, e.base⟩ ∧ Box (w2.setCell ⟨b0, 3, none⟩ (.slice vb n vc)) b1 zs zt ∧ Below B w (w2.setCell ⟨b0, 3, none⟩ (.slice vb n vc)) := by
 have hl : Ends w2 vb n vc E := by
   obtain ⟨b', c', e', h⟩ := Lies.owned ho
   simp only [Value.slice.injEq, true_and] at e'
   obtain ⟨e1, e2⟩ := e'
   rw [e1, e2]; exact h
 have hL := HL.below hb
 have h2 : EngLies w2 cb cn cc db dn dc sb sn sc vb n vc ⟨e.chains, e.deeds, e.state, E, e.base⟩ :=
   ⟨hL.ch, hL.de, hL.st, hl, hL.dk, hL.sk, Kind.owned ho⟩
 exact ⟨(HX.below hb).set 3 _, h2.put (HX.below hb) (Off.set _ _ _ _), (HZ.below hb).far ⟨b0, 3, none⟩ hne _, (HB.trans (hb.mono (Nat.le_trans hB (Nat.le_of_lt HX.lt)))).setCell (p := ⟨b0, 3, none⟩) hB _⟩
end Go.Proofs.YtlhaeeenkgkdaaaGreatDoor

namespace Go.Proofs.YtlhaeeenkgkdaaaGreatDoor
open Go.RowKit

def EngTold (w w' : World) (e : Eng) (x : Ending) : Prop := ∃ v, x = .returned v ∧ EngIn w' v e ∧ Below w.heap.size w w'
end Go.Proofs.YtlhaeeenkgkdaaaGreatDoor
