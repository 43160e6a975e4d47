/-
  The document's own Set and Clear, walked.
  own and with of the program: a copy of rows, and rows in which keys have what was made.
  Do of the program: a right deed, done on right rows; and the document's own, told the same way.
  All of the program: right deeds, one by one, on right rows.
  The document's own Right, All and SameEnds, walked.
  Writes in two blocks may be done either way about; rows under a write elsewhere.
-/
import Derived.Test.YtlhaeeenkgkdaaaGreatDoorRefNew
import Derived.Test.YtlhaeeenkgkdaaaGreatDoorRefRight
import Derived.Test.YtlhaeeenkgkdaaaGreatDoorChainsIn
import Derived.Deep.DeepCutAuto
import Derived.Test.YtlhaeeenkgkdaaaGreatDoorDeedTurn
import Derived.Test.YtlhaeeenkgkdaaaGreatDoorRefPut
import Derived.Test.YtlhaeeenkgkdaaaGreatDoorChainFind
import Derived.Test.YtlhaeeenkgkdaaaGreatDoorOpenDeeds
import Derived.Test.YtlhaeeenkgkdaaaGreatDoorDeedRun
import Derived.Test.YtlhaeeenkgkdaaaGreatDoorRefDo
import Derived.Test.YtlhaeeenkgkdaaaGreatDoorChainAt
import Derived.Test.YtlhaeeenkgkdaaaGreatDoorRefWrong
namespace Go.Proofs.YtlhaeeenkgkdaaaGreatDoor
open Go.RowKit

structure XRow (A wr : World) (key : ByteArray) (v : Value) (l : List Ver) : Prop where
 c0 : wr.cell? ⟨A.heap.size, 0, none⟩ = some (.string key)
 c1 : wr.cell? ⟨A.heap.size, 1, none⟩ = some v
 f1 : wr.frozen? ⟨A.heap.size, 1, none⟩ = false
 own : OwnsV wr (A.heap.size + 1) v l
 bel : Below A.heap.size A wr
theorem XRow.lt {A wr : World} {key : ByteArray} {v : Value} {l : List Ver} (h : XRow A wr key v l) : A.heap.size < wr.heap.size := by simpa using World.block_lt_of_cell? _ _ h.c0
theorem XRow.start (A : World) (key : ByteArray) : XRow A (A.alloc (.cells #[.string key, .slice none 0 0] 115)) key (.slice none 0 0) [] :=
 ⟨box_cell _ _ _ 0 _ rfl, box_cell _ _ _ 1 _ rfl, World.frozen?_alloc_at _ _ _ _ rfl, World.ownsRow_nil _ _ _ _, grew _ _⟩
theorem XRow.deep {A wr w' : World} {key : ByteArray} {v : Value} {l : List Ver} (h : XRow A wr key v l) (hb : Below wr.heap.size wr w') : XRow A w' key v l :=
 ⟨kept_cell hb h.c0, kept_cell hb h.c1, kept_free hb ⟨h.lt, h.f1⟩, owns_keep h.own hb, below_deep h.bel hb⟩
theorem XRow.push {A w1 w2 : World} {key : ByteArray} {v v2 : Value} {l : List Ver} {u : Ver} (h : XRow A w1 key v l) (ho : w2.ownsRow (A.heap.size + 1) 78 4 v2 (l.length + 1) (flat verC l ++ verC u)) (hg : w1.grownBy w2 v.ownBlock) : XRow A (w2.setCell ⟨A.heap.size, 1, none⟩ v2) key v2 (l ++ [u]) := by
 have hne : some A.heap.size ≠ v.ownBlock := fun e => by have := (h.own.lt _ e.symm).1; omega
 refine ⟨by rw [set_off (by decide)]; exact hg.cell h.c0 hne, World.cell?_setCell_same _ _ _ (hg.cell h.c1 hne), ?_, ?_, ?_⟩
 · rw [World.frozen?_setCell, World.frozen?_of_block (w := w1) (hg.block A.heap.size h.lt hne)]; exact h.f1
 · refine ownsRow_setCell_below (a := ⟨A.heap.size, 1, none⟩) ?_ (by simp) _
   rw [List.length_append, flat_snoc]; exact ho
 · exact (h.bel.grown hg (by have := h.lt; omega) (fun a e => by have := (h.own.lt a e).1; omega)).setCell (p := ⟨A.heap.size, 1, none⟩) (Nat.le_refl _) _
theorem setC_snoc (k : ByteArray) (v : Ver) (L : List Chn) (c : Chn) : setC k v (L ++ [c]) = setC k v L ++ [if c.1 = k then (c.1, setV v c.2) else c] := by simp [setC]
theorem setV_snoc (v : Ver) (l : List Ver) (u : Ver) : setV v (l ++ [u]) = setV v l ++ [if u.by_ = v.by_ then v else u] := by simp [setV]

def lateV (by_ : Int) (F : List Ver) (i : Nat) : Bool := decide (i + 1 < F.length) && decide ((F.getD (i + 1) default).by_ < by_)
def keptAt (by_ : Int) (F : List Ver) (i : Nat) : Bool := !(lateV by_ F i && decide ((F.getD i default).by_ < by_) || decide ((F.getD i default).by_ < by_) && (F.getD i default).made && !(F.getD i default).has_)
def keepTo (by_ : Int) (F : List Ver) : Nat → List Ver
 | 0 => []
 | t + 1 => if keptAt by_ F t = true then keepTo by_ F t ++ [F.getD t default] else keepTo by_ F t
theorem keepTo_len (by_ : Int) (F : List Ver) : ∀ t, (keepTo by_ F t).length ≤ t
 | 0 => Nat.le_refl _
 | t + 1 => by
   have := keepTo_len by_ F t
   rw [keepTo]; split <;> simp <;> omega
theorem keepTo_clear (by_ : Int) : ∀ (l p : List Ver), keepTo by_ (p ++ l) (p ++ l).length = keepTo by_ (p ++ l) p.length ++ clearV by_ l
 | [], p => by simp [clearV]
 | v :: r, p => by
   have ih := keepTo_clear by_ r (p ++ [v])
   have e : p ++ [v] ++ r = p ++ v :: r := by simp
   rw [e] at ih
   rw [ih, List.length_append, List.length_singleton, keepTo]
   have hv : (p ++ v :: r).getD p.length default = v := by simp [List.getD]
   have hl : lateV by_ (p ++ v :: r) p.length = laterV by_ r := by
     unfold lateV
     cases r with
     | nil => simp [laterV]
     | cons u r => simp [laterV, List.getD]
   have hk : keptAt by_ (p ++ v :: r) p.length = !(laterV by_ r && decide (v.by_ < by_) || decide (v.by_ < by_) && v.made && !v.has_) := by
     unfold keptAt; rw [hl, hv]
   rw [hk, hv, clearV]
   cases (laterV by_ r && decide (v.by_ < by_) || decide (v.by_ < by_) && v.made && !v.has_) with
   | true => simp
   | false => simp
theorem keepTo_all (by_ : Int) (l : List Ver) : keepTo by_ l l.length = clearV by_ l := by
 have := keepTo_clear by_ l []
 simpa [keepTo] using this


set_option maxHeartbeats 4000000 in
set_option maxRecDepth 100000 in
theorem refSetC_calls (L : List Chn) (base : Option Addr) (n c : Nat) (k : ByteArray) (y : Int) (m h : Bool) (x : Int) (w : World) (hf : FitC L) (ha : ChainsIn w base n c L) :
   Calls Tryz.prog 44 #[.slice base n c, .string k, .agg #[.int .i64 y, .bool m, .bool h, .int .i64 x]] w fun e w' => ChainsTold w w' (setC k (y, m, h, x) L) e := by
 have hcn : n ≤ 387420489 := by rw [ha.len]; exact hf.count
 have HLN := hid ha.len
 have HF := hid hf
 obtain ⟨A0, hA0⟩ : ∃ A0, A0 = w.alloc (.cells #[.int .i64 y, .bool m, .bool h, .int .i64 x] 78) := ⟨_, rfl⟩
 have HBW : Hid (Below w.heap.size w A0) := by rw [hA0]; exact grew _ _
 have HA := hid (ha.below HBW.out)
 have HFV : Hid (Four A0 w.heap.size y m h x) := by rw [hA0]; exact Four.box _ _ _ _ _ _
 clear ha hf
 have HA0 := hid hA0
 go_enter Tryz.func44, Tryz.ntmps44
 go_wp2
 rw [← HA0.out]
 clear hA0
 go_loopw [7, 15] (fun v i wr => ∃ (j : Nat) (S : List Slot), j ≤ n ∧ i = .int .i64 j ∧ Hid (wr.ownsRow A0.heap.size 115 2 v j (flat slotC S)) ∧ Hid (SlotsAre wr A0.heap.size 78 S (setC k (y, m, h, x) (L.take j))) ∧ Hid (Below A0.heap.size A0 wr)) (fun _ i _ => n - (intOf i).toNat)
 case atStart => exact ⟨0, [], Nat.zero_le _, rfl, World.ownsRow_nil _ _ _ _, SlotsAre.nil _ _ _, Below.refl _ _⟩
 case round =>
   obtain ⟨j, S, hj, rfl, HO, HS, HBR⟩ := hrel
   by_cases hlt : j < n
   · have hjl : j < L.length := by rw [← HLN.out]; exact hlt
     have hi : (j : Int) < (n : Int) := by omega
     rcases (HA.out.below HBR.out).run with hh | ⟨b, o, rfl, hrun⟩
     · omega
     obtain ⟨vb, vn, vc, c0, c1, hvv, hkz⟩ := hrun j hlt
     have hbw : b < wr.heap.size := by simpa using World.block_lt_of_cell? _ _ c0
     have hfew := HF.out.few _ (memC hjl)
     rw [← Vers.count hvv] at hfew
     have HSN := hid (setC_snoc k (y, m, h, x) (L.take j) (L.getD j default))
     rw [← take_snoc_getD hjl] at HSN
     obtain ⟨key, vs, hx⟩ : ∃ key vs, L.getD j default = (key, vs) := ⟨_, _, rfl⟩
     rw [hx] at c0 hvv hkz HSN
     simp only at c0 hvv hkz HSN
     have HVC := hid (Vers.count hvv)
     have HKEZ := hid hkz
     generalize wr = wa at *
     have HGW := hid (grew wa (.cells #[.string key, .slice vb vn vc] 115))
     have HVW := hid (hvv.below (by decide) HGW.out)
     have HK0 := hid (box_cell wa #[.string key, .slice vb vn vc] 115 0 _ rfl)
     have HFA := hid ((HFV.out.below HBR.out).below HGW.out)
     obtain ⟨A, hA⟩ : ∃ A, A = wa.alloc (.cells #[.string key, .slice vb vn vc] 115) := ⟨_, rfl⟩
     have hAs : A.heap.size = wa.heap.size + 1 := by rw [hA, World.size_alloc]
     rw [← hA] at HGW HVW HK0 HFA
     have HXS := hid (XRow.start A key)
     have HAQ := hid hA
     have HAS := hid hAs
     clear hx hrun hvv hkz hA hAs
     go_wp2
     rw [← HAS.out, ← HAQ.out]
     go_loopw [25] (fun i wr => ∃ (t : Nat) (xv : Value), t ≤ vn ∧ i = .int .i64 t ∧ Hid (XRow A wr key xv (if key = k then setV (y, m, h, x) (vs.take t) else vs.take t))) (fun i _ => vn - (intOf i).toNat)
     case atStart => exact ⟨0, .slice none 0 0, Nat.zero_le _, rfl, (by show XRow _ _ _ _ _; simpa [setV] using HXS.out)⟩
     case round =>
       obtain ⟨t, xv, ht, rfl, HX⟩ := hrel
       by_cases htn : t < vn
       · have htl : t < vs.length := by rw [← HVC.out]; exact htn
         have hti : (t : Int) < (vn : Int) := by omega
         rcases (HVW.out.below (by decide) HX.out.bel).run with hh | ⟨b2, o2, rfl, hvr⟩
         · omega
         obtain ⟨v0, v1, v2, v3⟩ := Vers.cells hvr htl
         have hbv : b2 < wr.heap.size := by simpa using World.block_lt_of_cell? _ _ v0
         have k0 := kept_cell HX.out.bel HK0.out
         have hkl : wa.heap.size < wr.heap.size := by simpa using World.block_lt_of_cell? _ _ k0
         have x1 := HX.out.c1
         have hxl := HX.out.lt
         have HTK := hid (take_snoc_getD htl)
         obtain ⟨y3, m3, h3, x3, hx⟩ : ∃ y3 m3 h3 x3, vs.getD t default = (y3, m3, h3, x3) := ⟨_, _, _, _, rfl⟩
         rw [hx] at v0 v1 v2 v3 HTK
         simp only [Ver.by_, Ver.made, Ver.has_, Ver.n] at v0 v1 v2 v3
         clear hx hvr
         obtain ⟨g0, g1, g2, g3⟩ := HFA.out.below HX.out.bel
         have hvl : w.heap.size < wr.heap.size := by simpa using World.block_lt_of_cell? _ _ g0
         obtain ⟨pre, hpre⟩ : ∃ pre, pre = (if key = k then setV (y, m, h, x) (vs.take t) else vs.take t) := ⟨_, rfl⟩
         rw [← hpre] at HX
         have hpl : pre.length ≤ 1954687338214 := by
           rw [hpre]
           split
           · rw [setV_len, List.length_take]; omega
           · rw [List.length_take]; omega
         have HPR := hid hpre
         clear hpre
         by_cases he : key = k
         · have t1 : (key.toList == k.toList) = true := by rw [he]; simp
           have HE := hid he
           clear he
           by_cases hy : y3 = y
           · have t2 : (y3 == y) = true := by simpa using hy
             have HY := hid hy
             clear hy
             have HN : Hid (pre ++ [(y, m, h, x)] = (if key = k then setV (y, m, h, x) (vs.take (t + 1)) else vs.take (t + 1))) := by
               show _ = _
               rw [HPR.out, HTK.out]; rw [if_pos HE.out, if_pos HE.out, setV_snoc]; congr 2; exact (if_pos HY.out).symm
             have HB2 := hid (below_deep (grew wr (.cells #[.int .i64 y, .bool m, .bool h, .int .i64 x] 78)) (grew (wr.alloc (.cells #[.int .i64 y, .bool m, .bool h, .int .i64 x] 78)) (.cells #[.int .i64 y, .bool m, .bool h, .int .i64 x] 78)))
             have HX2 := hid (HX.out.deep HB2.out)
             have HLO := hid (lies_one (wr.alloc (.cells #[.int .i64 y, .bool m, .bool h, .int .i64 x] 78)) #[.int .i64 y, .bool m, .bool h, .int .i64 x] 78 4 rfl)
             rw [World.size_alloc] at HLO
             have HSE := hid (verC_one (y, m, h, x))
             have HBY : Hid ((pre.length + 1) * 24 ≤ 140737488355328) := by show _ ≤ _; omega
             have HSZ : Hid (A.heap.size + 1 ≤ ((wr.alloc (.cells #[.int .i64 y, .bool m, .bool h, .int .i64 x] 78)).alloc (.cells #[.int .i64 y, .bool m, .bool h, .int .i64 x] 78)).heap.size) := by show _ ≤ _; have := HX2.out.lt; omega
             go_wp2_with (at_builtin; refine wpList_onto _ rfl _ _ 113 78 4 24 _ Tryz.underlying113 verInfo rfl (by decide) (by decide) rfl (A.heap.size + 1) _ _ _ rfl HX2.out.own _ 1 _ _ rfl HLO.out HSE.out HBY.out HSZ.out ?_)
             intro v2 w2 hown2 hg2
             obtain ⟨nb, nc, rfl, _⟩ := Lies.owned hown2
             have HXP := hid (HX2.out.push (u := (y, m, h, x)) hown2 hg2)
             have hne2 : some A.heap.size ≠ Value.ownBlock xv := fun e => by have := (HX2.out.own.lt _ e.symm).1; omega
             have z1 := hg2.cell HX2.out.c1 hne2
             have zl : A.heap.size < w2.heap.size := by simpa using World.block_lt_of_cell? _ _ z1
             have zf : w2.frozen? ⟨A.heap.size, 1, none⟩ = false := by
               rw [World.frozen?_of_block (w := (wr.alloc (.cells #[.int .i64 y, .bool m, .bool h, .int .i64 x] 78)).alloc (.cells #[.int .i64 y, .bool m, .bool h, .int .i64 x] 78)) (hg2.block A.heap.size HX2.out.lt hne2)]; exact HX2.out.f1
             clear hown2 hg2 hne2
             go_wp2
             go_roundw
             case rel => exact ⟨t + 1, _, by omega, by go_num, (by show XRow _ _ _ _ _; rw [← HN.out]; exact HXP.out)⟩
             case measure => simp [intOf]; omega
           · have t2 : (y3 == y) = false := by simpa using hy
             have HY := hid hy
             clear hy
             have HN : Hid (pre ++ [(y3, m3, h3, x3)] = (if key = k then setV (y, m, h, x) (vs.take (t + 1)) else vs.take (t + 1))) := by
               show _ = _
               rw [HPR.out, HTK.out]; rw [if_pos HE.out, if_pos HE.out, setV_snoc]; congr 2; exact (if_neg HY.out).symm
             have HB2 := hid (below_deep (grew wr (.cells #[.int .i64 y3, .bool m3, .bool h3, .int .i64 x3] 78)) (grew (wr.alloc (.cells #[.int .i64 y3, .bool m3, .bool h3, .int .i64 x3] 78)) (.cells #[.int .i64 y3, .bool m3, .bool h3, .int .i64 x3] 78)))
             have HX2 := hid (HX.out.deep HB2.out)
             have HLO := hid (lies_one (wr.alloc (.cells #[.int .i64 y3, .bool m3, .bool h3, .int .i64 x3] 78)) #[.int .i64 y3, .bool m3, .bool h3, .int .i64 x3] 78 4 rfl)
             rw [World.size_alloc] at HLO
             have HSE := hid (verC_one (y3, m3, h3, x3))
             have HBY : Hid ((pre.length + 1) * 24 ≤ 140737488355328) := by show _ ≤ _; omega
             have HSZ : Hid (A.heap.size + 1 ≤ ((wr.alloc (.cells #[.int .i64 y3, .bool m3, .bool h3, .int .i64 x3] 78)).alloc (.cells #[.int .i64 y3, .bool m3, .bool h3, .int .i64 x3] 78)).heap.size) := by show _ ≤ _; have := HX2.out.lt; omega
             go_wp2_with (at_builtin; refine wpList_onto _ rfl _ _ 113 78 4 24 _ Tryz.underlying113 verInfo rfl (by decide) (by decide) rfl (A.heap.size + 1) _ _ _ rfl HX2.out.own _ 1 _ _ rfl HLO.out HSE.out HBY.out HSZ.out ?_)
             intro v2 w2 hown2 hg2
             obtain ⟨nb, nc, rfl, _⟩ := Lies.owned hown2
             have HXP := hid (HX2.out.push (u := (y3, m3, h3, x3)) hown2 hg2)
             have hne2 : some A.heap.size ≠ Value.ownBlock xv := fun e => by have := (HX2.out.own.lt _ e.symm).1; omega
             have z1 := hg2.cell HX2.out.c1 hne2
             have zl : A.heap.size < w2.heap.size := by simpa using World.block_lt_of_cell? _ _ z1
             have zf : w2.frozen? ⟨A.heap.size, 1, none⟩ = false := by
               rw [World.frozen?_of_block (w := (wr.alloc (.cells #[.int .i64 y3, .bool m3, .bool h3, .int .i64 x3] 78)).alloc (.cells #[.int .i64 y3, .bool m3, .bool h3, .int .i64 x3] 78)) (hg2.block A.heap.size HX2.out.lt hne2)]; exact HX2.out.f1
             clear hown2 hg2 hne2
             go_wp2
             go_roundw
             case rel => exact ⟨t + 1, _, by omega, by go_num, (by show XRow _ _ _ _ _; rw [← HN.out]; exact HXP.out)⟩
             case measure => simp [intOf]; omega
         · have t1 : (key.toList == k.toList) = false := by simpa using fun e => he (toList_inj e)
           have HE := hid he
           clear he
           have HN : Hid (pre ++ [(y3, m3, h3, x3)] = (if key = k then setV (y, m, h, x) (vs.take (t + 1)) else vs.take (t + 1))) := by
             show _ = _
             rw [HPR.out, HTK.out]; rw [if_neg HE.out, if_neg HE.out]
           have HB2 := hid (below_deep (grew wr (.cells #[.int .i64 y3, .bool m3, .bool h3, .int .i64 x3] 78)) (grew (wr.alloc (.cells #[.int .i64 y3, .bool m3, .bool h3, .int .i64 x3] 78)) (.cells #[.int .i64 y3, .bool m3, .bool h3, .int .i64 x3] 78)))
           have HX2 := hid (HX.out.deep HB2.out)
           have HLO := hid (lies_one (wr.alloc (.cells #[.int .i64 y3, .bool m3, .bool h3, .int .i64 x3] 78)) #[.int .i64 y3, .bool m3, .bool h3, .int .i64 x3] 78 4 rfl)
           rw [World.size_alloc] at HLO
           have HSE := hid (verC_one (y3, m3, h3, x3))
           have HBY : Hid ((pre.length + 1) * 24 ≤ 140737488355328) := by show _ ≤ _; omega
           have HSZ : Hid (A.heap.size + 1 ≤ ((wr.alloc (.cells #[.int .i64 y3, .bool m3, .bool h3, .int .i64 x3] 78)).alloc (.cells #[.int .i64 y3, .bool m3, .bool h3, .int .i64 x3] 78)).heap.size) := by show _ ≤ _; have := HX2.out.lt; omega
           go_wp2_with (at_builtin; refine wpList_onto _ rfl _ _ 113 78 4 24 _ Tryz.underlying113 verInfo rfl (by decide) (by decide) rfl (A.heap.size + 1) _ _ _ rfl HX2.out.own _ 1 _ _ rfl HLO.out HSE.out HBY.out HSZ.out ?_)
           intro v2 w2 hown2 hg2
           obtain ⟨nb, nc, rfl, _⟩ := Lies.owned hown2
           have HXP := hid (HX2.out.push (u := (y3, m3, h3, x3)) hown2 hg2)
           have hne2 : some A.heap.size ≠ Value.ownBlock xv := fun e => by have := (HX2.out.own.lt _ e.symm).1; omega
           have z1 := hg2.cell HX2.out.c1 hne2
           have zl : A.heap.size < w2.heap.size := by simpa using World.block_lt_of_cell? _ _ z1
           have zf : w2.frozen? ⟨A.heap.size, 1, none⟩ = false := by
             rw [World.frozen?_of_block (w := (wr.alloc (.cells #[.int .i64 y3, .bool m3, .bool h3, .int .i64 x3] 78)).alloc (.cells #[.int .i64 y3, .bool m3, .bool h3, .int .i64 x3] 78)) (hg2.block A.heap.size HX2.out.lt hne2)]; exact HX2.out.f1
           clear hown2 hg2 hne2
           go_wp2
           go_roundw
           case rel => exact ⟨t + 1, _, by omega, by go_num, (by show XRow _ _ _ _ _; rw [← HN.out]; exact HXP.out)⟩
           case measure => simp [intOf]; omega
       · obtain rfl : t = vn := by omega
         have hfull : vs.take t = vs := List.take_of_length_le (by rw [← HVC.out]; exact Nat.le_refl _)
         rw [hfull] at HX
         have HNX : Hid (setC k (y, m, h, x) (L.take (j + 1)) = setC k (y, m, h, x) (L.take j) ++ [(key, if key = k then setV (y, m, h, x) vs else vs)]) := by
           show _ = _
           rw [HSN.out]
           split <;> rfl
         clear hfull
         generalize (if key = k then setV (y, m, h, x) vs else vs) = full at *
         obtain ⟨xb, xc, hxv, _⟩ := Lies.owned HX.out.own
         obtain ⟨xn, hxn⟩ : ∃ xn, xn = full.length := ⟨_, rfl⟩
         rw [← hxn] at hxv
         subst hxv
         clear hxn
         have HX2 := hid (HX.out.deep (grew wr (.cells #[.string key, .slice xb xn xc] 115)))
         have HBI := hid (below_deep HGW.out HX2.out.bel)
         have HSI : Hid (SlotIs (wr.alloc (.cells #[.string key, .slice xb xn xc] 115)) A0.heap.size 78 (key, xb, xn, xc) (key, full)) := own_slot (x := (key, full)) rfl HKEZ.out HX2.out.own
         have HLO := hid (lies_one wr #[.string key, .slice xb xn xc] 115 2 rfl)
         have HOW := hid (owns_keep HO.out HBI.out)
         have HSE := hid (slotC_one (key, xb, xn, xc))
         have HBY : Hid ((j + 1) * 40 ≤ 140737488355328) := by show _ ≤ _; omega
         have HSZ := hid (Nat.le_trans HBR.out.size HBI.out.size)
         have x0 := HX.out.c0
         have x1 := HX.out.c1
         have hxl := HX.out.lt
         go_wp2_with (at_builtin; refine wpList_onto _ rfl _ _ 30 115 2 40 _ Tryz.underlying30 chnInfo rfl (by decide) (by decide) rfl A0.heap.size _ j (flat slotC S) rfl HOW.out _ 1 _ _ rfl HLO.out HSE.out HBY.out HSZ.out ?_)
         intro v2 w2 hown2 hg2
         have HXZ := hid (slot_step HO.out HS.out HBR.out HBI.out HSI.out hown2 hg2)
         clear hown2 hg2
         go_wp2
         go_roundw
         case rel => exact ⟨j + 1, _, by omega, by go_num, HXZ.out.1, (by show SlotsAre _ _ _ _ _; rw [HNX.out]; exact HXZ.out.2.1), HXZ.out.2.2⟩
         case measure => simp [intOf]; omega
   · obtain rfl : j = n := by omega
     have hs := HS.out
     rw [List.take_of_length_le (by rw [← HLN.out]; exact Nat.le_refl _)] at hs
     obtain ⟨b2, c2, rfl, hl2⟩ := Lies.owned HO.out
     have HCH := hid (chains_of_slots hl2 hs)
     have HBF := hid (below_deep HBW.out HBR.out)
     clear hs hl2
     go_wp2
     go_ret
     exact ⟨_, _, _, rfl, HCH.out, HBF.out⟩
end Go.Proofs.YtlhaeeenkgkdaaaGreatDoor

namespace Go.Proofs.YtlhaeeenkgkdaaaGreatDoor
open Go.RowKit

end Go.Proofs.YtlhaeeenkgkdaaaGreatDoor

namespace Go.Proofs.YtlhaeeenkgkdaaaGreatDoor
open Go.RowKit

theorem do_few {l : List Row} (h : Right l) {n : Nat} (hn : n = l.length) : (n + 20) * 24 ≤ 140737488355328 := by
 have := right_few h
 omega

end Go.Proofs.YtlhaeeenkgkdaaaGreatDoor

namespace Go.Proofs.YtlhaeeenkgkdaaaGreatDoor
open Go.RowKit

end Go.Proofs.YtlhaeeenkgkdaaaGreatDoor

namespace Go.Proofs.YtlhaeeenkgkdaaaGreatDoor
open Go.RowKit

theorem refDo_toldK (l : List Row) (d : Deed3) (lb : Option Addr) (ln lc : Nat) (rb : Option Addr) (rn rc : Nat) (wb : Option Addr) (wn wc : Nat) (cb : Option Addr) (cn cc : Nat) (w : World)
   (hd : DeedIn w rb rn rc wb wn wc cb cn cc d.1 d.2.1 d.2.2) (hright : RightDD d) (hh : Holds w lb ln lc l) (hrl : Right l) :
   Calls Tryz.prog 42 #[.slice lb ln lc, .agg #[.slice rb rn rc, .slice wb wn wc, .slice cb cn cc]] w fun e w' =>
     ∃ (nb : Option Addr) (nn nc : Nat) (f : Bool) (r : Nat → Int), endD l d = (f, r) ∧ e = .returned (.tuple #[.slice nb nn nc, .agg #[.bool f, .int .i64 (r 0), .int .i64 (r 1), .int .i64 (r 2), .int .i64 (r 3)]]) ∧ Holds w' nb nn nc (doD l d) ∧ Below w.heap.size w w' ∧ ((nb = lb ∧ nn = ln) ∨ Kind w' 117 nb) := by
 refine (refDo_callsK d.1 d.2.1 d.2.2 l rb rn rc wb wn wc cb cn cc lb ln lc w hd hright hh hrl.srt (do_few hrl hh.len)).mono ?_
 rintro e w' ⟨nb, nn, nc, L, r, m, f, hex, rfl, hL, h1, h2, hb, hk⟩
 have ex : exD l d = (r, m, f) := hex
 refine ⟨nb, nn, nc, f, r, by unfold endD; rw [ex], rfl, ?_, hb, hk⟩
 cases f with
 | true => rw [doD_fail (by rw [ex]), ← h1 rfl]; exact hL
 | false =>
   have := over_doD (L := L) hrl.srt hright (by rw [ex]) (by rw [ex]; exact h2 rfl)
   rw [← this]; exact hL

set_option maxHeartbeats 2000000 in
theorem sameEnds_calls (E : List End3) (ab : Option Addr) (an ac : Nat) (bb : Option Addr) (bn bc : Nat) (w : World) (ha : Ends w ab an ac E) (hb : Ends w bb bn bc E) :
   Calls Tryz.prog 57 #[.slice ab an ac, .slice bb bn bc] w fun e w' => e = .returned (.bool true) ∧ Below w.heap.size w w' := by
 have h1 := Ends.count ha
 have h2 := Ends.count hb
 obtain rfl : an = bn := by omega
 have hm := Nat.le_trans ha.hdr.le ha.hdr.max
 unfold maxLen at hm
 have HN := hid h1
 have HA := hid ha
 have HB := hid hb
 clear h1 h2 ha hb
 have harr := regsEq
 go_enter Tryz.func57, Tryz.ntmps57
 go_wp2
 go_loopw [13] (fun i wr => ∃ k : Nat, k ≤ an ∧ i = .int .i64 k ∧ ∃ q, wr = w.drewN q) (fun i _ => an - (intOf i).toNat)
 case atStart => exact ⟨0, Nat.zero_le _, rfl, 0, rfl⟩
 case round =>
   obtain ⟨k, hk, rfl, q, rfl⟩ := hrel
   by_cases hlt : k < an
   · rcases HA.out.run with h | ⟨b1, o1, rfl, r1⟩
     · omega
     rcases HB.out.run with h | ⟨b2, o2, rfl, r2⟩
     · omega
     obtain ⟨a0, a1, a2, a3, a4⟩ := Ends.cells r1 (k := k) (by rw [← HN.out]; exact hlt)
     obtain ⟨c0, c1, c2, c3, c4⟩ := Ends.cells r2 (k := k) (by rw [← HN.out]; exact hlt)
     clear r1 r2
     generalize (E.getD k default).1 = f at *
     generalize (E.getD k default).2 = r at *
     have hi : (k : Int) < (an : Int) := by omega
     go_wp2
     go_quiet (fail)
     go_wp2
     go_roundw
     case rel => exact ⟨k + 1, by omega, by go_num, _, rfl⟩
     case measure => simp [intOf]; omega
   · go_wp2
     go_ret
     exact ⟨rfl, below_drewN (Below.refl _ _) q⟩
end Go.Proofs.YtlhaeeenkgkdaaaGreatDoor

namespace Go.Proofs.YtlhaeeenkgkdaaaGreatDoor
open Go.RowKit

theorem set_comm (w : World) {b g : Nat} (i j : Nat) (u v : Value) (hne : b ≠ g) : (w.setCell ⟨b, i, none⟩ u).setCell ⟨g, j, none⟩ v = (w.setCell ⟨g, j, none⟩ v).setCell ⟨b, i, none⟩ u := by
 unfold World.setCell
 simp only
 congr 1
 apply Array.ext_getElem?
 intro k
 simp only [Array.getElem?_modify]
 by_cases h1 : b = k
 · subst h1
   rw [if_neg (Ne.symm hne), if_pos rfl, if_pos rfl, if_neg (Ne.symm hne)]
 · rw [if_neg h1, if_neg h1]
theorem five_comm (w : World) {b g : Nat} (i o : Nat) (u : Value) (f : Bool) (x0 x1 x2 x3 : Int) (hne : b ≠ g) : fiveAt (w.setCell ⟨b, i, none⟩ u) g o f x0 x1 x2 x3 = (fiveAt w g o f x0 x1 x2 x3).setCell ⟨b, i, none⟩ u := by
 unfold fiveAt
 rw [set_comm _ _ _ _ _ hne, set_comm _ _ _ _ _ hne, set_comm _ _ _ _ _ hne, set_comm _ _ _ _ _ hne, set_comm _ _ _ _ _ hne]
theorem Holds.off {b : Nat} {w w' : World} {base : Option Addr} {n c : Nat} {l : List Row} (h : Holds w base n c l) (ha : NoText w b) (ho : Off b w w') : Holds w' base n c l := by
 refine ⟨h.len, ?_, h.hdr⟩
 rcases h.seg with h0 | ⟨bl, o, e, hc⟩
 · exact .inl h0
 · refine .inr ⟨bl, o, e, fun i hi => ?_⟩
   obtain ⟨h1, h2⟩ := hc i hi
   have hne : bl ≠ b := fun e => ha _ _ (by rw [← e]; exact h1)
   exact ⟨ho.cell hne h1, ho.cell hne h2⟩
end Go.Proofs.YtlhaeeenkgkdaaaGreatDoor
