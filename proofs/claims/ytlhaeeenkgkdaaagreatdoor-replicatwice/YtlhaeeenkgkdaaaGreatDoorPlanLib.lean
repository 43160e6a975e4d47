/-
  Wrong of the program and of the document's answer tell what is wrong with an entry, walked.
  Where an entry belongs: the program's 'place'; an entry kept behind others: 'keep'.
  The library's functions that the program calls are those whose contracts are known.
  The functions of package slices that plan calls: Contains over texts, Sort and Compact over a row of numbers that the call owns.
-/
import Derived.Test.YtlhaeeenkgkdaaaGreatDoorOpenEnts
import Derived.Test.YtlhaeeenkgkdaaaGreatDoorRefWrong
import Derived.Test.YtlhaeeenkgkdaaaGreatDoorEngSet
import Derived.Test.YtlhaeeenkgkdaaaGreatDoorRepFinds
import Derived.Test.YtlhaeeenkgkdaaaGreatDoorRepOwn
import Derived.Deep.RegionHeld3
import Derived.Shelf.Slices.Turned
import Derived.Shelf.Slices.CompactI
import Derived.Shelf.Sort.Plain
import Derived.Shelf.Slices.In.SortNone
import Derived.Test.YtlhaeeenkgkdaaaGreatDoorProg
import Derived.Test.YtlhaeeenkgkdaaaGreatDoorChainAt
import Derived.Lib.OwnBridge
import Derived.Sort.OwnSortedInts
namespace Go.Proofs.YtlhaeeenkgkdaaaGreatDoor
open Go.RowKit

def wD (d : Deed3) : Int := wDeed d.1 d.2.1 d.2.2
def firstW (l : List Deed3) : Int := (l.map wD).foldr (fun w r => if w = 0 then r else w) 0
theorem firstW_append : ∀ (a b : List Deed3), firstW (a ++ b) = if firstW a = 0 then firstW b else firstW a
 | [], b => by simp [firstW]
 | d :: a, b => by
   have ih := firstW_append a b
   unfold firstW at *
   simp only [List.cons_append, List.map_cons, List.foldr_cons]
   by_cases h : wD d = 0
   · rw [if_pos h, if_pos h, ih]
   · rw [if_neg h, if_neg h, if_neg h]
theorem firstW_one (d : Deed3) : firstW [d] = wD d := by
 unfold firstW
 simp only [List.map_cons, List.map_nil, List.foldr_cons, List.foldr_nil]
 split
 · rename_i h; exact h.symm
 · rfl
theorem firstW_on {D : List Deed3} {j : Nat} (hj : j < D.length) (h : firstW (D.take j) = 0) (h2 : wD (D.getD j default) = 0) : firstW (D.take (j + 1)) = 0 := by
 rw [take_snoc_getD hj, firstW_append, if_pos h, firstW_one, h2]
theorem firstW_stop {D : List Deed3} {j : Nat} (hj : j < D.length) (h : firstW (D.take j) = 0) (h2 : wD (D.getD j default) ≠ 0) : firstW D = wD (D.getD j default) := by
 have e : D = D.take (j + 1) ++ D.drop (j + 1) := (List.take_append_drop _ _).symm
 have h3 : firstW (D.take (j + 1)) = wD (D.getD j default) := by rw [take_snoc_getD hj, firstW_append, if_pos h, firstW_one]
 calc firstW D = firstW (D.take (j + 1) ++ D.drop (j + 1)) := by rw [← e]
   _ = _ := by rw [firstW_append, if_neg (by rw [h3]; exact h2), h3]
theorem wrongE_is (x : Ent) : wrongE x = if x.1 < 0 ∨ 11 < x.1 then 3 else if 6 < x.2.length then 5 else firstW x.2 := rfl

set_option maxHeartbeats 8000000 in
set_option maxRecDepth 100000 in
theorem refWrongE_calls (x : Ent) (v : Value) (w : World) (hv : EntV w v x) :
   Calls Tryz.prog 5 #[v] w fun e w' => e = .returned (.int .i64 (wrongE x)) ∧ Below w.heap.size w w' := by
 obtain ⟨db, dn, dc, rfl, hd⟩ := hv
 obtain ⟨m, D⟩ := x
 simp only at hd ⊢
 have hdm := Nat.le_trans hd.hdr.le hd.hdr.max
 unfold maxLen at hdm
 have HQ := hid (wrongE_is (m, D))
 have HLN := hid hd.len
 have HGE := hid (grew w (.cells #[.int .i64 m, .slice db dn dc] 26))
 have HD := hid (hd.below HGE.out)
 clear hd
 generalize wrongE (m, D) = q at *
 have x0 := box_cell w #[.int .i64 m, .slice db dn dc] 26 0 _ rfl
 have x1 := box_cell w #[.int .i64 m, .slice db dn dc] 26 1 _ rfl
 by_cases hm : m < 0 ∨ 11 < m
 · have HE : Hid (q = 3) := by show _ = _; rw [HQ.out, if_pos hm]
   by_cases h0 : m < 0
   · go_enter Tryz.func5, Tryz.ntmps5
     go_wp2
     go_ret
     exact ⟨by rw [HE.out]; rfl, HGE.out⟩
   · have h1 : m > 11 := by omega
     go_enter Tryz.func5, Tryz.ntmps5
     go_wp2
     go_ret
     exact ⟨by rw [HE.out]; rfl, HGE.out⟩
 have h0 : ¬ m < 0 := fun h => hm (.inl h)
 have h1 : ¬ m > 11 := fun h => hm (.inr h)
 by_cases hl : 6 < dn
 · have HE : Hid (q = 5) := by show _ = _; rw [HQ.out, if_neg hm, if_pos (by rw [← HLN.out]; exact hl)]
   have hl' : (dn : Int) > 6 := by omega
   go_enter Tryz.func5, Tryz.ntmps5
   go_wp2
   go_ret
   exact ⟨by rw [HE.out]; rfl, HGE.out⟩
 have HE : Hid (q = firstW D) := by show _ = _; rw [HQ.out, if_neg hm, if_neg (by rw [← HLN.out]; exact hl)]
 have hl' : ¬ (dn : Int) > 6 := by omega
 go_enter Tryz.func5, Tryz.ntmps5
 go_wp2
 clear HQ hm hl' h0 h1 x0 x1
 generalize w.alloc (.cells #[.int .i64 m, .slice db dn dc] 26) = A at *
 go_loopw [21] (fun i wr => ∃ j : Nat, j ≤ dn ∧ i = .int .i64 j ∧ Hid (firstW (D.take j) = 0) ∧ Hid (Below A.heap.size A wr)) (fun i _ => dn - (intOf i).toNat)
 case atStart => exact ⟨0, Nat.zero_le _, rfl, rfl, Below.refl _ _⟩
 case round =>
   obtain ⟨j, hj, rfl, HR, HBR⟩ := hrel
   by_cases hlt : j < dn
   · have hjl : j < D.length := by rw [← HLN.out]; exact hlt
     have hi : (j : Int) < (dn : Int) := by omega
     rcases (HD.out.below HBR.out).run with h | ⟨db1, dbo, rfl, hdr⟩
     · omega
     obtain ⟨rb, rn, rc, wb, wn, wc, cb, cn, cc, k0, k1, k2, hdi, hs1, hs2⟩ := hdr j hlt
     have hdb : db1 < wr.heap.size := by simpa using World.block_lt_of_cell? _ _ k0
     have HGW := hid (grew wr (.cells #[.slice rb rn rc, .slice wb wn wc, .slice cb cn cc] 44))
     have HW := hid (refWrongDeed_calls (D.getD j default).1 (D.getD j default).2.1 (D.getD j default).2.2 rb rn rc wb wn wc cb cn cc _ (hdi.below HGW.out) hs1 hs2)
     have HN1 := hid (firstW_on hjl HR.out)
     have HN2 := hid (firstW_stop hjl HR.out)
     unfold wD at HN1 HN2
     clear hdi hs1 hs2 hdr
     generalize wDeed (D.getD j default).1 (D.getD j default).2.1 (D.getD j default).2.2 = p at *
     go_wp2_with fail
     refine HW.out.mono ?_
     rintro e w2 ⟨rfl, hb2⟩
     have HB2 := hid (below_deep HBR.out (below_deep HGW.out hb2))
     clear hb2
     by_cases hp : p = 0
     · subst hp
       have HN := hid (HN1.out rfl)
       go_wp2
       go_roundw
       case rel => exact ⟨j + 1, by omega, by go_num, HN, HB2⟩
       case measure => simp [intOf]; omega
     · have HN := hid (HN2.out hp)
       have t := ne_true hp
       clear hp
       go_wp2
       go_ret
       exact ⟨by rw [HE.out, HN.out]; rfl, below_deep HGE.out HB2.out⟩
   · obtain rfl : j = dn := by omega
     have HN : Hid (firstW D = 0) := by
       have := HR.out
       rw [HLN.out, List.take_length] at this
       exact this
     go_wp2
     go_ret
     exact ⟨by rw [HE.out, HN.out]; rfl, below_deep HGE.out HBR.out⟩
set_option maxHeartbeats 8000000 in
set_option maxRecDepth 100000 in
theorem logWrong_calls (x : Ent) (v : Value) (w : World) (hv : EntV w v x) :
   Calls Tryz.prog 47 #[v] w fun e w' => e = .returned (.int .i64 (wrongE x)) ∧ Below w.heap.size w w' := by
 obtain ⟨db, dn, dc, rfl, hd⟩ := hv
 obtain ⟨m, D⟩ := x
 simp only at hd ⊢
 have hdm := Nat.le_trans hd.hdr.le hd.hdr.max
 unfold maxLen at hdm
 have HQ := hid (wrongE_is (m, D))
 have HLN := hid hd.len
 have HGE := hid (grew w (.cells #[.int .i64 m, .slice db dn dc] 26))
 have HD := hid (hd.below HGE.out)
 clear hd
 generalize wrongE (m, D) = q at *
 have x0 := box_cell w #[.int .i64 m, .slice db dn dc] 26 0 _ rfl
 have x1 := box_cell w #[.int .i64 m, .slice db dn dc] 26 1 _ rfl
 by_cases hm : m < 0 ∨ 11 < m
 · have HE : Hid (q = 3) := by show _ = _; rw [HQ.out, if_pos hm]
   by_cases h0 : m < 0
   · go_enter Tryz.func47, Tryz.ntmps47
     go_wp2
     go_ret
     exact ⟨by rw [HE.out]; rfl, HGE.out⟩
   · have h1 : m ≥ 12 := by omega
     go_enter Tryz.func47, Tryz.ntmps47
     go_wp2
     go_ret
     exact ⟨by rw [HE.out]; rfl, HGE.out⟩
 have h0 : ¬ m < 0 := fun h => hm (.inl h)
 have h1 : ¬ m ≥ 12 := fun h => hm (.inr (by omega))
 by_cases hl : 6 < dn
 · have HE : Hid (q = 5) := by show _ = _; rw [HQ.out, if_neg hm, if_pos (by rw [← HLN.out]; exact hl)]
   have hl' : (dn : Int) > 6 := by omega
   go_enter Tryz.func47, Tryz.ntmps47
   go_wp2
   go_ret
   exact ⟨by rw [HE.out]; rfl, HGE.out⟩
 have HE : Hid (q = firstW D) := by show _ = _; rw [HQ.out, if_neg hm, if_neg (by rw [← HLN.out]; exact hl)]
 have hl' : ¬ (dn : Int) > 6 := by omega
 go_enter Tryz.func47, Tryz.ntmps47
 go_wp2
 clear HQ hm hl' h0 h1 x0 x1
 generalize w.alloc (.cells #[.int .i64 m, .slice db dn dc] 26) = A at *
 go_loopw [23] (fun i wr => ∃ j : Nat, j ≤ dn ∧ i = .int .i64 j ∧ Hid (firstW (D.take j) = 0) ∧ Hid (Below A.heap.size A wr)) (fun i _ => dn - (intOf i).toNat)
 case atStart => exact ⟨0, Nat.zero_le _, rfl, rfl, Below.refl _ _⟩
 case round =>
   obtain ⟨j, hj, rfl, HR, HBR⟩ := hrel
   by_cases hlt : j < dn
   · have hjl : j < D.length := by rw [← HLN.out]; exact hlt
     have hi : (j : Int) < (dn : Int) := by omega
     rcases (HD.out.below HBR.out).run with h | ⟨db1, dbo, rfl, hdr⟩
     · omega
     obtain ⟨rb, rn, rc, wb, wn, wc, cb, cn, cc, k0, k1, k2, hdi, hs1, hs2⟩ := hdr j hlt
     have hdb : db1 < wr.heap.size := by simpa using World.block_lt_of_cell? _ _ k0
     have HGW := hid (grew wr (.cells #[.slice rb rn rc, .slice wb wn wc, .slice cb cn cc] 44))
     have HW := hid (wrongDeed_calls (D.getD j default).1 (D.getD j default).2.1 (D.getD j default).2.2 rb rn rc wb wn wc cb cn cc _ (hdi.below HGW.out) hs1 hs2)
     have HN1 := hid (firstW_on hjl HR.out)
     have HN2 := hid (firstW_stop hjl HR.out)
     unfold wD at HN1 HN2
     clear hdi hs1 hs2 hdr
     generalize wDeed (D.getD j default).1 (D.getD j default).2.1 (D.getD j default).2.2 = p at *
     go_wp2_with fail
     refine HW.out.mono ?_
     rintro e w2 ⟨rfl, hb2⟩
     have HB2 := hid (below_deep HBR.out (below_deep HGW.out hb2))
     clear hb2
     by_cases hp : p = 0
     · subst hp
       have HN := hid (HN1.out rfl)
       go_wp2
       go_roundw
       case rel => exact ⟨j + 1, by omega, by go_num, HN, HB2⟩
       case measure => simp [intOf]; omega
     · have HN := hid (HN2.out hp)
       have t := ne_true hp
       clear hp
       go_wp2
       go_ret
       exact ⟨by rw [HE.out, HN.out]; rfl, below_deep HGE.out HB2.out⟩
   · obtain rfl : j = dn := by omega
     have HN : Hid (firstW D = 0) := by
       have := HR.out
       rw [HLN.out, List.take_length] at this
       exact this
     go_wp2
     go_ret
     exact ⟨by rw [HE.out, HN.out]; rfl, below_deep HGE.out HBR.out⟩
end Go.Proofs.YtlhaeeenkgkdaaaGreatDoor

namespace Go.Proofs.YtlhaeeenkgkdaaaGreatDoor
open Go.RowKit

def placeR (r : Rep) (e : Ent) : Int := if hadR r e = true then 11 else if e.1 = r.next then 0 else if 4 ≤ r.early.length then 5 else 12
theorem place_keep {A w1 w2 : World} {b c : Nat} {x5 x6 y0 : Value} (h : w1.cell? ⟨b, 5, none⟩ = some x5 ∧ w1.cell? ⟨b, 6, none⟩ = some x6 ∧ w1.cell? ⟨c, 0, none⟩ = some y0 ∧ Below A.heap.size A w1) (hb : Below w1.heap.size w1 w2) :
   w2.cell? ⟨b, 5, none⟩ = some x5 ∧ w2.cell? ⟨b, 6, none⟩ = some x6 ∧ w2.cell? ⟨c, 0, none⟩ = some y0 ∧ Below A.heap.size A w2 := by
 obtain ⟨h0, h1, h2, hz⟩ := h
 exact ⟨kept_cell hb h0, kept_cell hb h1, kept_cell hb h2, below_deep hz hb⟩
theorem place_held {p0 p1 p2 : Prop} {B : Nat} {A w' : World} (h : p0 ∧ p1 ∧ p2 ∧ Below B A w') : Below B A w' := h.2.2.2

set_option maxHeartbeats 8000000 in
set_option maxRecDepth 100000 in
theorem place_calls {r : Rep} {e : Ent} (he : RightEnt e) (rv ev : Value) (w : World) (hr : RepIn w rv r) (hev : EntV w ev e) :
   Calls Tryz.prog 20 #[rv, ev] w fun x w' => x = .returned (.int .i64 (placeR r e)) ∧ Below w.heap.size w w' := by
 obtain ⟨cb, cn, cc, db, dn, dc, sb, sn, sc, eb, en, ec, ab, an, ac, rfl, hl⟩ := hr
 obtain ⟨qb, qn, qc, rfl, hq⟩ := hev
 have hw := wrongE_right.2 he
 have HAN := hid hl.early.len
 have HL := hid hl.early
 have HEV : Hid (EntV w (.agg #[.int .i64 e.1, .slice qb qn qc]) e) := ⟨qb, qn, qc, rfl, hq⟩
 have HX0 := hid (Box.new w (repA cb cn cc db dn dc sb sn sc eb en ec r.eng.base r.next ab an ac) 35)
 have HG0 := hid (grew w (.cells (repA cb cn cc db dn dc sb sn sc eb en ec r.eng.base r.next ab an ac) 35))
 have HE0 := hid (Box.new (w.alloc (.cells (repA cb cn cc db dn dc sb sn sc eb en ec r.eng.base r.next ab an ac) 35)) #[.int .i64 e.1, .slice qb qn qc] 26)
 have HG1 := hid (grew (w.alloc (.cells (repA cb cn cc db dn dc sb sn sc eb en ec r.eng.base r.next ab an ac) 35)) (.cells #[.int .i64 e.1, .slice qb qn qc] 26))
 rw [World.size_alloc] at HE0
 have HXA := hid (HX0.out.below HG1.out)
 have HBA := hid (below_deep HG0.out HG1.out)
 have hham := Nat.le_trans hl.early.hdr.le hl.early.hdr.max
 unfold maxLen at hham
 clear hl hq HX0 HG0 HG1
 go_enter Tryz.func20, Tryz.ntmps20
 go_upto_region 1 with fail
 generalize (w.alloc (.cells (repA cb cn cc db dn dc sb sn sc eb en ec r.eng.base r.next ab an ac) 35)).alloc (.cells #[.int .i64 e.1, .slice qb qn qc] 26) = A at *
 have PW := hid (logWrong_calls e (.agg #[.int .i64 e.1, .slice qb qn qc]) A (HEV.out.below HBA.out))
 rw [hw] at PW
 have y0 := HE0.out.cell 0 _ rfl
 have y1 := HE0.out.cell 1 _ rfl
 have hl1 : w.heap.size + 1 < A.heap.size := HE0.out.lt
 go_wp2_with fail
 refine PW.out.mono ?_
 rintro _ w1 ⟨rfl, hb1⟩
 have HB1 := hid (below_deep HBA.out hb1)
 have HX1 := hid (HXA.out.below hb1)
 have HE1 := hid (HE0.out.below hb1)
 clear hb1 PW y0 y1 hl1 HXA HE0 HBA
 obtain ⟨-, -, -, -, -, x5, x6⟩ := HX1.out.cells7
 have y0 := HE1.out.cell 0 _ rfl
 have hl0 : w.heap.size < w1.heap.size := HX1.out.lt
 have hl1 : w.heap.size + 1 < w1.heap.size := HE1.out.lt
 by_cases hlt : e.1 < r.next
 · have hd : decide (e.1 < r.next) = true := by simpa using hlt
   have HP : Hid (placeR r e = 11) := by
     show _ = _
     unfold placeR hadR
     rw [hd, Bool.true_or, if_pos rfl]
   go_upto_region 4 with fail
   go_quiet (fail)
   go_wp2
   go_ret
   exact ⟨by rw [HP.out]; rfl, ⟨HB1.out.os, HB1.out.tape, HB1.out.output, HB1.out.size, HB1.out.block⟩⟩
 · have hd : decide (e.1 < r.next) = false := by simpa using hlt
   have HH : Hid (hadR r e = r.early.any (isNum e.1)) := by
     show _ = _
     unfold hadR
     rw [hd, Bool.false_or]
   have PN := hid (fun W => numbered_calls e.1 W)
   have HDR := hid (step_drew (Below.refl w1.heap.size w1))
   have HS0 : Hid ((fun w' => w'.cell? ⟨w.heap.size, 5, none⟩ = some (.int .i64 r.next) ∧ w'.cell? ⟨w.heap.size, 6, none⟩ = some (.slice ab an ac) ∧ w'.cell? ⟨w.heap.size + 1, 0, none⟩ = some (.int .i64 e.1) ∧ Below w1.heap.size w1 w') w1.drew) := ⟨kept_cell HDR.out x5, kept_cell HDR.out x6, kept_cell HDR.out y0, HDR.out⟩
   cases hany : r.early.any (isNum e.1) with
   | true =>
     have HP : Hid (placeR r e = 11) := by
       show _ = _
       unfold placeR
       rw [HH.out, hany, if_pos rfl]
     have PC : Hid (∀ fv W, EntsIn W ab an ac r.early → NumFn W e.1 fv → Calls Tryz.prog 48 #[.slice ab an ac, fv] W fun x w' => x = .returned (.bool true) ∧ Below W.heap.size W w') := fun fv W ha hf => by
       have := contF_calls r.early ab an ac e.1 fv W ha hf
       rw [hany] at this
       exact this
     clear hany
     go_wp2_with fail
     go_region_held3 (fun w' => w'.cell? ⟨w.heap.size, 5, none⟩ = some (.int .i64 r.next) ∧ w'.cell? ⟨w.heap.size, 6, none⟩ = some (.slice ab an ac) ∧ w'.cell? ⟨w.heap.size + 1, 0, none⟩ = some (.int .i64 e.1) ∧ Below w1.heap.size w1 w')
       (first
         | exact HS0.out
         | with_reducible exact place_keep (by assumption) (by assumption))
       (first
         | (go_at_call 49; refine (PN.out _).mono ?_; rintro _ w2 ⟨fv, rfl, hfv, hb2⟩)
         | (go_at_call 48; refine (PC.out fv _ ?_ ?_).mono ?_; exact HL.out.below (below_deep HB1.out (place_held (by assumption))); exact hfv; rintro _ w3 ⟨rfl, hb3⟩))
     have HBF := hid (below_deep HB1.out (below_deep (below_deep HDR.out hb2) hb3))
     go_wp2
     go_ret
     exact ⟨by rw [HP.out]; rfl, HBF.out⟩
   | false =>
     have HP : Hid (placeR r e = if e.1 = r.next then 0 else if 4 ≤ r.early.length then 5 else 12) := by
       show _ = _
       unfold placeR
       rw [HH.out, hany, if_neg (by decide)]
     have PC : Hid (∀ fv W, EntsIn W ab an ac r.early → NumFn W e.1 fv → Calls Tryz.prog 48 #[.slice ab an ac, fv] W fun x w' => x = .returned (.bool false) ∧ Below W.heap.size W w') := fun fv W ha hf => by
       have := contF_calls r.early ab an ac e.1 fv W ha hf
       rw [hany] at this
       exact this
     clear hany
     go_wp2_with fail
     go_region_held3 (fun w' => w'.cell? ⟨w.heap.size, 5, none⟩ = some (.int .i64 r.next) ∧ w'.cell? ⟨w.heap.size, 6, none⟩ = some (.slice ab an ac) ∧ w'.cell? ⟨w.heap.size + 1, 0, none⟩ = some (.int .i64 e.1) ∧ Below w1.heap.size w1 w')
       (first
         | exact HS0.out
         | with_reducible exact place_keep (by assumption) (by assumption))
       (first
         | (go_at_call 49; refine (PN.out _).mono ?_; rintro _ w2 ⟨fv, rfl, hfv, hb2⟩)
         | (go_at_call 48; refine (PC.out fv _ ?_ ?_).mono ?_; exact HL.out.below (below_deep HB1.out (place_held (by assumption))); exact hfv; rintro _ w3 ⟨rfl, hb3⟩))
     have HW3 := hid (below_deep (below_deep HDR.out hb2) hb3)
     have HBF := hid (below_deep HB1.out HW3.out)
     clear x5 x6 y0 hl0 hl1 hb2 hb3 hfv PN PC HS0
     obtain ⟨-, -, -, -, -, x5, x6⟩ := (HX1.out.below HW3.out).cells7
     have y0 := (HE1.out.below HW3.out).cell 0 _ rfl
     have hl0 : w.heap.size < w3.heap.size := (HX1.out.below HW3.out).lt
     have hl1 : w.heap.size + 1 < w3.heap.size := (HE1.out.below HW3.out).lt
     by_cases heq : e.1 = r.next
     · have t : (e.1 == r.next) = true := by simpa using heq
       have HQ : Hid (placeR r e = 0) := by show _ = _; rw [HP.out, if_pos heq]
       go_wp2
       go_ret
       exact ⟨by rw [HQ.out]; rfl, HBF.out⟩
     · have t : (e.1 == r.next) = false := by simpa using heq
       by_cases h4 : 4 ≤ an
       · have h4' : (an : Int) ≥ 4 := by omega
         have HQ : Hid (placeR r e = 5) := by show _ = _; rw [HP.out, if_neg heq, if_pos (by rw [← HAN.out]; exact h4)]
         go_wp2
         go_ret
         exact ⟨by rw [HQ.out]; rfl, HBF.out⟩
       · have h4' : ¬ (an : Int) ≥ 4 := by omega
         have HQ : Hid (placeR r e = 12) := by show _ = _; rw [HP.out, if_neg heq, if_neg (by rw [← HAN.out]; exact h4)]
         go_wp2
         go_ret
         exact ⟨by rw [HQ.out]; rfl, HBF.out⟩
end Go.Proofs.YtlhaeeenkgkdaaaGreatDoor

namespace Go.Proofs.YtlhaeeenkgkdaaaGreatDoor
open Go.Shelf
def lays110_ren : Go.Shelf.Ren := ⟨fun | 110 => 109 | 109 => 84 | n => n, fun | 31 => 41 | 9 => 9 | 4 => 4 | 3 => 3 | 0 => 0 | n => n, fun | n => n⟩
theorem lays110 : Go.Proofs.Lays.n110 Tryz.prog lays110_ren := {
  mixed := by kernel_rfl
  f109 := Tryz.func84.trans (congrArg some (by kernel_rfl))
  f110 := Tryz.func109.trans (congrArg some (by kernel_rfl))
  t0 := Tryz.underlying0
  a0 := Tryz.isAgg0
  z0 := Tryz.sizeOf0
  v0 := Tryz.zeroValue0
  t3 := Tryz.underlying3
  a3 := Tryz.isAgg3
  z3 := Tryz.sizeOf3
  v3 := Tryz.zeroValue3
  t4 := Tryz.underlying4
  a4 := Tryz.isAgg4
  z4 := Tryz.sizeOf4
  v4 := Tryz.zeroValue4
  t9 := Tryz.underlying9
  a9 := Tryz.isAgg9
  z9 := Tryz.sizeOf9
  v9 := Tryz.zeroValue9
  t31 := Tryz.underlying41
  a31 := Tryz.isAgg41
  z31 := Tryz.sizeOf41
  v31 := Tryz.zeroValue41 }
def lays189_ren : Go.Shelf.Ren := ⟨fun | 189 => 98 | 125 => 121 | 257 => 120 | 128 => 144 | 129 => 145 | 294 => 135 | 295 => 136 | 296 => 137 | 297 => 138 | 298 => 139 | 299 => 140 | 216 => 141 | 300 => 142 | 301 => 143 | 328 => 154 | 329 => 155 | 330 => 156 | 331 => 157 | 332 => 158 | 215 => 159 | 343 => 163 | n => n, fun | 28 => 23 | 3 => 3 | 46 => 163 | 0 => 0 | 51 => 189 | 53 => 168 | 4 => 4 | 183 => 182 | 182 => 181 | 131 => 86 | 5 => 5 | 9 => 9 | 218 => 199 | 222 => 203 | 228 => 205 | 229 => 206 | n => n, fun | n => n⟩
theorem lays189 : Go.Proofs.Lays.n189 Tryz.prog lays189_ren := {
  mixed := by kernel_rfl
  f125 := Tryz.func121.trans (congrArg some (by kernel_rfl))
  f128 := Tryz.func144.trans (congrArg some (by kernel_rfl))
  f129 := Tryz.func145.trans (congrArg some (by kernel_rfl))
  f189 := Tryz.func98.trans (congrArg some (by kernel_rfl))
  f215 := Tryz.func159.trans (congrArg some (by kernel_rfl))
  f216 := Tryz.func141.trans (congrArg some (by kernel_rfl))
  f257 := Tryz.func120.trans (congrArg some (by kernel_rfl))
  f294 := Tryz.func135.trans (congrArg some (by kernel_rfl))
  f295 := Tryz.func136.trans (congrArg some (by kernel_rfl))
  f296 := Tryz.func137.trans (congrArg some (by kernel_rfl))
  f297 := Tryz.func138.trans (congrArg some (by kernel_rfl))
  f298 := Tryz.func139.trans (congrArg some (by kernel_rfl))
  f299 := Tryz.func140.trans (congrArg some (by kernel_rfl))
  f300 := Tryz.func142.trans (congrArg some (by kernel_rfl))
  f301 := Tryz.func143.trans (congrArg some (by kernel_rfl))
  f328 := Tryz.func154.trans (congrArg some (by kernel_rfl))
  f329 := Tryz.func155.trans (congrArg some (by kernel_rfl))
  f330 := Tryz.func156.trans (congrArg some (by kernel_rfl))
  f331 := Tryz.func157.trans (congrArg some (by kernel_rfl))
  f332 := Tryz.func158.trans (congrArg some (by kernel_rfl))
  f343 := Tryz.func163.trans (congrArg some (by kernel_rfl))
  t0 := Tryz.underlying0
  a0 := Tryz.isAgg0
  z0 := Tryz.sizeOf0
  v0 := Tryz.zeroValue0
  t3 := Tryz.underlying3
  a3 := Tryz.isAgg3
  z3 := Tryz.sizeOf3
  v3 := Tryz.zeroValue3
  t4 := Tryz.underlying4
  a4 := Tryz.isAgg4
  z4 := Tryz.sizeOf4
  v4 := Tryz.zeroValue4
  t5 := Tryz.underlying5
  a5 := Tryz.isAgg5
  z5 := Tryz.sizeOf5
  v5 := Tryz.zeroValue5
  t9 := Tryz.underlying9
  a9 := Tryz.isAgg9
  z9 := Tryz.sizeOf9
  v9 := Tryz.zeroValue9
  t28 := Tryz.underlying23
  a28 := Tryz.isAgg23
  z28 := Tryz.sizeOf23
  v28 := Tryz.zeroValue23
  t46 := Tryz.underlying163
  a46 := Tryz.isAgg163
  z46 := Tryz.sizeOf163
  v46 := Tryz.zeroValue163
  t51 := Tryz.underlying189
  a51 := Tryz.isAgg189
  z51 := Tryz.sizeOf189
  v51 := Tryz.zeroValue189
  t53 := Tryz.underlying168
  a53 := Tryz.isAgg168
  z53 := Tryz.sizeOf168
  v53 := Tryz.zeroValue168
  t131 := Tryz.underlying86
  a131 := Tryz.isAgg86
  z131 := Tryz.sizeOf86
  v131 := Tryz.zeroValue86
  t182 := Tryz.underlying181
  a182 := Tryz.isAgg181
  z182 := Tryz.sizeOf181
  v182 := Tryz.zeroValue181
  t183 := Tryz.underlying182
  a183 := Tryz.isAgg182
  z183 := Tryz.sizeOf182
  v183 := Tryz.zeroValue182
  t218 := Tryz.underlying199
  a218 := Tryz.isAgg199
  z218 := Tryz.sizeOf199
  v218 := Tryz.zeroValue199
  t222 := Tryz.underlying203
  a222 := Tryz.isAgg203
  z222 := Tryz.sizeOf203
  v222 := Tryz.zeroValue203
  t228 := Tryz.underlying205
  a228 := Tryz.isAgg205
  z228 := Tryz.sizeOf205
  v228 := Tryz.zeroValue205
  t229 := Tryz.underlying206
  a229 := Tryz.isAgg206
  z229 := Tryz.sizeOf206
  v229 := Tryz.zeroValue206 }
def laysB20_ren : Go.Shelf.Ren := ⟨fun | 20 => 99 | n => n, fun | 22 => 23 | 3 => 3 | 4 => 4 | 0 => 0 | n => n, fun | n => n⟩
theorem laysB20 : Go.Proofs.Lays2.n20 Tryz.prog laysB20_ren := {
  mixed := by kernel_rfl
  f20 := Tryz.func99.trans (congrArg some (by kernel_rfl))
  t0 := Tryz.underlying0
  a0 := Tryz.isAgg0
  z0 := Tryz.sizeOf0
  v0 := Tryz.zeroValue0
  t3 := Tryz.underlying3
  a3 := Tryz.isAgg3
  z3 := Tryz.sizeOf3
  v3 := Tryz.zeroValue3
  t4 := Tryz.underlying4
  a4 := Tryz.isAgg4
  z4 := Tryz.sizeOf4
  v4 := Tryz.zeroValue4
  t22 := Tryz.underlying23
  a22 := Tryz.isAgg23
  z22 := Tryz.sizeOf23
  v22 := Tryz.zeroValue23
  i3 := by kernel_rfl }
end Go.Proofs.YtlhaeeenkgkdaaaGreatDoor

namespace Go.Proofs.YtlhaeeenkgkdaaaGreatDoor
open Go.RowKit Go.Shelf

theorem sort_calls (zs : List Int) (B g n c : Nat) (w : World) (h : w.ownsRow B 3 1 (.slice (some ⟨g, 0, none⟩) n c) n (intsC zs)) (hn : n ≤ 4000000) :
   Calls Tryz.prog 98 #[.slice (some ⟨g, 0, none⟩) n c] w fun e w' => e = .returned (.tuple #[]) ∧ w'.ownsRow B 3 1 (.slice (some ⟨g, 0, none⟩) n c) n (intsC (zs.mergeSort fun x y => decide (x ≤ y))) ∧ w.grownBy w' (some g) := by
 obtain ⟨g', cap, hv, hB, hlt, hnc, hcm, hlen, hH⟩ := Lib.holds_of_ownsRow (enc := Value.int .i64) (zs := zs) h (by simp)
 simp only [Value.slice.injEq, Option.some.injEq, Addr.mk.injEq, and_true, true_and] at hv
 obtain ⟨rfl, rfl⟩ := hv
 subst hlen
 refine (Any.slices_Sort_int lays189 g 0 c zs w hH hlt (by omega)).mono ?_
 rintro e w' ⟨rfl, k, os, rfl⟩
 refine ⟨rfl, ?_, grownBy_sortedI _⟩
 rcases h.2 with ⟨h0, _⟩ | ⟨g', cap', cur, hv, hbase, hb, h1, h2, h3, h4⟩
 · cases h0
 · cases hv
   exact ownsRow_sortedI (n := k) (os := os) (ts := zs.mergeSort fun x y => decide (x ≤ y)) (List.length_mergeSort zs) hbase hb h1 h2 h3
theorem compact_calls (zs : List Int) (B g n c : Nat) (w : World) (h : w.ownsRow B 3 1 (.slice (some ⟨g, 0, none⟩) n c) n (intsC zs)) (hn : n ≤ 4000000) :
   Calls Tryz.prog 99 #[.slice (some ⟨g, 0, none⟩) n c] w fun e w' => e = .returned (.slice (some ⟨g, 0, none⟩) (Lib.compact zs).length c) ∧ w'.ownsRow B 3 1 (.slice (some ⟨g, 0, none⟩) (Lib.compact zs).length c) (Lib.compact zs).length (intsC (Lib.compact zs)) ∧ ∀ w0, Below B w0 w → Below B w0 w' := by
 obtain ⟨g', cap, hv, hB, hlt, hnc, hcm, hlen, hH⟩ := Lib.holds_of_ownsRow (enc := Value.int .i64) (zs := zs) h (by simp)
 simp only [Value.slice.injEq, Option.some.injEq, Addr.mk.injEq, and_true, true_and] at hv
 obtain ⟨rfl, rfl⟩ := hv
 subst hlen
 have hle := Lib.compact_length_le zs
 refine (Any.slices_Compact_int laysB20 g 0 c zs w hH (by omega) hnc).mono ?_
 rintro e w' ⟨rfl, q, rfl⟩
 refine ⟨rfl, ?_, fun w0 hb => Lib.below_putRow hb hB⟩
 have := Lib.ownsRow_putRow (q := q) (k := (Lib.compact zs).length) (ys := Lib.compact zs ++ List.replicate (zs.length - (Lib.compact zs).length) 0) h (by simp; omega) hle
 rw [List.take_left] at this
 exact this
end Go.Proofs.YtlhaeeenkgkdaaaGreatDoor
