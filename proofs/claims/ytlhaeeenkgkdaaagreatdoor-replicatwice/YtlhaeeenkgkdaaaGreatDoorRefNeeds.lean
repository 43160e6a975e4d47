/-
  The document's own Before and RowsAt, walked.
  The document's own Needs and Ready of an engine, walked.
-/
import Derived.Test.YtlhaeeenkgkdaaaGreatDoorRefRight
import Derived.Test.YtlhaeeenkgkdaaaGreatDoorEngGood
import Derived.Test.YtlhaeeenkgkdaaaGreatDoorPlanMath
namespace Go.Proofs.YtlhaeeenkgkdaaaGreatDoor
open Go.RowKit

theorem befC_snoc (k : ByteArray) (by_ : Int) (c : Chn) : ∀ (L : List Chn) (o : Ver), befC k by_ (L ++ [c]) o = if c.1 = k then befV by_ c.2 (befC k by_ L o) else befC k by_ L o
 | [], o => rfl
 | x :: L, o => by rw [List.cons_append, befC, befC, befC_snoc k by_ c L]
theorem befV_snoc (by_ : Int) (v : Ver) (l : List Ver) (o : Ver) : befV by_ (l ++ [v]) o = if v.by_ < by_ then v else befV by_ l o := by rw [befV_append]; rfl

structure BefIs (w wr : World) (y : Int) (m h : Bool) (x : Int) : Prop where
 out : Four wr (w.heap.size + 1) y m h x
 ofr : Free4 wr (w.heap.size + 1)
 res : Four wr w.heap.size 0 false false 0
 rfr : Free4 wr w.heap.size
 bel : Below w.heap.size w wr
theorem BefIs.deep {w wr w' : World} {y : Int} {m h : Bool} {x : Int} (k : BefIs w wr y m h x) (hb : Below wr.heap.size wr w') : BefIs w w' y m h x :=
 ⟨k.out.below hb, k.ofr.below hb k.out.lt, k.res.below hb, k.rfr.below hb k.res.lt, below_deep k.bel hb⟩
theorem Free4.set {w : World} {b : Nat} (h : Free4 w b) (p : Addr) (u : Value) : Free4 (w.setCell p u) b :=
 ⟨by rw [World.frozen?_setCell]; exact h.f0, by rw [World.frozen?_setCell]; exact h.f1, by rw [World.frozen?_setCell]; exact h.f2, by rw [World.frozen?_setCell]; exact h.f3⟩
theorem Four.far {w : World} {b : Nat} {y : Int} {m h : Bool} {x : Int} (k : Four w b y m h x) {p : Addr} (hp : p.block ≠ b) (u : Value) : Four (w.setCell p u) b y m h x := by
 have e : ∀ j, (w.setCell p u).cell? ⟨b, j, none⟩ = w.cell? ⟨b, j, none⟩ := fun j => World.cell?_setCell_other _ _ _ _ (fun e => hp (by rw [e]))
 exact ⟨by rw [e]; exact k.c0, by rw [e]; exact k.c1, by rw [e]; exact k.c2, by rw [e]; exact k.c3⟩
theorem BefIs.put {w wr : World} {y : Int} {m h : Bool} {x : Int} (k : BefIs w wr y m h x) (y' : Int) (m' h' : Bool) (x' : Int) :
   BefIs w ((((wr.setCell ⟨w.heap.size + 1, 0, none⟩ (.int .i64 y')).setCell ⟨w.heap.size + 1, 1, none⟩ (.bool m')).setCell ⟨w.heap.size + 1, 2, none⟩ (.bool h')).setCell ⟨w.heap.size + 1, 3, none⟩ (.int .i64 x')) y' m' h' x' := by
 refine ⟨k.out.put _ _ _ _, (((k.ofr.set _ _).set _ _).set _ _).set _ _, ?_, (((k.rfr.set _ _).set _ _).set _ _).set _ _, four_below k.bel (by omega)⟩
 exact (((k.res.far (p := ⟨w.heap.size + 1, 0, none⟩) (by simp) _).far (p := ⟨w.heap.size + 1, 1, none⟩) (by simp) _).far (p := ⟨w.heap.size + 1, 2, none⟩) (by simp) _).far (p := ⟨w.heap.size + 1, 3, none⟩) (by simp) _
theorem far4 {w : World} {b c j : Nat} {u0 u1 u2 u3 v : Value} (hne : b ≠ c) (h : w.cell? ⟨c, j, none⟩ = some v) : ((((w.setCell ⟨b, 0, none⟩ u0).setCell ⟨b, 1, none⟩ u1).setCell ⟨b, 2, none⟩ u2).setCell ⟨b, 3, none⟩ u3).cell? ⟨c, j, none⟩ = some v := by
 rw [World.cell?_setCell_far _ _ _ _ hne, World.cell?_setCell_far _ _ _ _ hne, World.cell?_setCell_far _ _ _ _ hne, World.cell?_setCell_far _ _ _ _ hne]; exact h
theorem refBefore_results (tmps : Array Value) (b : Nat) (w : World) {y : Int} {m h : Bool} {x : Int} (h4 : tmps.getD 6 undef = .pointer (some ⟨b, 0, none⟩)) (k : Four w b y m h x) :
   (results Tryz.f40 tmps).run Tryz.prog w = .ok (.agg #[.int .i64 y, .bool m, .bool h, .int .i64 x]) w := by
 have h4' : tmps[6]?.getD undef = .pointer (some ⟨b, 0, none⟩) := by simpa using h4
 simp [results, Tryz.results40, go_sem, h4', k.c0, k.c1, k.c2, k.c3]

set_option maxHeartbeats 4000000 in
set_option maxRecDepth 100000 in
theorem refBefore_calls (L : List Chn) (base : Option Addr) (n c : Nat) (k : ByteArray) (by_ : Int) (w : World) (hs : SrtC L) (ha : ChainsIn w base n c L) :
   Calls Tryz.prog 40 #[.slice base n c, .string k, .int .i64 by_] w fun e w' => VerTold w w' (before L k by_) e := by
 have hdm := Nat.le_trans ha.hdr.le ha.hdr.max
 unfold maxLen at hdm
 have HA := hid ha
 have HLN := hid ha.len
 have HE : Hid (befC k by_ L ver0 = before L k by_) := befC_is ver0 hs
 clear ha hs
 have HST : Hid (BefIs w ((w.alloc (.cells #[.int .i64 0, .bool false, .bool false, .int .i64 0] 78)).alloc (.cells #[.int .i64 (-1), .bool true, .bool false, .int .i64 0] 78)) (-1) true false 0) := by
   have h1 := Four.box w 0 false false 0 78
   have h2 := Four.box (w.alloc (.cells #[.int .i64 0, .bool false, .bool false, .int .i64 0] 78)) (-1) true false 0 78
   have h3 := Free4.box (w.alloc (.cells #[.int .i64 0, .bool false, .bool false, .int .i64 0] 78)) #[.int .i64 (-1), .bool true, .bool false, .int .i64 0] 78
   rw [World.size_alloc] at h2 h3
   exact ⟨h2, h3, h1.below (grew _ _), (Free4.box w _ _).below (grew _ _) h1.lt, below_deep (grew _ _) (grew _ _)⟩
 go_enter Tryz.func40, Tryz.ntmps40
 go_wp2
 go_loopw [15] (fun i wr => ∃ (j : Nat) (y : Int) (m h : Bool) (x : Int), j ≤ n ∧ i = .int .i64 j ∧ Hid (befC k by_ (L.take j) ver0 = (y, m, h, x)) ∧ Hid (BefIs w wr y m h x)) (fun i _ => n - (intOf i).toNat)
 case atStart => exact ⟨0, -1, true, false, 0, Nat.zero_le _, rfl, rfl, HST⟩
 case round =>
   obtain ⟨j, y, m, h, x, hj, rfl, HV, HBI⟩ := hrel
   by_cases hlt : j < n
   · have hjl : j < L.length := by rw [← HLN.out]; exact hlt
     have hi : (j : Int) < (n : Int) := by omega
     rcases HA.out.run with hh | ⟨b, o, rfl, hrun⟩
     · omega
     obtain ⟨vb, vn, vc, c0w, c1w, hvv, hkz⟩ := hrun j hlt
     have c0 := kept_cell HBI.out.bel c0w
     have c1 := kept_cell HBI.out.bel c1w
     have hbw : b < wr.heap.size := by simpa using World.block_lt_of_cell? _ _ c0
     have hvm := Nat.le_trans hvv.hdr.le hvv.hdr.max
     unfold maxLen at hvm
     have HVC := hid (Vers.count hvv)
     obtain ⟨key, vs, hx⟩ : ∃ key vs, L.getD j default = (key, vs) := ⟨_, _, rfl⟩
     have HSN := hid (befC_snoc k by_ (L.getD j default) (L.take j) ver0)
     rw [← take_snoc_getD hjl] at HSN
     rw [hx] at c0 hvv HVC HSN
     simp only at c0 hvv HVC HSN
     rw [HV.out] at HSN
     have HVW := hid hvv
     clear hx hrun hvv hkz c0w c1w
     generalize wr = wa at *
     have HB0 := hid (HBI.out.deep (grew wa (.cells #[.string key, .slice vb vn vc] 115)))
     have HK0 := hid (box_cell wa #[.string key, .slice vb vn vc] 115 0 _ rfl)
     have hwl : w.heap.size + 1 < wa.heap.size := HBI.out.out.lt
     go_wp2
     go_loopw [22] (fun i wr => ∃ (t : Nat) (y' : Int) (m' h' : Bool) (x' : Int), t ≤ vn ∧ i = .int .i64 t ∧ Hid ((if key = k then befV by_ (vs.take t) (y, m, h, x) else (y, m, h, x)) = (y', m', h', x')) ∧ Hid (BefIs w wr y' m' h' x') ∧ Hid (wr.cell? ⟨wa.heap.size, 0, none⟩ = some (.string key))) (fun i _ => vn - (intOf i).toNat)
     case atStart => exact ⟨0, y, m, h, x, Nat.zero_le _, rfl, (by show _ = _; simp [befV]), HB0, HK0⟩
     case round =>
       obtain ⟨t, y', m', h', x', ht, rfl, HV2, HB2, HK2⟩ := hrel
       by_cases htn : t < vn
       · have htl : t < vs.length := by rw [← HVC.out]; exact htn
         have hti : (t : Int) < (vn : Int) := by omega
         rcases (HVW.out.below (by decide) HB2.out.bel).run with hh | ⟨b2, o2, rfl, hvr⟩
         · omega
         obtain ⟨v0, v1, v2, v3⟩ := Vers.cells hvr htl
         have hbv : b2 < wr.heap.size := by simpa using World.block_lt_of_cell? _ _ v0
         have x0 := HK2.out
         have hxl : wa.heap.size < wr.heap.size := by simpa using World.block_lt_of_cell? _ _ x0
         have HTK := hid (take_snoc_getD htl)
         obtain ⟨y3, m3, h3, x3, hx⟩ : ∃ y3 m3 h3 x3, vs.getD t default = (y3, m3, h3, x3) := ⟨_, _, _, _, rfl⟩
         rw [hx] at v0 v1 v2 v3 HTK
         simp only [Ver.by_, Ver.made, Ver.has_, Ver.n] at v0 v1 v2 v3
         clear hx hvr
         have HB3 := hid (HB2.out.deep (grew wr (.cells #[.int .i64 y3, .bool m3, .bool h3, .int .i64 x3] 78)))
         have HK3 := hid (box_past (.cells #[.int .i64 y3, .bool m3, .bool h3, .int .i64 x3] 78) HK2.out)
         by_cases he : key = k
         · have t1 : (key.toList == k.toList) = true := by rw [he]; simp
           by_cases hlo : y3 < by_
           · have d1 : decide (y3 < by_) = true := by simpa using hlo
             have HV4 : Hid ((if key = k then befV by_ (vs.take (t + 1)) (y, m, h, x) else (y, m, h, x)) = (y3, m3, h3, x3)) := by
               show _ = _
               rw [if_pos he, HTK.out, befV_snoc]
               exact if_pos hlo
             obtain ⟨g0, g1, g2, g3⟩ := HB2.out.out
             obtain ⟨f0, f1, f2, f3⟩ := HB2.out.ofr
             have hol : w.heap.size + 1 < wr.heap.size := by omega
             have HBP := hid ((HB2.out.put y3 m3 h3 x3).deep (grew _ (.cells #[.int .i64 y3, .bool m3, .bool h3, .int .i64 x3] 78)))
             have HKP := hid (box_past (.cells #[.int .i64 y3, .bool m3, .bool h3, .int .i64 x3] 78) (far4 (u0 := .int .i64 y3) (u1 := .bool m3) (u2 := .bool h3) (u3 := .int .i64 x3) (show w.heap.size + 1 ≠ wa.heap.size by omega) HK2.out))
             clear he hlo
             go_wp2
             go_roundw
             case rel => exact ⟨t + 1, y3, m3, h3, x3, by omega, by go_num, HV4, HBP, HKP⟩
             case measure => simp [intOf]; omega
           · have d1 : decide (y3 < by_) = false := by simpa using hlo
             have HV4 : Hid ((if key = k then befV by_ (vs.take (t + 1)) (y, m, h, x) else (y, m, h, x)) = (y', m', h', x')) := by
               have := HV2.out
               show _ = _
               rw [if_pos he] at this ⊢
               rw [HTK.out, befV_snoc, ← this]
               exact if_neg hlo
             clear he hlo
             go_wp2
             go_roundw
             case rel => exact ⟨t + 1, y', m', h', x', by omega, by go_num, HV4, HB3, HK3⟩
             case measure => simp [intOf]; omega
         · have t1 : (key.toList == k.toList) = false := by simpa using fun e => he (toList_inj e)
           have HV4 : Hid ((if key = k then befV by_ (vs.take (t + 1)) (y, m, h, x) else (y, m, h, x)) = (y', m', h', x')) := by
             have := HV2.out
             show _ = _
             rw [if_neg he] at this ⊢
             exact this
           clear he
           go_wp2
           go_roundw
           case rel => exact ⟨t + 1, y', m', h', x', by omega, by go_num, HV4, HB3, HK3⟩
           case measure => simp [intOf]; omega
       · obtain rfl : t = vn := by omega
         have HV5 : Hid (befC k by_ (L.take (j + 1)) ver0 = (y', m', h', x')) := by
           have := HV2.out
           rw [List.take_of_length_le (by rw [← HVC.out]; exact Nat.le_refl _)] at this
           show _ = _
           rw [HSN.out]; exact this
         go_wp2
         go_roundw
         case rel => exact ⟨j + 1, y', m', h', x', by omega, by go_num, HV5, HB2⟩
         case measure => simp [intOf]; omega
   · obtain rfl : j = n := by omega
     have HV3 : Hid (before L k by_ = (y, m, h, x)) := by
       have := HV.out
       rw [List.take_of_length_le (by rw [← HLN.out]; exact Nat.le_refl _)] at this
       show _ = _
       rw [← HE.out]; exact this
     obtain ⟨g0, g1, g2, g3⟩ := HBI.out.out
     obtain ⟨r0, r1, r2, r3⟩ := HBI.out.res
     obtain ⟨f0, f1, f2, f3⟩ := HBI.out.rfr
     have hol : w.heap.size + 1 < wr.heap.size := HBI.out.out.lt
     have hol2 : w.heap.size < wr.heap.size := by omega
     go_wp2
     (try simp only [Exit.inBlock, Exit.then])
     refine bodyPost_ret (refBefore_results _ w.heap.size _ rfl (HBI.out.res.put _ _ _ _)) rfl ?_
     exact ⟨_, _, _, _, HV3.out, rfl, four_below HBI.out.bel (Nat.le_refl _)⟩

end Go.Proofs.YtlhaeeenkgkdaaaGreatDoor

namespace Go.Proofs.YtlhaeeenkgkdaaaGreatDoor
open Go.RowKit

def IntsTold (w w' : World) (l : List Int) (x : Ending) : Prop := ∃ nb nn nc, x = .returned (.slice nb nn nc) ∧ Ints w' nb nn nc l ∧ Below w.heap.size w w'
theorem ints_snoc (l : List Nat) (j : Nat) : ints (l ++ [j]) = ints l ++ [(j : Int)] := by simp [ints]
theorem filter_next (g : Nat → Bool) (j : Nat) : (List.range (j + 1)).filter g = (List.range j).filter g ++ if g j = true then [j] else [] := by
 rw [List.range_succ, List.filter_append]
 congr 1
 by_cases h : g j = true
 · simp [h]
 · simp [h]
theorem any_next {α : Type} [Inhabited α] (f : α → Bool) {K : List α} {q : Nat} (h : q < K.length) : (K.take (q + 1)).any f = ((K.take q).any f || f (K.getD q default)) := by
 rw [take_snoc_getD h, List.any_append]
 simp

set_option maxHeartbeats 8000000 in
set_option maxRecDepth 100000 in
theorem refNeeds_calls {r0 : List Row} {D : List Deed3} {m : Nat} {dq : Nat → Bool} {bq : ByteArray → Int} {e : Eng} (G : Good r0 D m dq bq e) (hD : D.length ≤ 1954687338211) (p : Nat) (hp : m + p < D.length) (v : Value) (w : World) (hv : EngIn w v e) :
   Calls Tryz.prog 38 #[v, .int .i64 p] w fun x w' => IntsTold w w' (ints (needsE e p)) x := by
 obtain ⟨cb, cn, cc, db, dn, dc, sb, sn, sc, eb, en, ec, rfl, hl⟩ := hv
 have hle := G.le
 have hpl : p < e.deeds.length := by rw [G.len]; omega
 have hpn : p < dn := by rw [hl.de.len]; exact hpl
 have hz0 : 0 ≤ e.base := by rw [G.base]; omega
 have hz1 : e.base ≤ 1954687338211 := by rw [G.base]; omega
 have hp1 : p ≤ 1954687338211 := by omega
 have hpi : (p : Int) < (dn : Int) := by omega
 have hRD : RightDD (e.deeds.getD p default) := by rw [G.deed]; exact rights_at G.right hp
 have HSR := hid G.srt
 have HW5 := hid (wKeys_len hRD.w)
 have HR5 := hid (wKeys_len hRD.r)
 have HBX := hid (Box.new w #[.slice cb cn cc, .slice db dn dc, .slice sb sn sc, .slice eb en ec, .int .i64 e.base] 33)
 have HBA := hid (grew w (.cells #[.slice cb cn cc, .slice db dn dc, .slice sb sn sc, .slice eb en ec, .int .i64 e.base] 33))
 have HL := hid (hl.below HBA.out)
 have hdm := Nat.le_trans hl.de.hdr.le hl.de.hdr.max
 unfold maxLen at hdm
 have HNE : Hid (∀ j, needE e p j = (keysD (e.deeds.getD p default)).any (fun x => !(before e.chains x (e.base + p)).made && decide ((before e.chains x (e.base + p)).by_ = e.base + j))) := fun _ => rfl
 have HFIN : Hid (needsE e p = (List.range p).filter (needE e p)) := rfl
 clear G hD hp hle hl hRD hpl
 go_enter Tryz.func38, Tryz.ntmps38
 go_wp2
 generalize w.alloc (.cells #[.slice cb cn cc, .slice db dn dc, .slice sb sn sc, .slice eb en ec, .int .i64 e.base] 33) = A at *
 have HALT : Hid (w.heap.size < A.heap.size) := HBX.out.lt
 go_loopw [5, 11] (fun ov i wr => ∃ j r : Nat, j ≤ p ∧ r ≤ j ∧ i = .int .i64 j ∧ Hid (((List.range j).filter (needE e p)).length = r) ∧ Hid (wr.ownsRow A.heap.size 3 1 ov r (intsC (ints ((List.range j).filter (needE e p))))) ∧ Hid (Below A.heap.size A wr)) (fun _ i _ => p - (intOf i).toNat)
 case atStart => exact ⟨0, 0, Nat.zero_le _, Nat.le_refl _, rfl, rfl, World.ownsRow_nil _ _ _ _, Below.refl _ _⟩
 case round =>
   obtain ⟨j, r, hj, hr, rfl, HR, HO, HBR⟩ := hrel
   generalize u5 = ov at *
   by_cases hlt : j < p
   · have hi : (j : Int) < (p : Int) := by omega
     obtain ⟨b1, o1, rfl, hrun⟩ : ∃ b1 o1, db = some ⟨b1, o1, none⟩ ∧ ∀ i, i < dn → DeedHere wr b1 (o1 + i * 3) (e.deeds.getD i default) := by
       rcases (HL.out.below HBR.out).de.run with h | h
       · omega
       · exact h
     obtain ⟨rb, rn, rc, wb, wn, wc, xb, xn, xc, k0, k1, k2, hdi, hs1, hs2⟩ := hrun p hpn
     have c1 := (HBX.out.below HBR.out).cell 1 _ rfl
     have hlw : w.heap.size < wr.heap.size := (HBX.out.below HBR.out).lt
     have hb1w : b1 < wr.heap.size := by simpa using World.block_lt_of_cell? _ _ k0
     have HKE := hid (refKeys_calls (e.deeds.getD p default) rb rn rc wb wn wc xb xn xc wr hdi (by rw [Texts.count hdi.tr]; exact HR5.out) (by rw [Texts.count hdi.tw]; exact HW5.out))
     have HNJ := hid (HNE.out j)
     have HFN := hid (filter_next (needE e p) j)
     clear hrun hdi hs1 hs2
     generalize (List.range j).filter (needE e p) = F at *
     go_wp2_with fail
     refine HKE.out.mono ?_
     rintro x w1 ⟨kb, kn, kc, rfl, hk1, hb1⟩
     have HB1 := hid (below_deep HBR.out hb1)
     have HO1 := hid (owns_keep HO.out hb1)
     have HKT := hid hk1
     have HKL := hid (Texts.count hk1)
     have hkm := Nat.le_trans hk1.hdr.le hk1.hdr.max
     unfold maxLen at hkm
     clear hk1 hb1 HKE c1 k0 k1 k2
     generalize keysD (e.deeds.getD p default) = K at *
     go_wp2
     generalize wr = wa at *
     go_loopw [5, 21] (fun ov2 i wr => ∃ q : Nat, q ≤ kn ∧ i = .int .i64 q ∧ ov2 = ov ∧ Hid ((K.take q).any (fun x => !(before e.chains x (e.base + p)).made && decide ((before e.chains x (e.base + p)).by_ = e.base + j)) = false) ∧ Hid (Below w1.heap.size w1 wr)) (fun _ i _ => kn - (intOf i).toNat)
     case atStart => exact ⟨0, Nat.zero_le _, rfl, rfl, rfl, Below.refl _ _⟩
     case round =>
       obtain ⟨q, hq, rfl, rfl, HQ, HBQ⟩ := hrel
       have HBAQ := hid (below_deep HB1.out HBQ.out)
       by_cases hql : q < kn
       · have hqK : q < K.length := by rw [← HKL.out]; exact hql
         have hiq : (q : Int) < (kn : Int) := by omega
         rcases (HKT.out.below (by decide) HBQ.out).run with h | ⟨b2, o2, rfl, h2⟩
         · omega
         have d0 := h2 q _ (strs_at hqK)
         have hb2w : b2 < wr.heap.size := by simpa using World.block_lt_of_cell? _ _ d0
         have HAN := hid (any_next (fun x => !(before e.chains x (e.base + p)).made && decide ((before e.chains x (e.base + p)).by_ = e.base + j)) hqK)
         rw [HQ.out, Bool.false_or] at HAN
         have e0 := (HBX.out.below HBAQ.out).cell 0 _ rfl
         have e4 := (HBX.out.below HBAQ.out).cell 4 _ rfl
         have hlw2 : w.heap.size < wr.heap.size := (HBX.out.below HBAQ.out).lt
         have HBE := hid (refBefore_calls e.chains cb cn cc (K.getD q default) (e.base + p) wr HSR.out (HL.out.below HBAQ.out).ch)
         clear h2
         generalize K.getD q default = k at *
         have hwp : IntKind.i64.wrap (e.base + (p : Int)) = e.base + p := by rw [IntKind.wrap_i64]; omega
         go_wp2_with fail
         refine HBE.out.mono ?_
         rintro x w2 ⟨y, mm, hh, n2, hbf, rfl, hb2⟩
         rw [hbf] at HAN
         simp only [Ver.made, Ver.by_] at HAN
         have HB2 := hid (below_deep HBQ.out hb2)
         have HBA2 := hid (below_deep HBAQ.out hb2)
         have g4 := (HBX.out.below HBA2.out).cell 4 _ rfl
         have hlw3 : w.heap.size < w2.heap.size := (HBX.out.below HBA2.out).lt
         have HGW := hid (grew w2 (.cells #[.int .i64 y, .bool mm, .bool hh, .int .i64 n2] 78))
         clear hb2 HBE hbf e0 e4 d0 hwp
         have hwj : IntKind.i64.wrap (e.base + (j : Int)) = e.base + j := by rw [IntKind.wrap_i64]; omega
         cases mm with
         | true =>
           have HQ2 : Hid ((K.take (q + 1)).any (fun x => !(before e.chains x (e.base + p)).made && decide ((before e.chains x (e.base + p)).by_ = e.base + j)) = false) := by show _ = _; rw [HAN.out]; rfl
           go_wp2
           go_roundw
           case rel => exact ⟨q + 1, by omega, by go_num, rfl, HQ2, below_deep HB2.out HGW.out⟩
           case measure => simp [intOf]; omega
         | false =>
           by_cases hy : y = e.base + j
           · have HQ2 : Hid (needE e p j = true) := by
               show _ = _
               rw [HNJ.out, List.any_eq_true]
               have h1 : (K.take (q + 1)).any (fun x => !(before e.chains x (e.base + p)).made && decide ((before e.chains x (e.base + p)).by_ = e.base + j)) = true := by rw [HAN.out, hy]; simp
               obtain ⟨x, hx, h3⟩ := List.any_eq_true.1 h1
               exact ⟨x, List.mem_of_mem_take hx, h3⟩
             have t : (y == e.base + (j : Int)) = true := by simp [hy]
             have HFJ : Hid ((List.range (j + 1)).filter (needE e p) = F ++ [j]) := by show _ = _; rw [HFN.out, if_pos HQ2.out]
             have HOX := hid ((owns_keep (owns_keep HO1.out HB2.out) HGW.out).alloc (.cells #[.int .i64 j] 3))
             have HC1 := hid (lies_one (w2.alloc (.cells #[.int .i64 y, .bool false, .bool hh, .int .i64 n2] 78)) #[.int .i64 (j : Int)] 3 1 rfl)
             rw [World.size_alloc] at HC1
             have HBX2 := hid (step_box (step_box HBA2.out (.cells #[.int .i64 y, .bool false, .bool hh, .int .i64 n2] 78)) (.cells #[.int .i64 (j : Int)] 3))
             have HBY : Hid ((r + 1) * 8 ≤ 140737488355328) := by show _ ≤ _; omega
             have HSZ := hid HBX2.out.size
             clear hy
             go_wp2_with (at_builtin; refine wpList_onto _ rfl _ _ 23 3 1 8 _ Tryz.underlying23 intInfo rfl (by decide) (by decide) rfl A.heap.size _ r _ rfl HOX.out _ 1 _ _ rfl HC1.out (intsC_one [(j : Int)]) HBY.out HSZ.out ?_)
             intro v3 w3 hown3 hg3
             have HB3 := hid (step_row HBX2.out HOX.out hg3)
             have HO3 : Hid (w3.ownsRow A.heap.size 3 1 v3 (r + 1) (intsC (ints (F ++ [j])))) := by
               show World.ownsRow _ _ _ _ _ _ _
               rw [ints_snoc, intsC_append]; exact hown3
             clear hown3 hg3
             go_wp2
             go_roundw
             case rel => exact ⟨j + 1, r + 1, by omega, by omega, by go_num, (by show _ = _; rw [HFJ.out, List.length_append, HR.out]; rfl), (by rw [HFJ.out]; exact HO3), HB3⟩
             case measure => simp [intOf]; omega
           · have t : (y == e.base + (j : Int)) = false := by simpa using hy
             have HQ2 : Hid ((K.take (q + 1)).any (fun x => !(before e.chains x (e.base + p)).made && decide ((before e.chains x (e.base + p)).by_ = e.base + j)) = false) := by show _ = _; rw [HAN.out]; simpa using hy
             clear hy
             go_wp2
             go_roundw
             case rel => exact ⟨q + 1, by omega, by go_num, rfl, HQ2, below_deep HB2.out HGW.out⟩
             case measure => simp [intOf]; omega
       · obtain rfl : q = kn := by omega
         have HQ2 : Hid (needE e p j = false) := by
           have := HQ.out
           rw [List.take_of_length_le (by rw [← HKL.out]; exact Nat.le_refl _)] at this
           show _ = _
           rw [HNJ.out]; exact this
         have HFJ : Hid ((List.range (j + 1)).filter (needE e p) = F) := by show _ = _; rw [HFN.out, if_neg (by rw [HQ2.out]; simp), List.append_nil]
         have HO3 := hid (owns_keep HO1.out HBQ.out)
         go_wp2
         go_roundw
         case rel => exact ⟨j + 1, r, by omega, by omega, by go_num, (by show _ = _; rw [HFJ.out]; exact HR.out), (by rw [HFJ.out]; exact HO3), HBAQ⟩
         case measure => simp [intOf]; omega
   · obtain rfl : j = p := by omega
     rw [← HFIN.out] at HO
     obtain ⟨ob, oc, rfl, hol⟩ := Lies.owned HO.out
     have HOL : Hid (Ints wr ob r oc (ints (needsE e j))) := hol
     clear hol
     go_wp2
     go_ret
     exact ⟨_, _, _, rfl, HOL.out, below_deep HBA.out HBR.out⟩

set_option maxHeartbeats 8000000 in
set_option maxRecDepth 100000 in
theorem refReady_calls {r0 : List Row} {D : List Deed3} {m : Nat} {dq : Nat → Bool} {bq : ByteArray → Int} {e : Eng} (G : Good r0 D m dq bq e) (hD : D.length ≤ 1954687338211) (v : Value) (w : World) (hv : EngIn w v e) :
   Calls Tryz.prog 17 #[v] w fun x w' => IntsTold w w' (ints (readyE e)) x := by
 obtain ⟨cb, cn, cc, db, dn, dc, sb, sn, sc, eb, en, ec, rfl, hl⟩ := hv
 have hle := G.le
 have HDL := hid hl.de.len
 have HDN : Hid (dn = D.length - m) := by show _ = _; rw [hl.de.len, G.len]
 have HSN : Hid (sn = dn) := by show _ = _; rw [Ints.count hl.st, G.slen, ← hl.de.len]
 have hdn : dn ≤ 1954687338211 := by rw [HDN.out]; omega
 have HNE := hid (fun p hp v w hv => refNeeds_calls G hD p hp v w hv)
 have HBX := hid (Box.new w #[.slice cb cn cc, .slice db dn dc, .slice sb sn sc, .slice eb en ec, .int .i64 e.base] 33)
 have HBA := hid (grew w (.cells #[.slice cb cn cc, .slice db dn dc, .slice sb sn sc, .slice eb en ec, .int .i64 e.base] 33))
 have HL := hid (hl.below HBA.out)
 have HLE := hid hle
 have HFIN : Hid (readyE e = (List.range e.deeds.length).filter (fun p => decide (e.state.getD p 0 = 0) && (needsE e p).isEmpty)) := rfl
 clear G hD hl hle
 go_enter Tryz.func17, Tryz.ntmps17
 go_wp2
 generalize w.alloc (.cells #[.slice cb cn cc, .slice db dn dc, .slice sb sn sc, .slice eb en ec, .int .i64 e.base] 33) = A at *
 go_loopw [3, 8] (fun ov i wr => ∃ j r : Nat, j ≤ dn ∧ r ≤ j ∧ i = .int .i64 j ∧ Hid (((List.range j).filter (fun p => decide (e.state.getD p 0 = 0) && (needsE e p).isEmpty)).length = r) ∧ Hid (wr.ownsRow A.heap.size 3 1 ov r (intsC (ints ((List.range j).filter (fun p => decide (e.state.getD p 0 = 0) && (needsE e p).isEmpty))))) ∧ Hid (Below A.heap.size A wr)) (fun _ i _ => dn - (intOf i).toNat)
 case atStart => exact ⟨0, 0, Nat.zero_le _, Nat.le_refl _, rfl, rfl, World.ownsRow_nil _ _ _ _, Below.refl _ _⟩
 case round =>
   obtain ⟨j, r, hj, hr, rfl, HR, HO, HBR⟩ := hrel
   by_cases hlt : j < dn
   · have hi : (j : Int) < (dn : Int) := by omega
     have hsj : j < e.state.length := by rw [← Ints.count HL.out.st, HSN.out]; exact hlt
     have his : (j : Int) < (sn : Int) := by rw [HSN.out]; exact hi
     obtain ⟨b1, o1, rfl, hrun⟩ : ∃ b1 o1, sb = some ⟨b1, o1, none⟩ ∧ Run wr b1 o1 (intsC e.state) := by
       rcases (HL.out.below HBR.out).st.run with h | h
       · have := HSN.out; omega
       · exact h
     have k0 := hrun j _ (intsC_at hsj)
     have c0 := (HBX.out.below HBR.out).cell 0 _ rfl
     have c1 := (HBX.out.below HBR.out).cell 1 _ rfl
     have c2 := (HBX.out.below HBR.out).cell 2 _ rfl
     have c3 := (HBX.out.below HBR.out).cell 3 _ rfl
     have c4 := (HBX.out.below HBR.out).cell 4 _ rfl
     have hlw : w.heap.size < wr.heap.size := (HBX.out.below HBR.out).lt
     have hb1w : b1 < wr.heap.size := by simpa using World.block_lt_of_cell? _ _ k0
     have HFN := hid (filter_next (fun p => decide (e.state.getD p 0 = 0) && (needsE e p).isEmpty) j)
     have HJ : Hid (m + j < D.length) := by show _ < _; have := HDN.out; have := HLE.out; omega
     have HND := hid (HNE.out j HJ.out _ wr ⟨cb, cn, cc, db, dn, dc, some ⟨b1, o1, none⟩, sn, sc, eb, en, ec, rfl, HL.out.below HBR.out⟩)
     clear hrun
     generalize (List.range j).filter (fun p => decide (e.state.getD p 0 = 0) && (needsE e p).isEmpty) = F at *
     generalize e.state.getD j 0 = s at *
     by_cases hs : s = 0
     · subst hs
       simp only [decide_true, Bool.true_and] at HFN
       go_wp2_with fail
       refine HND.out.mono ?_
       rintro x w1 ⟨nb, nn, nc, rfl, hn1, hb1⟩
       have HB1 := hid (below_deep HBR.out hb1)
       have HO1 := hid (owns_keep HO.out hb1)
       have hnn : nn = (needsE e j).length := by rw [Ints.count hn1]; simp [ints]
       have hnm := Nat.le_trans hn1.hdr.le hn1.hdr.max
       unfold maxLen at hnm
       have HNN := hid hnn
       clear hn1 hb1 HND hnn
       by_cases h0 : nn = 0
       · have HE : Hid ((needsE e j).isEmpty = true) := by
           show _ = _
           rw [List.isEmpty_iff]
           exact List.eq_nil_of_length_eq_zero (by rw [← HNN.out]; exact h0)
         have HFJ : Hid ((List.range (j + 1)).filter (fun p => decide (e.state.getD p 0 = 0) && (needsE e p).isEmpty) = F ++ [j]) := by show _ = _; rw [HFN.out, if_pos HE.out]
         subst h0
         have HC1 := hid (lies_one w1 #[.int .i64 (j : Int)] 3 1 rfl)
         have HOX := hid (HO1.out.alloc (.cells #[.int .i64 (j : Int)] 3))
         have HBX2 := hid (step_box HB1.out (.cells #[.int .i64 (j : Int)] 3))
         have HBY : Hid ((r + 1) * 8 ≤ 140737488355328) := by show _ ≤ _; omega
         have HSZ := hid HBX2.out.size
         go_wp2_with (at_builtin; refine wpList_onto _ rfl _ _ 23 3 1 8 _ Tryz.underlying23 intInfo rfl (by decide) (by decide) rfl A.heap.size _ r _ rfl HOX.out _ 1 _ _ rfl HC1.out (intsC_one [(j : Int)]) HBY.out HSZ.out ?_)
         intro v3 w3 hown3 hg3
         have HB3 := hid (step_row HBX2.out HOX.out hg3)
         have HO3 : Hid (w3.ownsRow A.heap.size 3 1 v3 (r + 1) (intsC (ints (F ++ [j])))) := by
           show World.ownsRow _ _ _ _ _ _ _
           rw [ints_snoc, intsC_append]; exact hown3
         clear hown3 hg3
         go_wp2
         go_roundw
         case rel => exact ⟨j + 1, r + 1, by omega, by omega, by go_num, (by show _ = _; rw [HFJ.out, List.length_append, HR.out]; rfl), (by rw [HFJ.out]; exact HO3), HB3⟩
         case measure => simp [intOf]; omega
       · have t : ((nn : Int) == 0) = false := by simp; omega
         have HE : Hid ((needsE e j).isEmpty = false) := by
           show _ = _
           cases hx : (needsE e j).isEmpty with
           | false => rfl
           | true =>
             rw [List.isEmpty_iff] at hx
             exact absurd (by rw [HNN.out, hx]; rfl) h0
         have HFJ : Hid ((List.range (j + 1)).filter (fun p => decide (e.state.getD p 0 = 0) && (needsE e p).isEmpty) = F) := by show _ = _; rw [HFN.out, if_neg (by rw [HE.out]; simp), List.append_nil]
         clear h0
         go_wp2
         go_roundw
         case rel => exact ⟨j + 1, r, by omega, by omega, by go_num, (by show _ = _; rw [HFJ.out]; exact HR.out), (by rw [HFJ.out]; exact HO1), HB1⟩
         case measure => simp [intOf]; omega
     · have t : (s == 0) = false := by simpa using hs
       have HFJ : Hid ((List.range (j + 1)).filter (fun p => decide (e.state.getD p 0 = 0) && (needsE e p).isEmpty) = F) := by show _ = _; rw [HFN.out, decide_eq_false hs, Bool.false_and, if_neg (by simp), List.append_nil]
       clear hs
       go_wp2
       go_roundw
       case rel => exact ⟨j + 1, r, by omega, by omega, by go_num, (by show _ = _; rw [HFJ.out]; exact HR.out), (by rw [HFJ.out]; exact HO), HBR⟩
       case measure => simp [intOf]; omega
   · obtain rfl : j = dn := by omega
     rw [HDL.out, ← HFIN.out] at HO
     obtain ⟨ob, oc, rfl, hol⟩ := Lies.owned HO.out
     have HOL : Hid (Ints wr ob r oc (ints (readyE e))) := hol
     clear hol
     go_wp2
     go_ret
     exact ⟨_, _, _, rfl, HOL.out, below_deep HBA.out HBR.out⟩
end Go.Proofs.YtlhaeeenkgkdaaaGreatDoor
