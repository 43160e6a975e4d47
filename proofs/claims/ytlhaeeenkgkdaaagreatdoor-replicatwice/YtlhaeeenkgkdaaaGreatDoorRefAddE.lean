/-
  The document's own Add of an engine, walked.
-/
import Derived.Test.YtlhaeeenkgkdaaaGreatDoorRefNew
import Derived.Test.YtlhaeeenkgkdaaaGreatDoorEngGood
import Derived.Test.YtlhaeeenkgkdaaaGreatDoorRefWrong
import Derived.Deep.DeepCutAuto
namespace Go.Proofs.YtlhaeeenkgkdaaaGreatDoor
open Go.RowKit

def addTo (e : Eng) (l : List Deed3) : Eng := if wDs l = 0 then addAll e l else zeroEng
def AddTold (w w' : World) (e : Eng) (l : List Deed3) (x : Ending) : Prop := ∃ v, x = .returned (.tuple #[v, .int .i64 (wDs l)]) ∧ EngIn w' v (addTo e l) ∧ Below w.heap.size w w'
theorem refAddE_results (tmps : Array Value) (b : Nat) (w : World) {a0 a1 a2 a3 : Option Addr} {n0 n1 n2 n3 c0 c1 c2 c3 : Nat} {z q : Int} (h : tmps.getD 4 undef = .pointer (some ⟨b, 0, none⟩)) (h5 : tmps.getD 5 undef = .int .i64 q) (hb : Box w b #[.slice a0 n0 c0, .slice a1 n1 c1, .slice a2 n2 c2, .slice a3 n3 c3, .int .i64 z] 33) :
   (results Tryz.f37 tmps).run Tryz.prog w = .ok (.tuple #[.agg #[.slice a0 n0 c0, .slice a1 n1 c1, .slice a2 n2 c2, .slice a3 n3 c3, .int .i64 z], .int .i64 q]) w := by
 have h' : tmps[4]?.getD undef = .pointer (some ⟨b, 0, none⟩) := by simpa using h
 have h5' : tmps[5]?.getD undef = .int .i64 q := by simpa using h5
 obtain ⟨k0, k1, k2, k3, k4⟩ := hb.cells5
 simp [results, Tryz.results37, go_sem, h', h5', k0, k1, k2, k3, k4]
theorem zero_lies (w : World) : EngLies w none 0 0 none 0 0 none 0 0 none 0 0 zeroEng :=
 ⟨ChainsIn.none _, ⟨rfl, ⟨Nat.le_refl _, Nat.zero_le _, fun _ => rfl⟩, .inl rfl⟩, Lies.none _ _, Lies.none _ _, Kind.none _ _, Kind.none _ _, Kind.none _ _⟩
theorem lit_rowH (w : World) (B e s H : Nat) (hH : w.heap.size = H) (h : B ≤ H) : (w.alloc (.cells #[] e)).ownsRow B e s (.slice (some ⟨H, 0, none⟩) 0 0) 0 [] := by
 subst hH; exact lit_row w B e s h
theorem lies_oneH (w : World) (vs : Array Value) (t sz H : Nat) (hH : w.heap.size = H) (h : vs.size = sz) : Lies (w.alloc (.cells vs t)) sz (some ⟨H, 0, none⟩) 1 1 vs.toList := by
 subst hH; exact lies_one w vs t sz h
theorem step_lit {A w1 w2 : World} {H n c : Nat} (h : Below A.heap.size A w1) (hH : A.heap.size ≤ H) (hg : w1.grownBy w2 (Value.slice (some ⟨H, 0, none⟩) n c).ownBlock) : Below A.heap.size A w2 :=
 h.grown hg h.size (fun k hk => by simp [Value.ownBlock] at hk; omega)
theorem lies_litG {w1 w2 : World} {sz H K n c : Nat} {vs : List Value} {m d : Nat} (h : Lies w1 sz (some ⟨K, 0, none⟩) m d vs) (hg : w1.grownBy w2 (Value.slice (some ⟨H, 0, none⟩) n c).ownBlock) (hne : K ≠ H) : Lies w2 sz (some ⟨K, 0, none⟩) m d vs :=
 Lies.off h (Off.grown hg) (.inr fun a e => by cases e; exact hne)

set_option maxHeartbeats 16000000 in
set_option maxRecDepth 100000 in
theorem refAddE_calls {r0 : List Row} {D : List Deed3} {m : Nat} {dq : Nat → Bool} {bq : ByteArray → Int} {e : Eng} (G : Good r0 D m dq bq e) (l : List Deed3) (hD : D.length + l.length ≤ 1954687338211) (v : Value) (lb : Option Addr) (ln lc : Nat) (w : World) (hv : EngIn w v e) (hl0 : DeedsIn w lb ln lc l) :
   Calls Tryz.prog 37 #[v, .slice lb ln lc] w fun x w' => AddTold w w' e l x := by
 obtain ⟨cb, cn, cc, db, dn, dc, sb, sn, sc, eb, en, ec, rfl, hl⟩ := hv
 have hle := G.le
 have hz0 : 0 ≤ e.base := by rw [G.base]; omega
 have hz1 : e.base ≤ 1954687338211 := by rw [G.base]; omega
 have hlm : ln ≤ 1954687338211 := by rw [hl0.len]; omega
 have HG := hid G
 have HDL := hid hD
 have HLN := hid hl0.len
 have HBX := hid (Box.new w #[.slice cb cn cc, .slice db dn dc, .slice sb sn sc, .slice eb en ec, .int .i64 e.base] 33)
 have HB0 := hid (grew w (.cells #[.slice cb cn cc, .slice db dn dc, .slice sb sn sc, .slice eb en ec, .int .i64 e.base] 33))
 have HBZ := hid (Box.new (w.alloc (.cells #[.slice cb cn cc, .slice db dn dc, .slice sb sn sc, .slice eb en ec, .int .i64 e.base] 33)) #[.slice none 0 0, .slice none 0 0, .slice none 0 0, .slice none 0 0, .int .i64 0] 33)
 have HB1 := hid (grew (w.alloc (.cells #[.slice cb cn cc, .slice db dn dc, .slice sb sn sc, .slice eb en ec, .int .i64 e.base] 33)) (.cells #[.slice none 0 0, .slice none 0 0, .slice none 0 0, .slice none 0 0, .int .i64 0] 33))
 rw [World.size_alloc] at HBZ
 have HX := hid (HBX.out.below HB1.out)
 have HBW := hid (below_deep HB0.out HB1.out)
 have HL := hid (hl.below HBW.out)
 have HLL := hid (hl0.below HBW.out)
 have HL00 := hid hl0
 clear G hD hl hl0 hle HBX HB0 HB1
 go_enter Tryz.func37, Tryz.ntmps37
 go_wp2
 generalize (w.alloc (.cells #[.slice cb cn cc, .slice db dn dc, .slice sb sn sc, .slice eb en ec, .int .i64 e.base] 33)).alloc (.cells #[.slice none 0 0, .slice none 0 0, .slice none 0 0, .slice none 0 0, .int .i64 0] 33) = A at *
 go_loopw [15] (fun i wr => ∃ j : Nat, j ≤ ln ∧ i = .int .i64 j ∧ Hid (RightDs (l.take j)) ∧ Hid (Below A.heap.size A wr)) (fun i _ => ln - (intOf i).toNat)
 case atStart => exact ⟨0, Nat.zero_le _, rfl, (fun _ h => by cases h), Below.refl _ _⟩
 case round =>
   obtain ⟨j, hj, rfl, HR, HBR⟩ := hrel
   by_cases hlt : j < ln
   · have hjl : j < l.length := by rw [← HLN.out]; exact hlt
     have hi : (j : Int) < (ln : Int) := by omega
     obtain ⟨b1, o1, rfl, hrun⟩ : ∃ b1 o1, lb = some ⟨b1, o1, none⟩ ∧ ∀ i, i < ln → DeedHere wr b1 (o1 + i * 3) (l.getD i default) := by
       rcases (HLL.out.below HBR.out).run with h | h
       · omega
       · exact h
     obtain ⟨rb, rn, rc, wb, wn, wc, xb, xn, xc, k0, k1, k2, hdi, hs1, hs2⟩ := hrun j hlt
     have hb1w : b1 < wr.heap.size := by simpa using World.block_lt_of_cell? _ _ k0
     have HGW := hid (grew wr (.cells #[.slice rb rn rc, .slice wb wn wc, .slice xb xn xc] 44))
     have HW := hid (refWrongDeed_calls (l.getD j default).1 (l.getD j default).2.1 (l.getD j default).2.2 rb rn rc wb wn wc xb xn xc _ (hdi.below HGW.out) hs1 hs2)
     have HN1 := hid (rights_next hjl HR.out)
     have HN2 := hid (wDs_first hjl HR.out)
     clear hdi hs1 hs2 hrun
     generalize wDeed (l.getD j default).1 (l.getD j default).2.1 (l.getD j default).2.2 = q at *
     go_wp2_with fail
     refine HW.out.mono ?_
     rintro x w2 ⟨rfl, hb2⟩
     have HB2 := hid (below_deep HBR.out (below_deep HGW.out hb2))
     clear hb2 HW
     by_cases hq : q = 0
     · subst hq
       have HN := hid (HN1.out rfl)
       go_wp2
       go_roundw
       case rel => exact ⟨j + 1, by omega, by go_num, HN, HB2⟩
       case measure => simp [intOf]; omega
     · have HQ : Hid (wDs l = q ∧ addTo e l = zeroEng) := by
         have h1 := HN2.out hq
         refine ⟨h1, ?_⟩
         unfold addTo; rw [if_neg (by rw [h1]; exact hq)]
       have t := ne_true hq
       obtain ⟨z0, z1, z2, z3, z4⟩ := (HBZ.out.below HB2.out).cells5
       obtain ⟨f0, f1, f2, f3, f4⟩ := (HBZ.out.below HB2.out).free5
       have hzl : w.heap.size + 1 < w2.heap.size := (HBZ.out.below HB2.out).lt
       have HBF := hid (put5_box (HBZ.out.below HB2.out) (.slice none 0 0) (.slice none 0 0) (.slice none 0 0) (.slice none 0 0) (.int .i64 0))
       have HBE := hid (put5_below (below_deep HBW.out HB2.out) (Nat.le_succ _) (.slice none 0 0) (.slice none 0 0) (.slice none 0 0) (.slice none 0 0) (.int .i64 0))
       have HZ := hid (zero_lies (put5 w2 (w.heap.size + 1) (.slice none 0 0) (.slice none 0 0) (.slice none 0 0) (.slice none 0 0) (.int .i64 0)))
       unfold put5 at HBF HBE HZ
       clear hq
       go_wp2
       (try simp only [Exit.inBlock, Exit.then])
       refine bodyPost_ret (refAddE_results _ (w.heap.size + 1) _ rfl rfl HBF.out) rfl ?_
       refine ⟨_, by rw [HQ.out.1], ?_, HBE.out⟩
       rw [HQ.out.2]
       exact ⟨_, _, _, _, _, _, _, _, _, _, _, _, rfl, HZ.out⟩
   · obtain rfl : j = ln := by omega
     have HRL : Hid (RightDs l) := by
       have := HR.out
       rw [List.take_of_length_le (by rw [← HLN.out]; exact Nat.le_refl _)] at this
       exact this
     have HX1 := hid (HX.out.below HBR.out)
     have HZ1 := hid (HBZ.out.below HBR.out)
     have HL1 := hid (HL.out.below HBR.out)
     have HB1 := hid (below_deep HBW.out HBR.out)
     have hbse : e.base = e.base := rfl
     clear HR HX HBZ HL HLL HBW HBR hj hbse
     go_wp2
     generalize wr = wA at *
     go_loopw [28] (fun i wr => ∃ (q : Nat) (cb : Option Addr) (cn cc : Nat) (db : Option Addr) (dn dc : Nat) (sb : Option Addr) (sn sc : Nat) (eb : Option Addr) (en ec : Nat), q ≤ j ∧ i = .int .i64 q ∧ Hid (Box wr w.heap.size #[.slice cb cn cc, .slice db dn dc, .slice sb sn sc, .slice eb en ec, .int .i64 e.base] 33) ∧ Hid (Box wr (w.heap.size + 1) #[.slice none 0 0, .slice none 0 0, .slice none 0 0, .slice none 0 0, .int .i64 0] 33) ∧ Hid (EngLies wr cb cn cc db dn dc sb sn sc eb en ec (addAll e (l.take q))) ∧ Hid (Below w.heap.size w wr)) (fun i _ => j - (intOf i).toNat)
     case atStart => exact ⟨0, cb, cn, cc, db, dn, dc, sb, sn, sc, eb, en, ec, Nat.zero_le _, rfl, HX1, HZ1, HL1, HB1⟩
     case round =>
       obtain ⟨q, cb, cn, cc, db, dn, dc, sb, sn, sc, eb, en, ec, hq, rfl, HX, HZ, HL, HBR⟩ := hrel
       by_cases hlt : q < j
       · have hjl : q < l.length := by rw [← HLN.out]; exact hlt
         have hi : (q : Int) < (j : Int) := by omega
         have HGq := hid (HG.out.addAll (l := l.take q) (rights_take HRL.out q))
         have HBQ : Hid ((addAll e (l.take q)).base = e.base) := addAll_base e _
         have HNX : Hid (addAll e (l.take (q + 1)) = addD (addAll e (l.take q)) (l.getD q default)) := by
           show _ = _
           rw [take_snoc_getD hjl, addAll_snoc]
         have HRD := hid (rights_at HRL.out hjl)
         have hDq : (D ++ l.take q).length ≤ 1954687338211 := by
           rw [List.length_append, List.length_take]; have := HDL.out; omega
         have HFIT := hid (fun t => HGq.out.fit_add hDq HRD.out.w t)
         obtain ⟨b1, o1, rfl, hrun⟩ : ∃ b1 o1, lb = some ⟨b1, o1, none⟩ ∧ ∀ i, i < j → DeedHere wr b1 (o1 + i * 3) (l.getD i default) := by
           rcases (HL00.out.below HBR.out).run with h | h
           · omega
           · exact h
         obtain ⟨rb, rn, rc, wb, wn, wc, xb, xn, xc, k0, k1, k2, hdi, hs1, hs2⟩ := hrun q hlt
         have hb1w : b1 < wr.heap.size := by simpa using World.block_lt_of_cell? _ _ k0
         have HDN : Hid ((addAll e (l.take q)).deeds.length = dn) := HL.out.de.len.symm
         have hdn : dn ≤ 1954687338211 := by
           rw [← HDN.out, HGq.out.len]; omega
         have HSN : Hid (sn = dn) := by show _ = _; rw [Ints.count HL.out.st, HGq.out.slen, HDN.out]
         have HEN : Hid (en = dn) := by show _ = _; rw [Ends.count HL.out.en, HGq.out.elen, HDN.out]
         have HWN := hid (Texts.count hdi.tw)
         have hwn5 : wn ≤ 5 := by rw [Texts.count hdi.tw]; exact wKeys_len HRD.out.w
         have HSW := hid hs2
         have HSR := hid hs1
         clear hrun
         generalize l.getD q default = d at *
         generalize addAll e (l.take q) = ej at *
         have HGW := hid (grew wr (.cells #[.slice rb rn rc, .slice wb wn wc, .slice xb xn xc] 44))
         have HBD := hid (Box.new wr #[.slice rb rn rc, .slice wb wn wc, .slice xb xn xc] 44)
         have HXA := hid (HX.out.below HGW.out)
         have HZA := hid (HZ.out.below HGW.out)
         have HLA := hid (HL.out.below HGW.out)
         have HDA := hid (hdi.below HGW.out)
         have HBA := hid (below_deep HBR.out HGW.out)
         have d0 := HBD.out.cell 1 _ rfl
         have hbdl : wr.heap.size < (wr.alloc (.cells #[.slice rb rn rc, .slice wb wn wc, .slice xb xn xc] 44)).heap.size := HBD.out.lt
         have hxw : w.heap.size < wr.heap.size := HX.out.lt
         have hzw : w.heap.size + 1 < wr.heap.size := HZ.out.lt
         clear hdi hs1 hs2 hDq HX HZ HL HBR HGW
         go_wp2
         generalize wr.alloc (.cells #[.slice rb rn rc, .slice wb wn wc, .slice xb xn xc] 44) = A2 at *
         generalize wr.heap.size = bd at *
         have HCH := hid HLA.out.ch
         have HAL := hid (eng_alien HXA.out)
         go_loopw [35] (fun i wr => ∃ (t : Nat) (cb : Option Addr) (cn cc : Nat), t ≤ wn ∧ i = .int .i64 t ∧ Hid (Box wr w.heap.size #[.slice cb cn cc, .slice db dn dc, .slice sb sn sc, .slice eb en ec, .int .i64 e.base] 33) ∧ Hid (ChainsIn wr cb cn cc (addW (ej.base + ej.deeds.length) (d.2.1.take t) ej.chains)) ∧ Hid (Off w.heap.size A2 wr) ∧ Hid (Below w.heap.size w wr)) (fun i _ => wn - (intOf i).toNat)
         case atStart => exact ⟨0, cb, cn, cc, Nat.zero_le _, rfl, HXA, HCH, Off.refl _ _, HBA⟩
         case round =>
           obtain ⟨t, cb2, cn2, cc2, ht, rfl, HXR, HCR, HOF, HBR⟩ := hrel
           by_cases htl : t < wn
           · have htW : t < d.2.1.length := by rw [← HWN.out]; exact htl
             have hit : (t : Int) < (wn : Int) := by omega
             obtain ⟨b2, o2, rfl, hr2⟩ : ∃ b2 o2, wb = some ⟨b2, o2, none⟩ ∧ Run wr b2 o2 (strs d.2.1) := by
               rcases (Texts.off HDA.out.tw HAL.out.text HOF.out).run with h | h
               · omega
               · exact h
             have q0 := hr2 t _ (strs_at htW)
             have hb2w : b2 < wr.heap.size := by simpa using World.block_lt_of_cell? _ _ q0
             obtain ⟨x0, x1, x2, x3, x4⟩ := HXR.out.cells5
             have hxl : w.heap.size < wr.heap.size := HXR.out.lt
             have HKZ : Hid ((d.2.1.getD t default).size ≤ maxLen) := HSW.out _ (by simp [List.getD, htW])
             have hsum : IntKind.i64.wrap (e.base + (dn : Int)) = e.base + dn := by rw [IntKind.wrap_i64]; omega
             have HADD := hid (refAddC_calls (addW (ej.base + ej.deeds.length) (d.2.1.take t) ej.chains) cb2 cn2 cc2 (d.2.1.getD t default) (e.base + dn) wr (HFIT.out t) HCR.out HKZ.out)
             have HTK : Hid (addW (ej.base + ej.deeds.length) (d.2.1.take (t + 1)) ej.chains = addC (d.2.1.getD t default) (e.base + dn) (addW (ej.base + ej.deeds.length) (d.2.1.take t) ej.chains)) := by
               show _ = _
               rw [take_snoc_getD htW, addW_snoc, HBQ.out, HDN.out]
             clear hr2
             generalize d.2.1.getD t default = k at *
             go_wp2_with fail
             refine HADD.out.mono ?_
             rintro x w3 ⟨b3, n3, c3, rfl, h3, hb3⟩
             have HX3 := hid (HXR.out.below hb3)
             have g0 := HX3.out.cells5.1
             have f0 := HX3.out.free 0
             have hxl3 : w.heap.size < w3.heap.size := HX3.out.lt
             have HX4 := hid (HX3.out.set 0 (.slice b3 n3 c3))
             have HC4 : Hid (ChainsIn (w3.setCell ⟨w.heap.size, 0, none⟩ (.slice b3 n3 c3)) b3 n3 c3 (addW (ej.base + ej.deeds.length) (d.2.1.take (t + 1)) ej.chains)) := by
               show ChainsIn _ _ _ _ _
               rw [HTK.out]
               exact h3.off (eng_alien HX3.out) (Off.set _ _ _ _)
             have HO4 := hid ((HOF.out.trans (Off.below hb3)).trans (Off.set w3 w.heap.size 0 (.slice b3 n3 c3)))
             have HB4 := hid ((below_deep HBR.out hb3).setCell (p := ⟨w.heap.size, 0, none⟩) (Nat.le_refl _) (.slice b3 n3 c3))
             clear h3 hb3 HADD x0 x1 x2 x3 x4 q0
             go_wp2
             go_roundw
             case rel => exact ⟨t + 1, b3, n3, c3, by omega, by go_num, HX4, HC4, HO4, HB4⟩
             case measure => simp [intOf]; omega
           · obtain rfl : t = wn := by omega
             have HCW : Hid (ChainsIn wr cb2 cn2 cc2 (addD ej d).chains) := by
               have := HCR.out
               rw [List.take_of_length_le (by rw [← HWN.out]; exact Nat.le_refl _)] at this
               exact this
             have HLO := hid (HLA.out.put HXA.out HOF.out)
             have HLW : Hid (EngLies wr cb2 cn2 cc2 db dn dc sb sn sc eb en ec ⟨(addD ej d).chains, ej.deeds, ej.state, ej.ends, ej.base⟩) := ⟨HCW.out, HLO.out.de, HLO.out.st, HLO.out.en, HLO.out.dk, HLO.out.sk, HLO.out.ek⟩
             have HBDR := hid (box_off HBD.out HOF.out (by omega))
             have HZR := hid (box_off HZA.out HOF.out (by omega))
             have HDR := hid (HDA.out.off HAL.out.text HOF.out)
             clear HCR HLO HOF HAL HXA HZA HLA HDA HBA HBD HCW HCH HFIT
             obtain ⟨T, hT, hTA⟩ := HLW.out.de.slots
             have HT := hid hT
             have HTA := hid hTA
             have HTN : Hid (dn = T.length) := Lies.count dslotC_length (by decide) hT
             have NB1 : Hid ((0 + dn) * 72 ≤ 140737488355328) := by show _ ≤ _; omega
             have NB2 : Hid ((0 + dn + 1) * 72 ≤ 140737488355328) := by show _ ≤ _; omega
             have HDSI : Hid (DSlotIs wr ((rb, rn, rc), (wb, t, wc), (xb, xn, xc)) d) := ⟨HDR.out, HSR.out, HSW.out⟩
             clear hT hTA
             go_upto_region 16 with fail
             go_cut [28] (fun iv wx => iv = .int .i64 q ∧ ∃ db' dc', Hid (Box wx w.heap.size #[.slice cb2 cn2 cc2, .slice db' (dn + 1) dc', .slice sb sn sc, .slice eb en ec, .int .i64 e.base] 33) ∧ Hid (EngLies wx cb2 cn2 cc2 db' (dn + 1) dc' sb sn sc eb en ec ⟨(addD ej d).chains, ej.deeds ++ [d], ej.state, ej.ends, ej.base⟩) ∧ Hid (Box wx (w.heap.size + 1) #[.slice none 0 0, .slice none 0 0, .slice none 0 0, .slice none 0 0, .int .i64 0] 33) ∧ Hid (Below w.heap.size w wx))
             case first =>
               have x1 := HXR.out.cells5.2.1
               have y0 := HBDR.out.cell 0 _ rfl
               have y1 := HBDR.out.cell 1 _ rfl
               have y2 := HBDR.out.cell 2 _ rfl
               have hxl : w.heap.size < wr.heap.size := HXR.out.lt
               have hyl : bd < wr.heap.size := HBDR.out.lt
               have L1 := hid (lit_rowH wr.drew wr.heap.size 44 3 wr.heap.size rfl (Nat.le_refl _))
               have L2 := hid (lit_rowH (wr.drew.alloc (.cells #[.slice rb rn rc, .slice wb t wc, .slice xb xn xc] 44)) wr.heap.size 44 3 (wr.heap.size + 1) (by rw [World.size_alloc]; rfl) (Nat.le_succ _))
               have M1 := hid (lies_oneH wr.drew #[.slice rb rn rc, .slice wb t wc, .slice xb xn xc] 44 3 wr.heap.size rfl rfl)
               have M2 := hid (lies_oneH (wr.drew.alloc (.cells #[] 44)) #[.slice rb rn rc, .slice wb t wc, .slice xb xn xc] 44 3 (wr.heap.size + 1) (by rw [World.size_alloc]; rfl) rfl)
               have B0 := hid (step_drew (Below.refl wr.heap.size wr))
               go_region_law (first
                 | (refine step_grow _ rfl _ _ 24 44 3 72 _ Tryz.underlying24 deedInfo rfl (by decide) (by decide) rfl wr.heap.size v1 (0 + dn) ([] ++ flat dslotC T) rfl ?_ _ 1 _ [.slice rb rn rc, .slice wb t wc, .slice xb xn xc] rfl ?_ (dslotC_one ((rb, rn, rc), (wb, t, wc), (xb, xn, xc))) NB2.out ?_ ?_; (first | exact hown1 | exact hown1.alloc _); (first | exact lies_one w1 _ _ 3 rfl | exact lies_litG M2.out hg1 (by omega) | exact lies_litG (M1.out.below (by decide) (grew _ _)) hg1 (by omega)); (first | exact hb1.size | exact (step_box hb1 _).size); intro v2 w2 hown2 hg2; have hb2 : Below wr.heap.size wr w2 := (by first | exact step_row hb1 hown1 hg2 | exact step_row (step_box hb1 _) (hown1.alloc _) hg2); have z1 := (HXR.out.below hb2).cells5.2.1; have fz := (HXR.out.below hb2).free 1; have hzl : w.heap.size < w2.heap.size := (HXR.out.below hb2).lt; obtain ⟨vb2, vc2, hve, hvl⟩ := Lies.owned hown2; subst hve)
                 | (refine step_grow _ rfl _ _ 24 44 3 72 _ Tryz.underlying24 deedInfo rfl (by decide) (by decide) rfl wr.heap.size _ 0 [] rfl ?_ db dn dc (flat dslotC T) rfl ?_ (flat_one dslotC_one T) NB1.out ?_ ?_; (first | exact L1.out | exact L1.out.alloc _ | exact L2.out); (first | exact HT.out.below (by decide) (step_box B0.out _) | exact HT.out.below (by decide) (step_box (step_box B0.out _) _)); (first | exact (step_box B0.out _).size | exact (step_box (step_box B0.out _) _).size); intro v1 w1 hown1 hg1; have hb1 : Below wr.heap.size wr w1 := (by first | exact step_lit (step_box B0.out _) (Nat.le_refl _) hg1 | exact step_lit (step_box (step_box B0.out _) _) (Nat.le_refl _) hg1 | exact step_lit (step_box (step_box B0.out _) _) (Nat.le_succ _) hg1); have y0' := kept_cell hb1 y0; have y1' := kept_cell hb1 y1; have y2' := kept_cell hb1 y2; have hyl' : bd < w1.heap.size := Nat.lt_of_lt_of_le hyl hb1.size))
               all_goals simp only [Nat.zero_add, List.nil_append] at hown2 ⊢
               all_goals have HF := hid (put_deeds (s := ((rb, rn, rc), (wb, t, wc), (xb, xn, xc))) (d := d) HXR.out HLW.out HZR.out (by omega) HBR.out (Nat.le_refl _) hb2 HTA.out HDSI.out hown2)
               all_goals clear hown1 hg1 hb1 hown2 hg2 hb2 hvl HLW HTA HT HDSI
               all_goals go_wp2
               all_goals go_meet
               all_goals exact ⟨rfl, vb2, vc2, HF.out.1, HF.out.2.1, HF.out.2.2.1, HF.out.2.2.2⟩
             case rest =>
               obtain ⟨rfl, db3, dc3, HX3, HL3, HZ3, HB3⟩ := hcut
               have HL3S := hid (HL3.out.st.below (by decide) (grew wc (.cells #[] 3)))
               have R1 := hid (lit_row wc wc.heap.size 3 1 (Nat.le_refl _))
               have S1 := hid (step_box (Below.refl wc.heap.size wc) (.cells #[] 3))
               have NS1 : Hid ((0 + sn) * 8 ≤ 140737488355328) := by show _ ≤ _; have := HSN.out; omega
               have NS2 : Hid ((sn + 1) * 8 ≤ 140737488355328) := by show _ ≤ _; have := HSN.out; omega
               have NE1 : Hid ((0 + en) * 40 ≤ 140737488355328) := by show _ ≤ _; have := HEN.out; omega
               have NE2 : Hid ((en + 1) * 40 ≤ 140737488355328) := by show _ ≤ _; have := HEN.out; omega
               have O1 := hid (intsC_one ej.state)
               have x2 := HX3.out.cells5.2.2.1
               have hxl : w.heap.size < wc.heap.size := HX3.out.lt
               go_wp2_with (at_builtin; refine wpList_onto _ rfl _ _ 23 3 1 8 _ Tryz.underlying23 intInfo rfl (by decide) (by decide) rfl wc.heap.size _ 0 [] rfl R1.out sb sn sc (intsC ej.state) rfl HL3S.out O1.out NS1.out S1.out.size ?_)
               intro v4 w4 hown4 hg4
               have HB4 := hid (step_row S1.out R1.out hg4)
               have HO4 : Hid (w4.ownsRow wc.heap.size 3 1 v4 sn (intsC ej.state)) := by
                 show World.ownsRow _ _ _ _ _ _ _
                 simpa using hown4
               have HO4A := hid (HO4.out.alloc (.cells #[.int .i64 0] 3))
               have S4 := hid (step_box HB4.out (.cells #[.int .i64 0] 3))
               have LO4 := hid (lies_one w4 #[.int .i64 0] 3 1 rfl)
               have HX4 := hid (HX3.out.below S4.out)
               clear hown4 hg4 x2
               go_wp2_with (at_builtin; refine wpList_onto _ rfl _ _ 23 3 1 8 _ Tryz.underlying23 intInfo rfl (by decide) (by decide) rfl wc.heap.size _ sn (intsC ej.state) rfl HO4A.out _ 1 _ _ rfl LO4.out (intsC_one [0]) NS2.out S4.out.size ?_)
               intro v5 w5 hown5 hg5
               have HB5 := hid (step_row S4.out HO4A.out hg5)
               have HO5 : Hid (w5.ownsRow wc.heap.size 3 1 v5 (sn + 1) (intsC (ej.state ++ [0]))) := by
                 show World.ownsRow _ _ _ _ _ _ _
                 rw [intsC_append]; exact hown5
               obtain ⟨b5, c5, rfl, hl5⟩ := Lies.owned hown5
               have HF5 := hid (put_state HX3.out HL3.out HZ3.out (by omega) HB3.out (Nat.le_refl _) HB5.out HO5.out)
               have z5 := (HX3.out.below HB5.out).cells5.2.2.1
               have f5 := (HX3.out.below HB5.out).free 2
               have hz5 : w.heap.size < w5.heap.size := (HX3.out.below HB5.out).lt
               clear hown5 hg5 hl5 HL3S R1 S1 NS1 NS2 O1 HB4 HO4 HO4A S4 LO4 HX4 HL3 HZ3 HX3 HB3 HB5 HO5
               go_upto_region 18 with fail
               generalize w5.setCell ⟨w.heap.size, 2, none⟩ (.slice b5 (sn + 1) c5) = wy at *
               have HX6 := hid HF5.out.1
               have HL6 := hid HF5.out.2.1
               have HZ6 := hid HF5.out.2.2.1
               have HB6 := hid HF5.out.2.2.2
               have HL6S := hid (HL6.out.en.below (by decide) (grew wy (.cells #[] 83)))
               have R6 := hid (lit_row wy wy.heap.size 83 5 (Nat.le_refl _))
               have S6 := hid (step_box (Below.refl wy.heap.size wy) (.cells #[] 83))
               have O6 := hid (endCells_one ej.ends)
               have x3 := HX6.out.cells5.2.2.2.1
               have hxl6 : w.heap.size < wy.heap.size := HX6.out.lt
               clear HF5 z5 f5 hz5
               go_wp2_with (at_builtin; refine wpList_onto _ rfl _ _ 31 83 5 40 _ Tryz.underlying31 doneInfo rfl (by decide) (by decide) rfl wy.heap.size _ 0 [] rfl R6.out eb en ec (endCells ej.ends) rfl HL6S.out O6.out NE1.out S6.out.size ?_)
               intro v7 w7 hown7 hg7
               have HB7 := hid (step_row S6.out R6.out hg7)
               have HO7 : Hid (w7.ownsRow wy.heap.size 83 5 v7 en (endCells ej.ends)) := by
                 show World.ownsRow _ _ _ _ _ _ _
                 simpa using hown7
               have HO7A := hid (HO7.out.alloc (.cells #[.bool false, .int .i64 0, .int .i64 0, .int .i64 0, .int .i64 0] 83))
               have S7 := hid (step_box HB7.out (.cells #[.bool false, .int .i64 0, .int .i64 0, .int .i64 0, .int .i64 0] 83))
               have LO7 := hid (lies_one w7 #[.bool false, .int .i64 0, .int .i64 0, .int .i64 0, .int .i64 0] 83 5 rfl)
               have O7 := hid (endCell_one noE)
               clear hown7 hg7 x3
               go_wp2_with (at_builtin; refine wpList_onto _ rfl _ _ 31 83 5 40 _ Tryz.underlying31 doneInfo rfl (by decide) (by decide) rfl wy.heap.size _ en (endCells ej.ends) rfl HO7A.out _ 1 _ _ rfl LO7.out O7.out NE2.out S7.out.size ?_)
               intro v8 w8 hown8 hg8
               have HB8 := hid (step_row S7.out HO7A.out hg8)
               have HO8 : Hid (w8.ownsRow wy.heap.size 83 5 v8 (en + 1) (endCells (ej.ends ++ [noE]))) := by
                 show World.ownsRow _ _ _ _ _ _ _
                 rw [endCells_append]
                 have : endCells [noE] = endCell noE := by simp [endCells]
                 rw [this]
                 exact hown8
               obtain ⟨b8, c8, rfl, hl8⟩ := Lies.owned hown8
               have HF8 := hid (put_ends HX6.out HL6.out HZ6.out (by omega) HB6.out (Nat.le_refl _) HB8.out HO8.out)
               have z8 := (HX6.out.below HB8.out).cells5.2.2.2.1
               have f8 := (HX6.out.below HB8.out).free 3
               have hz8 : w.heap.size < w8.heap.size := (HX6.out.below HB8.out).lt
               have HLN8 : Hid (EngLies (w8.setCell ⟨w.heap.size, 3, none⟩ (.slice b8 (en + 1) c8)) cb2 cn2 cc2 db3 (dn + 1) dc3 b5 (sn + 1) c5 b8 (en + 1) c8 (addAll e (l.take (q + 1)))) := by
                 show EngLies _ _ _ _ _ _ _ _ _ _ _ _ _ _
                 rw [HNX.out]
                 exact HF8.out.2.1
               clear hown8 hg8 hl8 HL6S R6 S6 O6 HB7 HO7 HO7A S7 LO7 O7 HL6 HZ6 HX6 HB6 HB8 HO8
               go_wp2
               go_roundw
               case rel => exact ⟨q + 1, _, _, _, _, _, _, _, _, _, _, _, _, by omega, by go_num, HF8.out.1, HF8.out.2.2.1, HLN8, HF8.out.2.2.2⟩
               case measure => simp [intOf]; omega
       · obtain rfl : q = j := by omega
         have HQ : Hid (wDs l = 0 ∧ addTo e l = addAll e l) := by
           have h1 := wDs_of HRL.out
           refine ⟨h1, ?_⟩
           unfold addTo; rw [if_pos h1]
         have HLF0 : Hid (EngLies wr cb cn cc db dn dc sb sn sc eb en ec (addAll e l)) := by
           have := HL.out
           rw [List.take_of_length_le (by rw [← HLN.out]; exact Nat.le_refl _)] at this
           exact this
         have HBS : Hid ((addAll e l).base = e.base) := addAll_base e l
         obtain ⟨x0, x1, x2, x3, x4⟩ := HX.out.cells5
         obtain ⟨z0, z1, z2, z3, z4⟩ := HZ.out.cells5
         obtain ⟨f0, f1, f2, f3, f4⟩ := HZ.out.free5
         have hxl : w.heap.size < wr.heap.size := HX.out.lt
         have hzl : w.heap.size + 1 < wr.heap.size := HZ.out.lt
         have HBF := hid (put5_box HZ.out (.slice cb cn cc) (.slice db dn dc) (.slice sb sn sc) (.slice eb en ec) (.int .i64 e.base))
         have HBE := hid (put5_below HBR.out (Nat.le_succ _) (.slice cb cn cc) (.slice db dn dc) (.slice sb sn sc) (.slice eb en ec) (.int .i64 e.base))
         have HLF := hid (HLF0.out.put HZ.out (put5_off wr (w.heap.size + 1) (.slice cb cn cc) (.slice db dn dc) (.slice sb sn sc) (.slice eb en ec) (.int .i64 e.base)))
         unfold put5 at HBF HBE HLF
         go_wp2
         (try simp only [Exit.inBlock, Exit.then])
         refine bodyPost_ret (refAddE_results _ (w.heap.size + 1) _ rfl rfl HBF.out) rfl ?_
         refine ⟨_, by rw [HQ.out.1], ?_, HBE.out⟩
         rw [HQ.out.2]
         exact ⟨_, _, _, _, _, _, _, _, _, _, _, _, by rw [HBS.out], HLF.out⟩
end Go.Proofs.YtlhaeeenkgkdaaaGreatDoor
