/-
  Go of the program's run, walked.
  Mark, Size and Seen of the program's tidy, walked.
  Cells of three engines that a call keeps, and an engine of a call's own as one in memory.
-/
import Derived.Test.YtlhaeeenkgkdaaaGreatDoorRunDone
import Derived.Test.YtlhaeeenkgkdaaaGreatDoorRepFinds
import Derived.Test.YtlhaeeenkgkdaaaGreatDoorRefOldE
import Derived.Test.YtlhaeeenkgkdaaaGreatDoorRefRight
import Derived.Test.YtlhaeeenkgkdaaaGreatDoorPlanOwn
import Derived.Test.YtlhaeeenkgkdaaaGreatDoorRefAddE
namespace Go.Proofs.YtlhaeeenkgkdaaaGreatDoor
open Go.RowKit

theorem goTo_hind (e : Eng) (at_ : Int) : goTo e at_ = if hindE e at_ = 0 then (goE e at_.toNat, 0) else (e, hindE e at_) := by
 unfold goTo hindE
 by_cases h1 : at_ < 0 ∨ (e.deeds.length : Int) ≤ at_
 · rw [if_pos h1, if_pos h1, if_neg (by decide)]
 · rw [if_neg h1, if_neg h1]
   by_cases h2 : e.state.getD at_.toNat 0 = 1
   · rw [if_pos h2, if_pos h2, if_neg (by decide)]
   · rw [if_neg h2, if_neg h2]
     by_cases h3 : needsE e at_.toNat ≠ []
     · rw [if_pos h3, if_pos h3, if_neg (by decide)]
     · rw [if_neg h3, if_neg h3, if_pos rfl]
theorem hind_in {e : Eng} {at_ : Int} (h : hindE e at_ = 0) : ∃ p : Nat, at_ = p ∧ p < e.deeds.length := by
 unfold hindE at h
 split at h
 · cases h
 · rename_i h1
   exact ⟨at_.toNat, by omega, by omega⟩
theorem runGo_results (tmps : Array Value) (b : Nat) (w : World) {a0 a1 a2 a3 : Option Addr} {n0 n1 n2 n3 c0 c1 c2 c3 : Nat} {z q : Int} (h : tmps.getD 4 undef = .pointer (some ⟨b, 0, none⟩)) (h5 : tmps.getD 5 undef = .int .i64 q) (hb : Box w b #[.slice a0 n0 c0, .slice a1 n1 c1, .slice a2 n2 c2, .slice a3 n3 c3, .int .i64 z] 33) :
   (results Tryz.f28 tmps).run Tryz.prog w = .ok (.tuple #[.agg #[.slice a0 n0 c0, .slice a1 n1 c1, .slice a2 n2 c2, .slice a3 n3 c3, .int .i64 z], .int .i64 q]) w := by
 have h' : tmps[4]?.getD undef = .pointer (some ⟨b, 0, none⟩) := by simpa using h
 have h5' : tmps[5]?.getD undef = .int .i64 q := by simpa using h5
 obtain ⟨k0, k1, k2, k3, k4⟩ := hb.cells5
 simp [results, Tryz.results28, go_sem, h', h5', k0, k1, k2, k3, k4]

set_option maxHeartbeats 4000000 in
set_option maxRecDepth 100000 in
theorem runGo_calls {r0 : List Row} {D : List Deed3} {m : Nat} {dq : Nat → Bool} {bq : ByteArray → Int} {e : Eng} (G : Good r0 D m dq bq e) (hD : D.length ≤ 1954687338211) (at_ : Int) (v : Value) (w : World) (hv : EngIn w v e) :
   Calls Tryz.prog 28 #[v, .int .i64 at_] w fun x w' => GoTold w w' e at_ x := by
 obtain ⟨cb, cn, cc, db, dn, dc, sb, sn, sc, eb, en, ec, rfl, hl⟩ := hv
 have HG := hid G
 have HDM := hid hD
 have HBX := hid (Box.new w #[.slice cb cn cc, .slice db dn dc, .slice sb sn sc, .slice eb en ec, .int .i64 e.base] 33)
 have HB0 := hid (grew w (.cells #[.slice cb cn cc, .slice db dn dc, .slice sb sn sc, .slice eb en ec, .int .i64 e.base] 33))
 have HBZ := hid (Box.new (w.alloc (.cells #[.slice cb cn cc, .slice db dn dc, .slice sb sn sc, .slice eb en ec, .int .i64 e.base] 33)) zeroA 33)
 have HB1 := hid (grew (w.alloc (.cells #[.slice cb cn cc, .slice db dn dc, .slice sb sn sc, .slice eb en ec, .int .i64 e.base] 33)) (.cells zeroA 33))
 rw [World.size_alloc] at HBZ
 have HX := hid (HBX.out.below HB1.out)
 have HBW := hid (below_deep HB0.out HB1.out)
 have HL := hid (hl.below HBW.out)
 clear G hD hl HBX HB0 HB1
 go_enter Tryz.func28, Tryz.ntmps28
 go_upto_region 1 with fail
 generalize (w.alloc (.cells #[.slice cb cn cc, .slice db dn dc, .slice sb sn sc, .slice eb en ec, .int .i64 e.base] 33)).alloc (.cells zeroA 33) = A at *
 obtain ⟨x0, x1, x2, x3, x4⟩ := HX.out.cells5
 have hxl : w.heap.size < A.heap.size := HX.out.lt
 have PO := hid (planOwn_calls HG.out HDM.out _ A ⟨_, _, _, _, _, _, _, _, _, _, _, _, rfl, HL.out⟩)
 go_wp2_with fail
 refine PO.out.mono ?_
 rintro x w1 ⟨cb1, cn1, cc1, v1, v2, v3, rfl, he1, hb1⟩
 obtain ⟨db1, dc1, sb1, sc1, eb1, ec1, rfl, rfl, rfl, hl1⟩ := he1.lies
 have HG1 := hid (grew w1 (.cells #[.slice cb1 cn1 cc1, .slice db1 e.deeds.length dc1, .slice sb1 e.state.length sc1, .slice eb1 e.ends.length ec1, .int .i64 e.base] 33))
 have HN1 := hid (Box.new w1 #[.slice cb1 cn1 cc1, .slice db1 e.deeds.length dc1, .slice sb1 e.state.length sc1, .slice eb1 e.ends.length ec1, .int .i64 e.base] 33)
 have HB2 := hid (below_deep hb1 HG1.out)
 have HE2 := hid (he1.below HG1.out)
 have HZ2 := hid (HBZ.out.below HB2.out)
 have HX2 := hid (HX.out.below HB2.out)
 have HL2 := hid (HL.out.below HB2.out)
 have hxl2 : w.heap.size < w1.heap.size := (HX.out.below hb1).lt
 have HNL : Hid (w.heap.size + 1 < w1.heap.size) := (HBZ.out.below hb1).lt
 clear he1 hb1 hl1 PO x0 x1 x2 x3 x4
 go_upto_region 2 with fail
 generalize w1.alloc (.cells #[.slice cb1 cn1 cc1, .slice db1 e.deeds.length dc1, .slice sb1 e.state.length sc1, .slice eb1 e.ends.length ec1, .int .i64 e.base] 33) = A2 at *
 generalize w1.heap.size = bn at *
 obtain ⟨x0, x1, x2, x3, x4⟩ := HX2.out.cells5
 have hx2 : w.heap.size < A2.heap.size := HX2.out.lt
 have PH := hid (hindered_calls HG.out HDM.out at_ _ A2 ⟨_, _, _, _, _, _, _, _, _, _, _, _, rfl, HL2.out⟩)
 have HGT := hid (goTo_hind e at_)
 have HHI := hid (hind_in (e := e) (at_ := at_))
 have HRH := hid (fun (p : Nat) hp h => ready_of_hind HG.out (p := p) hp h)
 generalize hq : hindE e at_ = q at *
 have HQ := hid hq
 clear hq
 go_wp2_with fail
 refine PH.out.mono ?_
 rintro x w3 ⟨rfl, hb3⟩
 have HB3 := hid hb3
 have HN3 := hid (HN1.out.below hb3)
 have HZ3 := hid (HZ2.out.below hb3)
 have HE3 := hid (HE2.out.below hb3)
 have HBA := hid (below_deep HB2.out hb3)
 clear hb3 PH x0 x1 x2 x3 x4 hx2 hxl2 hxl
 obtain ⟨n0, n1, n2, n3, n4⟩ := HN3.out.cells5
 obtain ⟨z0, z1, z2, z3, z4⟩ := HZ3.out.cells5
 obtain ⟨f0, f1, f2, f3, f4⟩ := HZ3.out.free5
 have hnl : bn < w3.heap.size := HN3.out.lt
 have hzl : w.heap.size + 1 < w3.heap.size := HZ3.out.lt
 by_cases h0 : q = 0
 · subst h0
   obtain ⟨p, rfl, hpl⟩ := HHI.out rfl
   have HT : Hid (goTo e p = (goE e p, 0)) := by show _ = _; rw [HGT.out, if_pos rfl, Int.toNat_natCast]
   have HRP := hid (HRH.out p hpl HQ.out)
   have PD := hid (runDo_calls HG.out HDM.out p HRP.out A.heap.size cb1 cn1 cc1 _ _ _ w3 HE3.out HBA.out.size)
   clear hpl HRH HHI HGT
   go_wp2_with fail
   refine PD.out.mono ?_
   rintro x w4 ⟨⟨cb4, cn4, cc4, v14, v24, v34, rfl, he4, hb4⟩, hk4⟩
   obtain ⟨db4, dc4, sb4, sc4, eb4, ec4, rfl, rfl, rfl, hl4⟩ := he4.lies
   have HZ4 := hid (hk4 _ _ _ HZ3.out (by decide) (by decide) (by decide))
   obtain ⟨z0, z1, z2, z3, z4⟩ := HZ4.out.cells5
   obtain ⟨f0, f1, f2, f3, f4⟩ := HZ4.out.free5
   have hzl4 : w.heap.size + 1 < w4.heap.size := HZ4.out.lt
   have HBX5 := hid (put5_box HZ4.out (.slice cb4 cn4 cc4) (.slice db4 (goE e p).deeds.length dc4) (.slice sb4 (goE e p).state.length sc4) (.slice eb4 (goE e p).ends.length ec4) (.int .i64 (goE e p).base))
   have HEX5 := hid (hl4.put HZ4.out (put5_off w4 (w.heap.size + 1) (.slice cb4 cn4 cc4) (.slice db4 (goE e p).deeds.length dc4) (.slice sb4 (goE e p).state.length sc4) (.slice eb4 (goE e p).ends.length ec4) (.int .i64 (goE e p).base)))
   have HBL5 := hid (put5_below (below_deep HBW.out (HBA.out.trans hb4)) (Nat.le_succ _) (.slice cb4 cn4 cc4) (.slice db4 (goE e p).deeds.length dc4) (.slice sb4 (goE e p).state.length sc4) (.slice eb4 (goE e p).ends.length ec4) (.int .i64 (goE e p).base))
   unfold put5 at HBX5 HEX5 HBL5
   clear he4 hb4 hk4 hl4 PD n0 n1 n2 n3 n4 hnl
   go_wp2
   (try simp only [Exit.inBlock, Exit.then])
   refine bodyPost_ret (runGo_results _ (w.heap.size + 1) _ rfl rfl HBX5.out) rfl ?_
   refine ⟨_, by rw [HT.out], ?_, HBL5.out⟩
   rw [HT.out]
   exact ⟨_, _, _, _, _, _, _, _, _, _, _, _, rfl, HEX5.out⟩
 · have HT : Hid (goTo e at_ = (e, q)) := by show _ = _; rw [HGT.out, if_neg h0]
   have t : (q != 0) = true := by simpa using h0
   have t2 : (q == 0) = false := by simpa using h0
   obtain ⟨_, _, _, _, _, _, e1, e2, e3, hl3⟩ := HE3.out.lies
   simp only [Value.slice.injEq, true_and] at e1 e2 e3
   obtain ⟨rfl, rfl⟩ := e1
   obtain ⟨rfl, rfl⟩ := e2
   obtain ⟨rfl, rfl⟩ := e3
   have HBX5 := hid (put5_box HZ3.out (.slice cb1 cn1 cc1) (.slice db1 e.deeds.length dc1) (.slice sb1 e.state.length sc1) (.slice eb1 e.ends.length ec1) (.int .i64 e.base))
   have HEX5 := hid (hl3.put HZ3.out (put5_off w3 (w.heap.size + 1) (.slice cb1 cn1 cc1) (.slice db1 e.deeds.length dc1) (.slice sb1 e.state.length sc1) (.slice eb1 e.ends.length ec1) (.int .i64 e.base)))
   have HBL5 := hid (put5_below (below_deep HBW.out HBA.out) (Nat.le_succ _) (.slice cb1 cn1 cc1) (.slice db1 e.deeds.length dc1) (.slice sb1 e.state.length sc1) (.slice eb1 e.ends.length ec1) (.int .i64 e.base))
   unfold put5 at HBX5 HEX5 HBL5
   clear hl3 h0 HRH HHI HGT
   go_wp2
   (try simp only [Exit.inBlock, Exit.then])
   refine bodyPost_ret (runGo_results _ (w.heap.size + 1) _ rfl rfl HBX5.out) rfl ?_
   refine ⟨_, by rw [HT.out], ?_, HBL5.out⟩
   rw [HT.out]
   exact ⟨_, _, _, _, _, _, _, _, _, _, _, _, rfl, HEX5.out⟩
end Go.Proofs.YtlhaeeenkgkdaaaGreatDoor

namespace Go.Proofs.YtlhaeeenkgkdaaaGreatDoor
open Go.RowKit

theorem slice_upto {t e sz : Nat} (hu : Tryz.prog.underlying t = some (.slice e)) (hz : ∀ w, (sizeOf e).run Tryz.prog w = .ok sz w) (base : Option Addr) (n c k : Nat) (hk : k ≤ c) (w : World) :
   (Instr.slice t (.slice base n c) none (some (.int .i64 (k : Int))) none).run Tryz.prog w = .ok (.slice (cutB base c 0 sz) k c) w := by
 have h1 : (0 : Int) ≤ (k : Int) ∧ (k : Int) ≤ (c : Int) := by omega
 have h2 : ((k : Int)).toNat = k := Int.toNat_natCast k
 have hur : ∀ w, (underlying t).run Tryz.prog w = .ok (.slice e) w := fun w => by simp [underlying, go_sem, hu]
 simp [Instr.slice, Instr.sliceBounds, Instr.sliceBound, go_sem, hur, hz, hk, cutB]

set_option maxHeartbeats 4000000 in
set_option maxRecDepth 100000 in
theorem tidyMark_calls (e : Eng) (v : Value) (w : World) (hv : EngIn w v e) (hs : e.state.length ≤ 1954687338211) (h1 : e.state.length = e.deeds.length) (h2 : e.ends.length = e.deeds.length) :
   Calls Tryz.prog 31 #[v] w fun x w' => x = .returned (.int .i64 (markE e)) ∧ Below w.heap.size w w' := by
 obtain ⟨cb, cn, cc, db, dn, dc, sb, sn, sc, eb, en, ec, rfl, hl⟩ := hv
 obtain rfl : sn = dn := by rw [Ints.count hl.st, h1, ← hl.de.len]
 obtain rfl : en = sn := by rw [Ends.count hl.en, h2, ← h1, ← Ints.count hl.st]
 have hsn : en = e.state.length := Ints.count hl.st
 have hsm : en ≤ 1954687338211 := by omega
 have hsc : en ≤ sc := hl.st.hdr.le
 have HSN := hid hsn
 have HMK : Hid (markE e = markS e.state) := rfl
 have HML := hid (markS_le e.state)
 have HM1 := hid (fun k hk => markS_one (l := e.state) (k := k) hk)
 have HME := hid (markS_end (l := e.state))
 have HBX := hid (Box.new w #[.slice cb cn cc, .slice db en dc, .slice sb en sc, .slice eb en ec, .int .i64 e.base] 33)
 have HBA := hid (grew w (.cells #[.slice cb cn cc, .slice db en dc, .slice sb en sc, .slice eb en ec, .int .i64 e.base] 33))
 have HS0 := hid (hl.below HBA.out).st
 have HST : Hid (Ints (w.alloc (.cells #[.slice cb cn cc, .slice db en dc, .slice sb en sc, .slice eb en ec, .int .i64 e.base] 33)) (cutB sb sc 0 1) en sc e.state) := by
   have := ints_cut HS0.out (k := 0) (Nat.zero_le _)
   show Ints _ _ _ _ _
   simpa using this
 have hs1 := slice_upto (t := 23) Tryz.underlying23 Tryz.sizeOf3 sb en sc en hsc
 clear hl hsn hs h1 h2 hsc
 go_enter Tryz.func31, Tryz.ntmps31
 go_upto_region 1 with fail
 generalize w.alloc (.cells #[.slice cb cn cc, .slice db en dc, .slice sb en sc, .slice eb en ec, .int .i64 e.base] 33) = A at *
 obtain ⟨x0, x1, x2, x3, x4⟩ := HBX.out.cells5
 have hxl : w.heap.size < A.heap.size := HBX.out.lt
 have hmin : ¬ ((en : Int) < (en : Int)) := by omega
 generalize cutB sb sc 0 1 = sb' at *
 go_wp2
 go_loopw [21] (fun i wr => ∃ k : Nat, k ≤ markS e.state ∧ i = .int .i64 k ∧ Hid (wr = A)) (fun i _ => en - (intOf i).toNat)
 case atStart => exact ⟨0, Nat.zero_le _, rfl, rfl⟩
 case round =>
   obtain ⟨k, hk, rfl, HWE⟩ := hrel
   have hwe := HWE.out
   subst hwe
   have hks : k ≤ en := by have := HML.out; have := HSN.out; omega
   by_cases hlt : k < en
   · have hkl : k < e.state.length := by rw [← HSN.out]; exact hlt
     have hi : (k : Int) < (en : Int) := by omega
     obtain ⟨b1, o1, rfl, hrun⟩ : ∃ b1 o1, sb' = some ⟨b1, o1, none⟩ ∧ Run wr b1 o1 (intsC e.state) := by
       rcases HST.out.run with h | h
       · omega
       · exact h
     have k0 := hrun k _ (intsC_at hkl)
     have hb1 : b1 < wr.heap.size := by simpa using World.block_lt_of_cell? _ _ k0
     have d1 : decide ((k : Int) < (en : Int)) = true := by simpa using hlt
     clear hrun
     by_cases hm : k < markS e.state
     · have h1 := HM1.out k hm
       rw [h1] at k0
       clear h1
       go_wp2
       go_roundw
       case rel => exact ⟨k + 1, by omega, by go_num, trivial⟩
       case measure => simp [intOf]; omega
     · obtain rfl : k = markS e.state := by omega
       have h1 := HME.out hkl
       generalize e.state.getD (markS e.state) 0 = s at *
       have t : (s != 1) = true := by simpa using h1
       have t' : (s == 1) = false := by simpa using h1
       clear h1
       generalize markS e.state = k at *
       go_wp2
       go_ret
       exact ⟨ret_int (by rw [HMK.out]), HBA.out⟩
   · obtain rfl : k = en := by omega
     have HKM : Hid (markE e = k) := by show _ = _; rw [HMK.out]; have := HML.out; have := HSN.out; omega
     have d1 : decide ((k : Int) < (k : Int)) = false := by simp
     go_wp2
     go_ret
     exact ⟨ret_int (by rw [HKM.out]), HBA.out⟩

def SeenTold (w w' : World) (e : Eng) (at_ : Int) (x : Ending) : Prop := ∃ b n c, x = .returned (.tuple #[.slice b n c, .int .i64 (seenTo e at_).2]) ∧ Holds w' b n c (seenTo e at_).1 ∧ Below w.heap.size w w'
theorem seen_told {w w' : World} {e : Eng} {at_ : Int} {l : List Row} {q : Int} {b : Option Addr} {n c : Nat} (hT : seenTo e at_ = (l, q)) (hh : Holds w' b n c l) (hb : Below w.heap.size w w') : SeenTold w w' e at_ (.returned (.tuple #[.slice b n c, .int .i64 q])) :=
 ⟨b, n, c, by rw [hT], by rw [hT]; exact hh, hb⟩
theorem nil_holds (w : World) : Holds w none 0 0 [] := Holds.empty _ rfl rfl ⟨Nat.le_refl _, Nat.zero_le _, fun _ => rfl⟩

set_option maxHeartbeats 4000000 in
set_option maxRecDepth 100000 in
theorem tidySeen_calls {r0 : List Row} {D : List Deed3} {m : Nat} {dq : Nat → Bool} {bq : ByteArray → Int} {e : Eng} (G : Good r0 D m dq bq e) (hD : D.length ≤ 1954687338211) (at_ : Int) (v : Value) (w : World) (hv : EngIn w v e) :
   Calls Tryz.prog 30 #[v, .int .i64 at_] w fun x w' => SeenTold w w' e at_ x := by
 obtain ⟨cb, cn, cc, db, dn, dc, sb, sn, sc, eb, en, ec, rfl, hl⟩ := hv
 have hle := G.le
 have hz0 : 0 ≤ e.base := by rw [G.base]; omega
 have hz1 : e.base ≤ 1954687338211 := by rw [G.base]; omega
 have HDL := hid hl.de.len
 have hdn : dn ≤ 1954687338211 := by rw [hl.de.len, G.len]; omega
 have HFIT := hid (G.fit hD)
 have HBX := hid (Box.new w #[.slice cb cn cc, .slice db dn dc, .slice sb sn sc, .slice eb en ec, .int .i64 e.base] 33)
 have HB0 := hid (grew w (.cells #[.slice cb cn cc, .slice db dn dc, .slice sb sn sc, .slice eb en ec, .int .i64 e.base] 33))
 have HL := hid (hl.below HB0.out)
 clear G hD hl hle
 go_enter Tryz.func30, Tryz.ntmps30
 go_upto_region 1 with fail
 generalize w.alloc (.cells #[.slice cb cn cc, .slice db dn dc, .slice sb sn sc, .slice eb en ec, .int .i64 e.base] 33) = A at *
 obtain ⟨x0, x1, x2, x3, x4⟩ := HBX.out.cells5
 have hxl : w.heap.size < A.heap.size := HBX.out.lt
 by_cases hneg : at_ < 0
 · have HT : Hid (seenTo e at_ = ([], 6)) := by show _ = _; unfold seenTo; rw [if_pos (.inl hneg)]
   have t1 : decide (at_ < 0) = true := by simpa using hneg
   clear hneg
   go_wp2
   go_ret2
   exact seen_told HT.out (nil_holds _) HB0.out
 obtain ⟨k, rfl⟩ : ∃ k : Nat, at_ = (k : Int) := ⟨at_.toNat, by omega⟩
 have t1 : decide ((k : Int) < 0) = false := by simp
 by_cases hbig : dn < k
 · have HT : Hid (seenTo e k = ([], 6)) := by show _ = _; unfold seenTo; rw [if_pos (.inr (by rw [← HDL.out]; omega))]
   have t2 : decide ((dn : Int) < (k : Int)) = true := by simp; omega
   have t3 : decide (dn < k) = true := by simp; omega
   clear hneg
   go_wp2
   go_ret2
   exact seen_told HT.out (nil_holds _) HB0.out
 have t2 : decide ((dn : Int) < (k : Int)) = false := by simp; omega
 have t3 : decide (dn < k) = false := by simp; omega
 have hsum : IntKind.i64.wrap (e.base + (k : Int)) = e.base + k := by rw [IntKind.wrap_i64]; omega
 have HST : Hid (seenTo e k = match rowsC e.chains (e.base + k) with | none => ([], 10) | some r => (r, 0)) := by
   show _ = _
   unfold seenTo
   rw [if_neg (by rw [← HDL.out]; omega)]
   all_goals (cases rowsC e.chains (e.base + (k : Int)) <;> rfl)
 have PRA := hid (rowsC_calls e.chains cb cn cc (e.base + k) A HFIT.out HL.out.ch)
 clear hneg hbig
 cases hrc : rowsC e.chains (e.base + (k : Int)) with
 | none =>
   rw [hrc] at HST
   unfold RowsTold at PRA
   rw [hrc] at PRA
   clear hrc
   go_wp2_with fail
   refine PRA.out.mono ?_
   rintro x w1 ⟨b9, n9, c9, ok, rfl, rfl, h9, hb9⟩
   have HB1 := hid (below_deep HB0.out hb9)
   clear h9 hb9 PRA
   simp only [Option.isSome_none]
   go_wp2
   go_ret2
   exact seen_told HST.out (nil_holds _) HB1.out
 | some r =>
   rw [hrc] at HST
   unfold RowsTold at PRA
   rw [hrc] at PRA
   clear hrc
   go_wp2_with fail
   refine PRA.out.mono ?_
   rintro x w1 ⟨b9, n9, c9, ok, rfl, rfl, h9, hb9⟩
   have HB1 := hid (below_deep HB0.out hb9)
   have H9 : Hid (Holds w1 b9 n9 c9 r) := h9
   clear h9 hb9 PRA
   simp only [Option.isSome_some]
   go_wp2
   go_ret2
   exact seen_told HST.out H9.out HB1.out
end Go.Proofs.YtlhaeeenkgkdaaaGreatDoor

namespace Go.Proofs.YtlhaeeenkgkdaaaGreatDoor
open Go.RowKit

theorem own_engTold {w w' : World} {e : Eng} {x : Ending} (h : OwnTold w w' w.heap.size e x) : EngTold w w' e x := by
 obtain ⟨cb, cn, cc, v1, v2, v3, rfl, he, hb⟩ := h
 obtain ⟨db, dc, sb, sc, eb, ec, rfl, rfl, rfl, hl⟩ := he.lies
 exact ⟨_, rfl, ⟨_, _, _, _, _, _, _, _, _, _, _, _, rfl, hl⟩, hb⟩
end Go.Proofs.YtlhaeeenkgkdaaaGreatDoor
