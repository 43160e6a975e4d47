/-
  Go of the program's run, walked.
  The closure that tells which one of those that are ready goes next, walked.
  All of the program's run, walked: deeds are done until none is ready, whichever goes next.
-/
import Derived.Test.YtllhdmhfjahgladGreatDoorRunDone
import Derived.Test.YtllhdmhfjahgladGreatDoorRefOldE
import Derived.Deep.LoopGhost
namespace Go.Proofs.YtllhdmhfjahgladGreatDoor
open Go.RowKit

theorem goTo_hind (e : Eng) (at_ : Int) : goTo e at_ = if hindE e at_ = 0 then (goE e at_.toNat, 0) else (e, hindE e at_) := by
  unfold goTo hindE
  by_cases h1 : at_ < 0 ∨ (e.deeds.length : Int) ≤ at_
  · rw [if_pos h1, if_pos h1, if_neg (by decide)]
  · rw [if_neg h1, if_neg h1]
    by_cases h2 : e.state.getD at_.toNat 0 = 1
    · rw [if_pos h2, if_pos h2, if_neg (by decide)]
    · rw [if_neg h2, if_neg h2]
      by_cases h3 : needsE e at_.toNat ≠ []
      · rw [if_pos h3, if_pos h3, if_neg (by decide)]
      · rw [if_neg h3, if_neg h3, if_pos rfl]
theorem hind_in {e : Eng} {at_ : Int} (h : hindE e at_ = 0) : ∃ p : Nat, at_ = p ∧ p < e.deeds.length := by
  unfold hindE at h
  split at h
  · cases h
  · rename_i h1
    exact ⟨at_.toNat, by omega, by omega⟩
theorem runGo_results (tmps : Array Value) (b : Nat) (w : World) {a0 a1 a2 a3 : Option Addr} {n0 n1 n2 n3 c0 c1 c2 c3 : Nat} {z q : Int} (h : tmps.getD 4 undef = .pointer (some ⟨b, 0, none⟩)) (h5 : tmps.getD 5 undef = .int .i64 q) (hb : Box w b #[.slice a0 n0 c0, .slice a1 n1 c1, .slice a2 n2 c2, .slice a3 n3 c3, .int .i64 z] 33) :
    (results Tryz.f16 tmps).run Tryz.prog w = .ok (.tuple #[.agg #[.slice a0 n0 c0, .slice a1 n1 c1, .slice a2 n2 c2, .slice a3 n3 c3, .int .i64 z], .int .i64 q]) w := by
  have h' : tmps[4]?.getD undef = .pointer (some ⟨b, 0, none⟩) := by simpa using h
  have h5' : tmps[5]?.getD undef = .int .i64 q := by simpa using h5
  obtain ⟨k0, k1, k2, k3, k4⟩ := hb.cells5
  simp [results, Tryz.results16, go_sem, h', h5', k0, k1, k2, k3, k4]

set_option maxHeartbeats 4000000 in
set_option maxRecDepth 100000 in
theorem runGo_calls {r0 : List Row} {D : List Deed3} {m : Nat} {dq : Nat → Bool} {bq : ByteArray → Int} {e : Eng} (G : Good r0 D m dq bq e) (hD : D.length ≤ 1954687338211) (at_ : Int) (v : Value) (w : World) (hv : EngIn w v e) :
    Calls Tryz.prog 16 #[v, .int .i64 at_] w fun x w' => GoTold w w' e at_ x := by
  obtain ⟨cb, cn, cc, db, dn, dc, sb, sn, sc, eb, en, ec, rfl, hl⟩ := hv
  have HG := hid G
  have HDM := hid hD
  have HBX := hid (Box.new w #[.slice cb cn cc, .slice db dn dc, .slice sb sn sc, .slice eb en ec, .int .i64 e.base] 33)
  have HB0 := hid (grew w (.cells #[.slice cb cn cc, .slice db dn dc, .slice sb sn sc, .slice eb en ec, .int .i64 e.base] 33))
  have HBZ := hid (Box.new (w.alloc (.cells #[.slice cb cn cc, .slice db dn dc, .slice sb sn sc, .slice eb en ec, .int .i64 e.base] 33)) zeroA 33)
  have HB1 := hid (grew (w.alloc (.cells #[.slice cb cn cc, .slice db dn dc, .slice sb sn sc, .slice eb en ec, .int .i64 e.base] 33)) (.cells zeroA 33))
  rw [World.size_alloc] at HBZ
  have HX := hid (HBX.out.below HB1.out)
  have HBW := hid (below_deep HB0.out HB1.out)
  have HL := hid (hl.below HBW.out)
  clear G hD hl HBX HB0 HB1
  go_enter Tryz.func16, Tryz.ntmps16
  go_upto_region 1 with fail
  generalize (w.alloc (.cells #[.slice cb cn cc, .slice db dn dc, .slice sb sn sc, .slice eb en ec, .int .i64 e.base] 33)).alloc (.cells zeroA 33) = A at *
  obtain ⟨x0, x1, x2, x3, x4⟩ := HX.out.cells5
  have hxl : w.heap.size < A.heap.size := HX.out.lt
  have PO := hid (planOwn_calls HG.out HDM.out _ A ⟨_, _, _, _, _, _, _, _, _, _, _, _, rfl, HL.out⟩)
  go_wp2_with fail
  refine PO.out.mono ?_
  rintro x w1 ⟨cb1, cn1, cc1, v1, v2, v3, rfl, he1, hb1⟩
  obtain ⟨db1, dc1, sb1, sc1, eb1, ec1, rfl, rfl, rfl, hl1⟩ := he1.lies
  have HG1 := hid (grew w1 (.cells #[.slice cb1 cn1 cc1, .slice db1 e.deeds.length dc1, .slice sb1 e.state.length sc1, .slice eb1 e.ends.length ec1, .int .i64 e.base] 33))
  have HN1 := hid (Box.new w1 #[.slice cb1 cn1 cc1, .slice db1 e.deeds.length dc1, .slice sb1 e.state.length sc1, .slice eb1 e.ends.length ec1, .int .i64 e.base] 33)
  have HB2 := hid (below_deep hb1 HG1.out)
  have HE2 := hid (he1.below HG1.out)
  have HZ2 := hid (HBZ.out.below HB2.out)
  have HX2 := hid (HX.out.below HB2.out)
  have HL2 := hid (HL.out.below HB2.out)
  have hxl2 : w.heap.size < w1.heap.size := (HX.out.below hb1).lt
  have HNL : Hid (w.heap.size + 1 < w1.heap.size) := (HBZ.out.below hb1).lt
  clear he1 hb1 hl1 PO x0 x1 x2 x3 x4
  go_upto_region 2 with fail
  generalize w1.alloc (.cells #[.slice cb1 cn1 cc1, .slice db1 e.deeds.length dc1, .slice sb1 e.state.length sc1, .slice eb1 e.ends.length ec1, .int .i64 e.base] 33) = A2 at *
  generalize w1.heap.size = bn at *
  obtain ⟨x0, x1, x2, x3, x4⟩ := HX2.out.cells5
  have hx2 : w.heap.size < A2.heap.size := HX2.out.lt
  have PH := hid (hindered_calls HG.out HDM.out at_ _ A2 ⟨_, _, _, _, _, _, _, _, _, _, _, _, rfl, HL2.out⟩)
  have HGT := hid (goTo_hind e at_)
  have HHI := hid (hind_in (e := e) (at_ := at_))
  have HRH := hid (fun (p : Nat) hp h => ready_of_hind HG.out (p := p) hp h)
  generalize hq : hindE e at_ = q at *
  have HQ := hid hq
  clear hq
  go_wp2_with fail
  refine PH.out.mono ?_
  rintro x w3 ⟨rfl, hb3⟩
  have HB3 := hid hb3
  have HN3 := hid (HN1.out.below hb3)
  have HZ3 := hid (HZ2.out.below hb3)
  have HE3 := hid (HE2.out.below hb3)
  have HBA := hid (below_deep HB2.out hb3)
  clear hb3 PH x0 x1 x2 x3 x4 hx2 hxl2 hxl
  obtain ⟨n0, n1, n2, n3, n4⟩ := HN3.out.cells5
  obtain ⟨z0, z1, z2, z3, z4⟩ := HZ3.out.cells5
  obtain ⟨f0, f1, f2, f3, f4⟩ := HZ3.out.free5
  have hnl : bn < w3.heap.size := HN3.out.lt
  have hzl : w.heap.size + 1 < w3.heap.size := HZ3.out.lt
  by_cases h0 : q = 0
  · subst h0
    obtain ⟨p, rfl, hpl⟩ := HHI.out rfl
    have HT : Hid (goTo e p = (goE e p, 0)) := by show _ = _; rw [HGT.out, if_pos rfl, Int.toNat_natCast]
    have HRP := hid (HRH.out p hpl HQ.out)
    have PD := hid (runDo_calls HG.out HDM.out p HRP.out A.heap.size cb1 cn1 cc1 _ _ _ w3 HE3.out HBA.out.size)
    clear hpl HRH HHI HGT
    go_wp2_with fail
    refine PD.out.mono ?_
    rintro x w4 ⟨⟨cb4, cn4, cc4, v14, v24, v34, rfl, he4, hb4⟩, hk4⟩
    obtain ⟨db4, dc4, sb4, sc4, eb4, ec4, rfl, rfl, rfl, hl4⟩ := he4.lies
    have HZ4 := hid (hk4 _ _ _ HZ3.out (by decide) (by decide) (by decide))
    obtain ⟨z0, z1, z2, z3, z4⟩ := HZ4.out.cells5
    obtain ⟨f0, f1, f2, f3, f4⟩ := HZ4.out.free5
    have hzl4 : w.heap.size + 1 < w4.heap.size := HZ4.out.lt
    have HBX5 := hid (put5_box HZ4.out (.slice cb4 cn4 cc4) (.slice db4 (goE e p).deeds.length dc4) (.slice sb4 (goE e p).state.length sc4) (.slice eb4 (goE e p).ends.length ec4) (.int .i64 (goE e p).base))
    have HEX5 := hid (hl4.put HZ4.out (put5_off w4 (w.heap.size + 1) (.slice cb4 cn4 cc4) (.slice db4 (goE e p).deeds.length dc4) (.slice sb4 (goE e p).state.length sc4) (.slice eb4 (goE e p).ends.length ec4) (.int .i64 (goE e p).base)))
    have HBL5 := hid (put5_below (below_deep HBW.out (HBA.out.trans hb4)) (Nat.le_succ _) (.slice cb4 cn4 cc4) (.slice db4 (goE e p).deeds.length dc4) (.slice sb4 (goE e p).state.length sc4) (.slice eb4 (goE e p).ends.length ec4) (.int .i64 (goE e p).base))
    unfold put5 at HBX5 HEX5 HBL5
    clear he4 hb4 hk4 hl4 PD n0 n1 n2 n3 n4 hnl
    go_wp2
    (try simp only [Exit.inBlock, Exit.then])
    refine bodyPost_ret (runGo_results _ (w.heap.size + 1) _ rfl rfl HBX5.out) rfl ?_
    refine ⟨_, by rw [HT.out], ?_, HBL5.out⟩
    rw [HT.out]
    exact ⟨_, _, _, _, _, _, _, _, _, _, _, _, rfl, HEX5.out⟩
  · have HT : Hid (goTo e at_ = (e, q)) := by show _ = _; rw [HGT.out, if_neg h0]
    have t : (q != 0) = true := by simpa using h0
    have t2 : (q == 0) = false := by simpa using h0
    obtain ⟨_, _, _, _, _, _, e1, e2, e3, hl3⟩ := HE3.out.lies
    simp only [Value.slice.injEq, true_and] at e1 e2 e3
    obtain ⟨rfl, rfl⟩ := e1
    obtain ⟨rfl, rfl⟩ := e2
    obtain ⟨rfl, rfl⟩ := e3
    have HBX5 := hid (put5_box HZ3.out (.slice cb1 cn1 cc1) (.slice db1 e.deeds.length dc1) (.slice sb1 e.state.length sc1) (.slice eb1 e.ends.length ec1) (.int .i64 e.base))
    have HEX5 := hid (hl3.put HZ3.out (put5_off w3 (w.heap.size + 1) (.slice cb1 cn1 cc1) (.slice db1 e.deeds.length dc1) (.slice sb1 e.state.length sc1) (.slice eb1 e.ends.length ec1) (.int .i64 e.base)))
    have HBL5 := hid (put5_below (below_deep HBW.out HBA.out) (Nat.le_succ _) (.slice cb1 cn1 cc1) (.slice db1 e.deeds.length dc1) (.slice sb1 e.state.length sc1) (.slice eb1 e.ends.length ec1) (.int .i64 e.base))
    unfold put5 at HBX5 HEX5 HBL5
    clear hl3 h0 HRH HHI HGT
    go_wp2
    (try simp only [Exit.inBlock, Exit.then])
    refine bodyPost_ret (runGo_results _ (w.heap.size + 1) _ rfl rfl HBX5.out) rfl ?_
    refine ⟨_, by rw [HT.out], ?_, HBL5.out⟩
    rw [HT.out]
    exact ⟨_, _, _, _, _, _, _, _, _, _, _, _, rfl, HEX5.out⟩
end Go.Proofs.YtllhdmhfjahgladGreatDoor

namespace Go.Proofs.YtllhdmhfjahgladGreatDoor
open Go.RowKit

theorem pick_in : Entered 37 := fun _ _ => by kernel_rfl
/-- How a pick is told: a place that is there, and what is left of the picks. -/
def PickTold (w w' : World) (bp many : Nat) (q : Option Addr) (n c : Nat) (l : List Int) (x : Ending) : Prop :=
  ∃ (j : Nat) (q' : Option Addr) (n' c' : Nat) (l' : List Int), x = .returned (.int .i64 j) ∧ j < many ∧ Box w' bp #[.slice q' n' c'] 25 ∧ (∀ W, Ints W q n c l → Ints W q' n' c' l') ∧ (w' = w ∨ ∃ u, w' = w.setCell ⟨bp, 0, none⟩ u)
theorem pick_at {x : Int} {many : Nat} (h : 0 < many) (h2 : many ≤ 1954687338211) : ∃ j : Nat, (wrap64 (x.tmod many + many)).tmod many = j ∧ j < many := by
  have hm : (0 : Int) < many := by omega
  have h1 : -(many : Int) < x.tmod many := by
    have := Int.natAbs_tmod x many
    have h2 := Nat.mod_lt x.natAbs (show 0 < (many : Int).natAbs by omega)
    omega
  have h5 : x.tmod many < many := Int.tmod_lt_of_pos x hm
  have hw : wrap64 (x.tmod many + many) = x.tmod many + many := by
    unfold wrap64; omega
  rw [hw]
  have h3 := Int.tmod_nonneg (many : Int) (show (0 : Int) ≤ x.tmod many + many by omega)
  have h4 := Int.tmod_lt_of_pos (x.tmod many + many) hm
  exact ⟨((x.tmod many + many).tmod many).toNat, by omega, by omega⟩

theorem pick_ret {x : Int} {j : Nat} (h : x = j) : Ending.returned (.int .i64 x) = .returned (.int .i64 j) := by rw [h]

set_option maxHeartbeats 2000000 in
set_option maxRecDepth 100000 in
theorem pick_calls (bp many : Nat) (q : Option Addr) (n c : Nat) (l : List Int) (w : World) (hm : 0 < many) (hm2 : many ≤ 1954687338211) (hb : Box w bp #[.slice q n c] 25) (hl : Ints w q n c l) :
    Calls Tryz.prog 37 #[.int .i64 many, .pointer (some ⟨bp, 0, none⟩)] w fun x w' => PickTold w w' bp many q n c l x := by
  have HB := hid hb
  have HLN := hid (Ints.count hl)
  have x0 : w.cell? ⟨bp, 0, none⟩ = some (.slice q n c) := hb.cell 0 _ rfl
  have f0 := hb.free 0
  have hbl := hb.lt
  have HM := hid hm
  have hnm := Nat.le_trans hl.hdr.le hl.hdr.max
  unfold maxLen at hnm
  by_cases h0 : n = 0
  · subst h0
    clear hb hl
    go_enter Tryz.func37, Tryz.ntmps37
    go_wp2
    go_ret
    exact ⟨0, q, 0, c, l, rfl, HM.out, HB.out, fun _ h => h, .inl rfl⟩
  · obtain ⟨b1, o1, rfl, hr⟩ : ∃ b1 o1, q = some ⟨b1, o1, none⟩ ∧ Run w b1 o1 (intsC l) := by
      rcases hl.run with h | h
      · exact absurd h h0
      · exact h
    have hl0 : 0 < l.length := by rw [← HLN.out]; omega
    have k0 := hr 0 _ (intsC_at hl0)
    rw [Nat.add_zero] at k0
    have hb1 : b1 < w.heap.size := by simpa using World.block_lt_of_cell? _ _ k0
    have hs : ∀ w, (Instr.slice 25 (.slice (some ⟨b1, o1, none⟩) n c) (some (.int .i64 1)) none none).run Tryz.prog w = .ok (.slice (cutB (some ⟨b1, o1, none⟩) c 1 1) (n - 1) (c - 1)) w := fun w => slice_run (t := 25) Tryz.underlying25 Tryz.sizeOf3 (some ⟨b1, o1, none⟩) n c 1 (by omega) w
    have HCUT : Hid (∀ W, Ints W (some ⟨b1, o1, none⟩) n c l → Ints W (cutB (some ⟨b1, o1, none⟩) c 1 1) (n - 1) (c - 1) (l.drop 1)) := fun W h => by
      have := lies_cut (k := 1) h (by omega)
      rw [Nat.one_mul] at this
      unfold Ints intsC
      rw [List.map_drop]
      exact this
    obtain ⟨j, hj, hjm⟩ := pick_at (x := l.getD 0 0) hm hm2
    have HJ := hid hj
    have HJM := hid hjm
    generalize l.getD 0 0 = z at *
    generalize hu : cutB (some ⟨b1, o1, none⟩) c 1 1 = u at *
    have t0 : (n == 0) = false := by simpa using h0
    have t1 : ((n : Int) == 0) = false := by simpa using h0
    have hn0 : (0 : Int) < (n : Int) := by omega
    have HS := hid (hb.set 0 (.slice u (n - 1) (c - 1)))
    clear hb hl hr hj hjm hu
    go_enter Tryz.func37, Tryz.ntmps37
    go_wp2
    go_ret
    exact ⟨j, u, n - 1, c - 1, l.drop 1, pick_ret HJ.out, HJM.out, HS.out, HCUT.out, .inr ⟨_, rfl⟩⟩
end Go.Proofs.YtllhdmhfjahgladGreatDoor

namespace Go.Proofs.YtllhdmhfjahgladGreatDoor
open Go.RowKit

set_option maxHeartbeats 1000000 in
theorem picker_calls (q : Option Addr) (n c : Nat) (w : World) : Calls Tryz.prog 24 #[.slice q n c] w fun x w' => x = .returned (.func (.func 37) #[] #[.pointer (some ⟨w.heap.size, 0, none⟩)]) ∧ w' = w.alloc (.cells #[.slice q n c] 25) := by
  have hmf : ∀ (fn : Fn) (first cap : Array Value) (w : World), (Instr.makeFunc fn first cap).run Tryz.prog w = .ok (.func fn first cap) w := fun _ _ _ _ => rfl
  go_enter Tryz.func24, Tryz.ntmps24
  go_wp2
  go_ret
  exact ⟨rfl, rfl⟩
theorem runAll_results (tmps : Array Value) (b : Nat) (w : World) {a0 a1 a2 a3 : Option Addr} {n0 n1 n2 n3 c0 c1 c2 c3 : Nat} {z : Int} (h : tmps.getD 4 undef = .pointer (some ⟨b, 0, none⟩)) (hb : Box w b #[.slice a0 n0 c0, .slice a1 n1 c1, .slice a2 n2 c2, .slice a3 n3 c3, .int .i64 z] 33) :
    (results Tryz.f10 tmps).run Tryz.prog w = .ok (.agg #[.slice a0 n0 c0, .slice a1 n1 c1, .slice a2 n2 c2, .slice a3 n3 c3, .int .i64 z]) w := by
  have h' : tmps[4]?.getD undef = .pointer (some ⟨b, 0, none⟩) := by simpa using h
  obtain ⟨k0, k1, k2, k3, k4⟩ := hb.cells5
  simp [results, Tryz.results10, go_sem, h', k0, k1, k2, k3, k4]
/-- What a pick leaves alone. -/
theorem pick_off {w w' : World} {bp : Nat} (h : w' = w ∨ ∃ u, w' = w.setCell ⟨bp, 0, none⟩ u) : Off bp w w' := by
  rcases h with rfl | ⟨u, rfl⟩
  · exact Off.refl _ _
  · exact Off.set _ _ _ _
theorem pick_below {w0 w w' : World} {bp B : Nat} (h : w' = w ∨ ∃ u, w' = w.setCell ⟨bp, 0, none⟩ u) (hB : B ≤ bp) (hb : Below B w0 w) : Below B w0 w' := by
  rcases h with rfl | ⟨u, rfl⟩
  · exact hb
  · exact hb.setCell (p := ⟨bp, 0, none⟩) hB u
theorem EngOwn.offI {w w' : World} {B b : Nat} {cs : Array Value} {cb : Option Addr} {cn cc : Nat} {v1 v2 v3 : Value} {e : Eng} (h : EngOwn w B cb cn cc v1 v2 v3 e) (hb : Box w b cs 25) (ho : Off b w w') : EngOwn w' B cb cn cc v1 v2 v3 e := by
  obtain ⟨h1, ⟨T, h2, h2'⟩, h3, h4⟩ := h
  exact ⟨h1.off hb (by decide) (by decide) ho, ⟨T, owns_off h2 ho (own_ne h2 hb (by decide)), h2'.off hb (by decide) (by decide) ho⟩, owns_off h3 ho (own_ne h3 hb (by decide)), owns_off h4 ho (own_ne h4 hb (by decide))⟩
/-- Numbers don't lie where the picks' slice lies. -/
theorem ints_else {w : World} {bp b o : Nat} {q : Option Addr} {n c : Nat} {x : Int} (hb : Box w bp #[.slice q n c] 25) (h : w.cell? ⟨b, o, none⟩ = some (.int .i64 x)) : b ≠ bp := by
  rintro rfl
  unfold Box at hb
  rw [World.cell?] at h
  simp only [hb, Option.isSome_none, Bool.false_eq_true, if_false] at h
  cases o with
  | zero => simp at h
  | succ o => simp at h
theorem ready_of_at {e : Eng} {j : Nat} (h : j < (readyE e).length) : (readyE e).getD j 0 ∈ readyE e ∧ (ints (readyE e)).getD j 0 = ((readyE e).getD j 0 : Int) := by
  refine ⟨by simp [List.getD, h], by simp [ints, List.getD, h]⟩

set_option maxHeartbeats 16000000 in
set_option maxRecDepth 100000 in
theorem runAll_calls {r0 : List Row} {D : List Deed3} {m : Nat} {dq : Nat → Bool} {bq : ByteArray → Int} {e : Eng} (G : Good r0 D m dq bq e) (hD : D.length ≤ 1954687338211) (Pl : List Int) (v : Value) (pb : Option Addr) (pn pc : Nat) (w : World) (hv : EngIn w v e) (hp : Ints w pb pn pc Pl) :
    Calls Tryz.prog 10 #[v, .slice pb pn pc] w fun x w' => ∃ (y : Eng) (dn : Nat → Bool), Good r0 D m dn bq y ∧ (∀ i, m ≤ i → i < D.length → dn i = true) ∧ OwnTold w w' w.heap.size y x := by
  have hcf := pick_in
  unfold Entered at hcf
  obtain ⟨cb, cn, cc, db, dn, dc, sb, sn, sc, eb, en, ec, rfl, hl⟩ := hv
  have HG := hid G
  have HDM := hid hD
  have hle := G.le
  have HBX := hid (Box.new w #[.slice cb cn cc, .slice db dn dc, .slice sb sn sc, .slice eb en ec, .int .i64 e.base] 33)
  have HB0 := hid (grew w (.cells #[.slice cb cn cc, .slice db dn dc, .slice sb sn sc, .slice eb en ec, .int .i64 e.base] 33))
  have HBZ := hid (Box.new (w.alloc (.cells #[.slice cb cn cc, .slice db dn dc, .slice sb sn sc, .slice eb en ec, .int .i64 e.base] 33)) zeroA 33)
  have HB1 := hid (grew (w.alloc (.cells #[.slice cb cn cc, .slice db dn dc, .slice sb sn sc, .slice eb en ec, .int .i64 e.base] 33)) (.cells zeroA 33))
  rw [World.size_alloc] at HBZ
  have HX := hid (HBX.out.below HB1.out)
  have HBW := hid (below_deep HB0.out HB1.out)
  have HL := hid (hl.below HBW.out)
  have HPA := hid (hp.below (by decide) HBW.out)
  clear G hD hl hp hle HBX HB0 HB1
  go_enter Tryz.func10, Tryz.ntmps10
  go_upto_region 1 with fail
  generalize (w.alloc (.cells #[.slice cb cn cc, .slice db dn dc, .slice sb sn sc, .slice eb en ec, .int .i64 e.base] 33)).alloc (.cells zeroA 33) = A at *
  obtain ⟨x0, x1, x2, x3, x4⟩ := HX.out.cells5
  have hxl : w.heap.size < A.heap.size := HX.out.lt
  have PO := hid (planOwn_calls HG.out HDM.out _ A ⟨_, _, _, _, _, _, _, _, _, _, _, _, rfl, HL.out⟩)
  go_wp2_with fail
  refine PO.out.mono ?_
  rintro x w1 ⟨cb1, cn1, cc1, v1, v2, v3, rfl, he1, hb1⟩
  obtain ⟨db1, dc1, sb1, sc1, eb1, ec1, rfl, rfl, rfl, hl1⟩ := he1.lies
  have HE1 := hid he1
  have HB1 := hid hb1
  clear he1 hb1 hl1 PO x0 x1 x2 x3 x4 hxl
  have PP := hid (picker_calls pb pn pc w1)
  go_wp2_with fail
  refine PP.out.mono ?_
  rintro x w2 ⟨rfl, rfl⟩
  have HGP := hid (grew w1 (.cells #[.slice pb pn pc] 25))
  have HBP := hid (Box.new w1 #[.slice pb pn pc] 25)
  have HE2 := hid (HE1.out.below HGP.out)
  have HB2 := hid (below_deep HB1.out HGP.out)
  have HPL : Hid (A.heap.size ≤ w1.heap.size) := HB1.out.size
  generalize w1.alloc (.cells #[.slice pb pn pc] 25) = W2 at *
  have HG3 := hid (grew W2 (.cells #[.slice cb1 cn1 cc1, .slice db1 e.deeds.length dc1, .slice sb1 e.state.length sc1, .slice eb1 e.ends.length ec1, .int .i64 e.base] 33))
  have HN3 := hid (Box.new W2 #[.slice cb1 cn1 cc1, .slice db1 e.deeds.length dc1, .slice sb1 e.state.length sc1, .slice eb1 e.ends.length ec1, .int .i64 e.base] 33)
  have HE3 := hid (HE2.out.below HG3.out)
  have HP3 := hid (HBP.out.below HG3.out)
  have HB3 := hid (below_deep HB2.out HG3.out)
  have HNB : Hid (A.heap.size ≤ W2.heap.size) := HB2.out.size
  clear HE1 HB1 HGP HBP HE2 HB2 HG3 PP
  go_upto_region 2 with fail
  generalize w1.heap.size = bp at *
  generalize W2.alloc (.cells #[.slice cb1 cn1 cc1, .slice db1 e.deeds.length dc1, .slice sb1 e.state.length sc1, .slice eb1 e.ends.length ec1, .int .i64 e.base] 33) = W3 at *
  generalize W2.heap.size = nb at *
  obtain ⟨x0, x1, x2, x3, x4⟩ := HN3.out.cells5
  have hxl : nb < W3.heap.size := HN3.out.lt
  have PR := hid (runReady_calls HG.out HDM.out _ W3 ⟨_, _, _, _, _, _, _, _, _, _, _, _, rfl, (by
    obtain ⟨_, _, _, _, _, _, e1, e2, e3, h⟩ := HE3.out.lies
    simp only [Value.slice.injEq, true_and] at e1 e2 e3
    obtain ⟨rfl, rfl⟩ := e1
    obtain ⟨rfl, rfl⟩ := e2
    obtain ⟨rfl, rfl⟩ := e3
    exact h)⟩)
  go_wp2_with fail
  refine PR.out.mono ?_
  rintro x w4 ⟨rb, rn, rc, rfl, h4, hb4⟩
  have HR4 := hid h4
  have HN4 := hid (HN3.out.below hb4)
  have HE4 := hid (HE3.out.below hb4)
  have HP4 := hid (HP3.out.below hb4)
  have HB4 := hid (below_deep HB3.out hb4)
  clear h4 hb4 PR x0 x1 x2 x3 x4 hxl HN3 HE3 HP3 HB3
  go_wp2
  go_loopg [7] (waitN dq m (D.length - m)) (fun k rv wr => ∃ (ej : Eng) (dj : Nat → Bool) (cb3 : Option Addr) (cn3 cc3 : Nat) (db3 : Option Addr) (dn3 dc3 : Nat) (sb3 : Option Addr) (sn3 sc3 : Nat) (eb3 : Option Addr) (en3 ec3 : Nat) (rb : Option Addr) (rn rc : Nat) (q : Option Addr) (qn qc : Nat) (ql : List Int), rv = .slice rb rn rc ∧ Hid (Good r0 D m dj bq ej) ∧ Hid (waitN dj m (D.length - m) ≤ k) ∧ Hid (Box wr nb #[.slice cb3 cn3 cc3, .slice db3 dn3 dc3, .slice sb3 sn3 sc3, .slice eb3 en3 ec3, .int .i64 ej.base] 33) ∧ Hid (EngOwn wr A.heap.size cb3 cn3 cc3 (.slice db3 dn3 dc3) (.slice sb3 sn3 sc3) (.slice eb3 en3 ec3) ej) ∧ Hid (Ints wr rb rn rc (ints (readyE ej))) ∧ Hid (Box wr bp #[.slice q qn qc] 25) ∧ Hid (Ints A q qn qc ql) ∧ Hid (Below A.heap.size A wr))
  case atStart => exact ⟨e, dq, cb1, cn1, cc1, _, _, _, _, _, _, _, _, _, rb, rn, rc, pb, pn, pc, Pl, rfl, HG, Nat.le_refl _, HN4, HE4, HR4, HP4, HPA, HB4⟩
  case round =>
    obtain ⟨ej, dj, cb3, cn3, cc3, db3, dn3, dc3, sb3, sn3, sc3, eb3, en3, ec3, rb, rn, rc, q, qn, qc, ql, rfl, HGJ, HWK, HXR, HER, HRR, HPR, HQR, HBR⟩ := hrel
    have HRN : Hid (rn = (readyE ej).length) := by
      have := Ints.count HRR.out
      rw [ints, List.length_map] at this
      exact this
    have hrm := Nat.le_trans HRR.out.hdr.le HRR.out.hdr.max
    unfold maxLen at hrm
    by_cases h0 : rn = 0
    · subst h0
      have HNO : Hid (readyE ej = []) := List.eq_nil_of_length_eq_zero HRN.out.symm
      have HZR := hid (HBZ.out.below HBR.out)
      obtain ⟨x0, x1, x2, x3, x4⟩ := HXR.out.cells5
      obtain ⟨z0, z1, z2, z3, z4⟩ := HZR.out.cells5
      obtain ⟨f0, f1, f2, f3, f4⟩ := HZR.out.free5
      have hxl : nb < wr.heap.size := HXR.out.lt
      have hzl : w.heap.size + 1 < wr.heap.size := HZR.out.lt
      have HBF := hid (put5_box HZR.out (.slice cb3 cn3 cc3) (.slice db3 dn3 dc3) (.slice sb3 sn3 sc3) (.slice eb3 en3 ec3) (.int .i64 ej.base))
      have HEF := hid ((HER.out.put HZR.out (put5_off wr (w.heap.size + 1) (.slice cb3 cn3 cc3) (.slice db3 dn3 dc3) (.slice sb3 sn3 sc3) (.slice eb3 en3 ec3) (.int .i64 ej.base))).lower HBW.out.size)
      have HBL := hid (put5_below (below_deep HBW.out HBR.out) (Nat.le_succ _) (.slice cb3 cn3 cc3) (.slice db3 dn3 dc3) (.slice sb3 sn3 sc3) (.slice eb3 en3 ec3) (.int .i64 ej.base))
      unfold put5 at HBF HEF HBL
      go_wp2
      (try simp only [Exit.inBlock, Exit.then])
      refine bodyPost_ret (runAll_results _ (w.heap.size + 1) _ rfl HBF.out) rfl ?_
      exact ⟨ej, dj, HGJ.out, none_ready HGJ.out HNO.out, _, _, _, _, _, _, rfl, HEF.out, HBL.out⟩
    · have hr0 : 0 < rn := by omega
      have hri : (0 : Int) < (rn : Int) := by omega
      obtain ⟨b1, o1, rfl, hr⟩ : ∃ b1 o1, rb = some ⟨b1, o1, none⟩ ∧ Run wr b1 o1 (intsC (ints (readyE ej))) := by
        rcases HRR.out.run with h | h
        · omega
        · exact h
      have HAT : Hid (∀ j : Nat, j < rn → wr.cell? ⟨b1, o1 + j, none⟩ = some (.int .i64 ((readyE ej).getD j 0 : Nat)) ∧ (readyE ej).getD j 0 ∈ readyE ej) := fun j hj => by
        have hj' : j < (readyE ej).length := by rw [← HRN.out]; exact hj
        obtain ⟨h1, h2⟩ := ready_of_at hj'
        have := hr j _ (intsC_at (by rw [ints, List.length_map]; exact hj'))
        rw [h2] at this
        exact ⟨this, h1⟩
      have HNE : Hid (b1 ≠ bp) := ints_else HPR.out (HAT.out 0 hr0).1
      have HNX : Hid (nb ≠ bp) := box_ne HXR.out HPR.out (by decide)
      have HRM : Hid (rn ≤ 1954687338211) := by
        have h1 : (readyE ej).length ≤ ej.deeds.length := by
          have := List.length_filter_le (fun p => decide (ej.state.getD p 0 = 0) && (needsE ej p).isEmpty) (List.range ej.deeds.length)
          rw [List.length_range] at this
          exact this
        have h2 := HGJ.out.len
        have h3 := HRN.out
        have h4 := HDM.out
        show _ ≤ _
        omega
      have HDr := hid (step_drew (Below.refl wr.heap.size wr))
      have HBD := hid (below_deep HBR.out HDr.out)
      have HXD := hid (HXR.out.below HDr.out)
      have HED := hid (HER.out.below HDr.out)
      have HPD := hid (HPR.out.below HDr.out)
      have HQD := hid ((HQR.out.below (by decide) HBR.out).below (by decide) HDr.out)
      have PK := hid (pick_calls bp rn q qn qc ql wr.drew hr0 HRM.out HPD.out HQD.out)
      have PDO := hid (fun p hp W he hB => runDo_calls HGJ.out HDM.out p hp A.heap.size cb3 cn3 cc3 (.slice db3 dn3 dc3) (.slice sb3 sn3 sc3) (.slice eb3 en3 ec3) W he hB)
      obtain ⟨x0, x1, x2, x3, x4⟩ := HXR.out.cells5
      have hxl : nb < wr.heap.size := HXR.out.lt
      clear hr
      go_wp2
      go_region_with (first
        | (go_at_call 37; refine PK.out.mono ?_; rintro x w5 ⟨j, q5, n5, c5, l5, rfl, hj, hbp5, hint5, hw5⟩; have hji : (j : Int) < (rn : Int) := (by omega); have HOF := hid (pick_off hw5); have HX5 := hid (box_off HXD.out HOF.out HNX.out); have HB5 := hid (pick_below hw5 HPL.out HBD.out); have HE5 := hid (HED.out.offI HPD.out HOF.out); have HRP := hid (HAT.out j hj).2; have k0 := HOF.out.cell HNE.out (kept_cell HDr.out (HAT.out j hj).1); have hb1 : b1 < w5.heap.size := (by simpa using World.block_lt_of_cell? _ _ k0); obtain ⟨c0', c1', c2', c3', c4'⟩ := HX5.out.cells5; have hxl' : nb < w5.heap.size := HX5.out.lt; generalize (readyE ej).getD j 0 = p at *)
        | (go_at_call 25; refine (PDO.out p HRP.out w5 HE5.out HB5.out.size).mono ?_; rintro x w7 ⟨⟨cb7, cn7, cc7, u1, u2, u3, hx7, he7, hb7⟩, hk7⟩; obtain ⟨db7, dc7, sb7, sc7, eb7, ec7, hu1, hu2, hu3, hl7⟩ := he7.lies; subst hu1; subst hu2; subst hu3; subst hx7; have HX7 := hid (hk7 nb _ _ HX5.out (by decide) (by decide) (by decide)); obtain ⟨g0, g1, g2, g3, g4⟩ := HX7.out.cells5; obtain ⟨f0, f1, f2, f3, f4⟩ := HX7.out.free5; have hxl7 : nb < w7.heap.size := HX7.out.lt))
      all_goals
        have HP7 := hid (hk7 bp _ _ hbp5 (by decide) (by decide) (by decide))
        have HB7 := hid (put5_below (HB5.out.trans hb7) HNB.out (.slice cb7 cn7 cc7) (.slice db7 (goE ej p).deeds.length dc7) (.slice sb7 (goE ej p).state.length sc7) (.slice eb7 (goE ej p).ends.length ec7) (.int .i64 (goE ej p).base))
        have HXF := hid (put5_box HX7.out (.slice cb7 cn7 cc7) (.slice db7 (goE ej p).deeds.length dc7) (.slice sb7 (goE ej p).state.length sc7) (.slice eb7 (goE ej p).ends.length ec7) (.int .i64 (goE ej p).base))
        have HEF := hid (he7.put HX7.out (put5_off w7 nb (.slice cb7 cn7 cc7) (.slice db7 (goE ej p).deeds.length dc7) (.slice sb7 (goE ej p).state.length sc7) (.slice eb7 (goE ej p).ends.length ec7) (.int .i64 (goE ej p).base)))
        have HLF := hid (hl7.put HX7.out (put5_off w7 nb (.slice cb7 cn7 cc7) (.slice db7 (goE ej p).deeds.length dc7) (.slice sb7 (goE ej p).state.length sc7) (.slice eb7 (goE ej p).ends.length ec7) (.int .i64 (goE ej p).base)))
        have HPF := hid (put5_far HP7.out (Ne.symm HNX.out) (.slice cb7 cn7 cc7) (.slice db7 (goE ej p).deeds.length dc7) (.slice sb7 (goE ej p).state.length sc7) (.slice eb7 (goE ej p).ends.length ec7) (.int .i64 (goE ej p).base))
        unfold put5 at HB7 HXF HEF HLF HPF
        have HRA := hid (ready_at HGJ.out HRP.out)
        have HGN := hid (HGJ.out.go HRA.out.1 (ready_needs HRP.out))
        have HWG := hid (wait_go (dn := dj) (m := m) (n := D.length - m) (p := p) (by have := HRA.out.1; omega) HRA.out.2)
        have HQ5 := hid (hint5 A HQR.out)
        clear he7 hk7 hb7 hl7 PK PDO HAT HX5 HX7 hbp5 hint5 hw5 HOF HE5 k0 hb1 HP7 c0' c1' c2' c3' c4' hxl' x0 x1 x2 x3 x4 hxl hji HED HXD HPD HQD HBD HDr HXR HER HRR HPR HQR HBR
        generalize ((((w7.setCell ⟨nb, 0, none⟩ (.slice cb7 cn7 cc7)).setCell ⟨nb, 1, none⟩ (.slice db7 (goE ej p).deeds.length dc7)).setCell ⟨nb, 2, none⟩ (.slice sb7 (goE ej p).state.length sc7)).setCell ⟨nb, 3, none⟩ (.slice eb7 (goE ej p).ends.length ec7)).setCell ⟨nb, 4, none⟩ (.int .i64 (goE ej p).base) = W7 at *
        clear g0 g1 g2 g3 g4 f0 f1 f2 f3 f4 hxl7 HB5
        obtain ⟨x0, x1, x2, x3, x4⟩ := HXF.out.cells5
        have hxl : nb < W7.heap.size := HXF.out.lt
        have PR7 := hid (runReady_calls HGN.out HDM.out _ W7 ⟨_, _, _, _, _, _, _, _, _, _, _, _, rfl, HLF.out⟩)
        go_wp2_with fail
        refine PR7.out.mono ?_
        rintro x w8 ⟨rb8, rn8, rc8, rfl, h8, hb8⟩
        have HR8 := hid h8
        have HX8 := hid (HXF.out.below hb8)
        have HE8 := hid (HEF.out.below hb8)
        have HP8 := hid (HPF.out.below hb8)
        have HB8 := hid (below_deep HB7.out hb8)
        clear h8 hb8 PR7 x0 x1 x2 x3 x4 hxl
        go_wp2
        go_roundg (waitN (doneNow dj (m + p)) m (D.length - m))
        case rel => exact ⟨goE ej p, _, _, _, _, _, _, _, _, _, _, _, _, _, rb8, rn8, rc8, q5, n5, c5, l5, rfl, HGN, Nat.le_refl _, HX8, HE8, HR8, HP8, HQ5, HB8⟩
        case measure => have h1 := HWG.out; have h2 := HWK.out; omega
end Go.Proofs.YtllhdmhfjahgladGreatDoor
