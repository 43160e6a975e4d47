/-
  Go of the program's run, walked.
  Wrong of the program tells the first thing that is wrong with any rows.
  The closed fact that the statements of chapter 1 ask first is so.
  SameRows of the document's answer tells whether two lists of rows are one.
  The walk of the statement RowsApart: the call returns true and changes nothing that was there.
  The walk of the statement RowsTells: the call returns true and changes nothing that was there.
-/
import Derived.Test.YtllhdmhfjahglacRunDone
import Derived.Test.YtllhdmhfjahglacLies
import Derived.BigQuiet
import Derived.Deep.QuietTactic
import Derived.Test.YtllhdmhfjahglacPut
import Derived.Test.YtllhdmhfjahglacChecked
import Derived.WalkKit
import Derived.WalkSpells
import Derived.WalkLawsBesides
import Derived.Below
import Derived.LoopTactic
import Derived.Outline
import Derived.Test.YtllhdmhfjahglacRef
import Derived.Test.YtllhdmhfjahglacRefPut
namespace Go.Proofs.Ytllhdmhfjahglac
open Go.RowKit

theorem goTo_hind (e : Eng) (at_ : Int) : goTo e at_ = if hindE e at_ = 0 then (goE e at_.toNat, 0) else (e, hindE e at_) := by
  unfold goTo hindE
  by_cases h1 : at_ < 0 ∨ (e.deeds.length : Int) ≤ at_
  · rw [if_pos h1, if_pos h1, if_neg (by decide)]
  · rw [if_neg h1, if_neg h1]
    by_cases h2 : e.state.getD at_.toNat 0 = 1
    · rw [if_pos h2, if_pos h2, if_neg (by decide)]
    · rw [if_neg h2, if_neg h2]
      by_cases h3 : needsE e at_.toNat ≠ []
      · rw [if_pos h3, if_pos h3, if_neg (by decide)]
      · rw [if_neg h3, if_neg h3, if_pos rfl]
theorem hind_in {e : Eng} {at_ : Int} (h : hindE e at_ = 0) : ∃ p : Nat, at_ = p ∧ p < e.deeds.length := by
  unfold hindE at h
  split at h
  · cases h
  · rename_i h1
    exact ⟨at_.toNat, by omega, by omega⟩
theorem runGo_results (tmps : Array Value) (b : Nat) (w : World) {a0 a1 a2 a3 : Option Addr} {n0 n1 n2 n3 c0 c1 c2 c3 : Nat} {z q : Int} (h : tmps.getD 4 undef = .pointer (some ⟨b, 0, none⟩)) (h5 : tmps.getD 5 undef = .int .i64 q) (hb : Box w b #[.slice a0 n0 c0, .slice a1 n1 c1, .slice a2 n2 c2, .slice a3 n3 c3, .int .i64 z] 42) :
    (results Try.f26 tmps).run Try.prog w = .ok (.tuple #[.agg #[.slice a0 n0 c0, .slice a1 n1 c1, .slice a2 n2 c2, .slice a3 n3 c3, .int .i64 z], .int .i64 q]) w := by
  have h' : tmps[4]?.getD undef = .pointer (some ⟨b, 0, none⟩) := by simpa using h
  have h5' : tmps[5]?.getD undef = .int .i64 q := by simpa using h5
  obtain ⟨k0, k1, k2, k3, k4⟩ := hb.cells5
  simp [results, Try.results26, go_sem, h', h5', k0, k1, k2, k3, k4]

set_option maxHeartbeats 4000000 in
set_option maxRecDepth 100000 in
theorem runGo_calls {r0 : List Row} {D : List Deed3} {m : Nat} {dq : Nat → Bool} {bq : ByteArray → Int} {e : Eng} (G : Good r0 D m dq bq e) (hD : D.length ≤ 1954687338211) (at_ : Int) (v : Value) (w : World) (hv : EngIn w v e) :
    Calls Try.prog 26 #[v, .int .i64 at_] w fun x w' => GoTold w w' e at_ x := by
  obtain ⟨cb, cn, cc, db, dn, dc, sb, sn, sc, eb, en, ec, rfl, hl⟩ := hv
  have HG := hid G
  have HDM := hid hD
  have HBX := hid (Box.new w #[.slice cb cn cc, .slice db dn dc, .slice sb sn sc, .slice eb en ec, .int .i64 e.base] 42)
  have HB0 := hid (grew w (.cells #[.slice cb cn cc, .slice db dn dc, .slice sb sn sc, .slice eb en ec, .int .i64 e.base] 42))
  have HBZ := hid (Box.new (w.alloc (.cells #[.slice cb cn cc, .slice db dn dc, .slice sb sn sc, .slice eb en ec, .int .i64 e.base] 42)) zeroA 42)
  have HB1 := hid (grew (w.alloc (.cells #[.slice cb cn cc, .slice db dn dc, .slice sb sn sc, .slice eb en ec, .int .i64 e.base] 42)) (.cells zeroA 42))
  rw [World.size_alloc] at HBZ
  have HX := hid (HBX.out.below HB1.out)
  have HBW := hid (below_deep HB0.out HB1.out)
  have HL := hid (hl.below HBW.out)
  clear G hD hl HBX HB0 HB1
  go_enter Try.func26, Try.ntmps26
  go_upto_region 1 with fail
  generalize (w.alloc (.cells #[.slice cb cn cc, .slice db dn dc, .slice sb sn sc, .slice eb en ec, .int .i64 e.base] 42)).alloc (.cells zeroA 42) = A at *
  obtain ⟨x0, x1, x2, x3, x4⟩ := HX.out.cells5
  have hxl : w.heap.size < A.heap.size := HX.out.lt
  have PO := hid (planOwn_calls HG.out HDM.out _ A ⟨_, _, _, _, _, _, _, _, _, _, _, _, rfl, HL.out⟩)
  go_wp2_with fail
  refine PO.out.mono ?_
  rintro x w1 ⟨cb1, cn1, cc1, v1, v2, v3, rfl, he1, hb1⟩
  obtain ⟨db1, dc1, sb1, sc1, eb1, ec1, rfl, rfl, rfl, hl1⟩ := he1.lies
  have HG1 := hid (grew w1 (.cells #[.slice cb1 cn1 cc1, .slice db1 e.deeds.length dc1, .slice sb1 e.state.length sc1, .slice eb1 e.ends.length ec1, .int .i64 e.base] 42))
  have HN1 := hid (Box.new w1 #[.slice cb1 cn1 cc1, .slice db1 e.deeds.length dc1, .slice sb1 e.state.length sc1, .slice eb1 e.ends.length ec1, .int .i64 e.base] 42)
  have HB2 := hid (below_deep hb1 HG1.out)
  have HE2 := hid (he1.below HG1.out)
  have HZ2 := hid (HBZ.out.below HB2.out)
  have HX2 := hid (HX.out.below HB2.out)
  have HL2 := hid (HL.out.below HB2.out)
  have hxl2 : w.heap.size < w1.heap.size := (HX.out.below hb1).lt
  have HNL : Hid (w.heap.size + 1 < w1.heap.size) := (HBZ.out.below hb1).lt
  clear he1 hb1 hl1 PO x0 x1 x2 x3 x4
  go_upto_region 2 with fail
  generalize w1.alloc (.cells #[.slice cb1 cn1 cc1, .slice db1 e.deeds.length dc1, .slice sb1 e.state.length sc1, .slice eb1 e.ends.length ec1, .int .i64 e.base] 42) = A2 at *
  generalize w1.heap.size = bn at *
  obtain ⟨x0, x1, x2, x3, x4⟩ := HX2.out.cells5
  have hx2 : w.heap.size < A2.heap.size := HX2.out.lt
  have PH := hid (hindered_calls HG.out HDM.out at_ _ A2 ⟨_, _, _, _, _, _, _, _, _, _, _, _, rfl, HL2.out⟩)
  have HGT := hid (goTo_hind e at_)
  have HHI := hid (hind_in (e := e) (at_ := at_))
  have HRH := hid (fun (p : Nat) hp h => ready_of_hind HG.out (p := p) hp h)
  generalize hq : hindE e at_ = q at *
  have HQ := hid hq
  clear hq
  go_wp2_with fail
  refine PH.out.mono ?_
  rintro x w3 ⟨rfl, hb3⟩
  have HB3 := hid hb3
  have HN3 := hid (HN1.out.below hb3)
  have HZ3 := hid (HZ2.out.below hb3)
  have HE3 := hid (HE2.out.below hb3)
  have HBA := hid (below_deep HB2.out hb3)
  clear hb3 PH x0 x1 x2 x3 x4 hx2 hxl2 hxl
  obtain ⟨n0, n1, n2, n3, n4⟩ := HN3.out.cells5
  obtain ⟨z0, z1, z2, z3, z4⟩ := HZ3.out.cells5
  obtain ⟨f0, f1, f2, f3, f4⟩ := HZ3.out.free5
  have hnl : bn < w3.heap.size := HN3.out.lt
  have hzl : w.heap.size + 1 < w3.heap.size := HZ3.out.lt
  by_cases h0 : q = 0
  · subst h0
    obtain ⟨p, rfl, hpl⟩ := HHI.out rfl
    have HT : Hid (goTo e p = (goE e p, 0)) := by show _ = _; rw [HGT.out, if_pos rfl, Int.toNat_natCast]
    have HRP := hid (HRH.out p hpl HQ.out)
    have PD := hid (runDo_calls HG.out HDM.out p HRP.out A.heap.size cb1 cn1 cc1 _ _ _ w3 HE3.out HBA.out.size)
    clear hpl HRH HHI HGT
    go_wp2_with fail
    refine PD.out.mono ?_
    rintro x w4 ⟨⟨cb4, cn4, cc4, v14, v24, v34, rfl, he4, hb4⟩, hk4⟩
    obtain ⟨db4, dc4, sb4, sc4, eb4, ec4, rfl, rfl, rfl, hl4⟩ := he4.lies
    have HZ4 := hid (hk4 _ _ _ HZ3.out (by decide) (by decide) (by decide))
    obtain ⟨z0, z1, z2, z3, z4⟩ := HZ4.out.cells5
    obtain ⟨f0, f1, f2, f3, f4⟩ := HZ4.out.free5
    have hzl4 : w.heap.size + 1 < w4.heap.size := HZ4.out.lt
    have HBX5 := hid (put5_box HZ4.out (.slice cb4 cn4 cc4) (.slice db4 (goE e p).deeds.length dc4) (.slice sb4 (goE e p).state.length sc4) (.slice eb4 (goE e p).ends.length ec4) (.int .i64 (goE e p).base))
    have HEX5 := hid (hl4.put HZ4.out (put5_off w4 (w.heap.size + 1) (.slice cb4 cn4 cc4) (.slice db4 (goE e p).deeds.length dc4) (.slice sb4 (goE e p).state.length sc4) (.slice eb4 (goE e p).ends.length ec4) (.int .i64 (goE e p).base)))
    have HBL5 := hid (put5_below (below_deep HBW.out (HBA.out.trans hb4)) (Nat.le_succ _) (.slice cb4 cn4 cc4) (.slice db4 (goE e p).deeds.length dc4) (.slice sb4 (goE e p).state.length sc4) (.slice eb4 (goE e p).ends.length ec4) (.int .i64 (goE e p).base))
    unfold put5 at HBX5 HEX5 HBL5
    clear he4 hb4 hk4 hl4 PD n0 n1 n2 n3 n4 hnl
    go_wp2
    (try simp only [Exit.inBlock, Exit.then])
    refine bodyPost_ret (runGo_results _ (w.heap.size + 1) _ rfl rfl HBX5.out) rfl ?_
    refine ⟨_, by rw [HT.out], ?_, HBL5.out⟩
    rw [HT.out]
    exact ⟨_, _, _, _, _, _, _, _, _, _, _, _, rfl, HEX5.out⟩
  · have HT : Hid (goTo e at_ = (e, q)) := by show _ = _; rw [HGT.out, if_neg h0]
    have t : (q != 0) = true := by simpa using h0
    have t2 : (q == 0) = false := by simpa using h0
    obtain ⟨_, _, _, _, _, _, e1, e2, e3, hl3⟩ := HE3.out.lies
    simp only [Value.slice.injEq, true_and] at e1 e2 e3
    obtain ⟨rfl, rfl⟩ := e1
    obtain ⟨rfl, rfl⟩ := e2
    obtain ⟨rfl, rfl⟩ := e3
    have HBX5 := hid (put5_box HZ3.out (.slice cb1 cn1 cc1) (.slice db1 e.deeds.length dc1) (.slice sb1 e.state.length sc1) (.slice eb1 e.ends.length ec1) (.int .i64 e.base))
    have HEX5 := hid (hl3.put HZ3.out (put5_off w3 (w.heap.size + 1) (.slice cb1 cn1 cc1) (.slice db1 e.deeds.length dc1) (.slice sb1 e.state.length sc1) (.slice eb1 e.ends.length ec1) (.int .i64 e.base)))
    have HBL5 := hid (put5_below (below_deep HBW.out HBA.out) (Nat.le_succ _) (.slice cb1 cn1 cc1) (.slice db1 e.deeds.length dc1) (.slice sb1 e.state.length sc1) (.slice eb1 e.ends.length ec1) (.int .i64 e.base))
    unfold put5 at HBX5 HEX5 HBL5
    clear hl3 h0 HRH HHI HGT
    go_wp2
    (try simp only [Exit.inBlock, Exit.then])
    refine bodyPost_ret (runGo_results _ (w.heap.size + 1) _ rfl rfl HBX5.out) rfl ?_
    refine ⟨_, by rw [HT.out], ?_, HBL5.out⟩
    rw [HT.out]
    exact ⟨_, _, _, _, _, _, _, _, _, _, _, _, rfl, HEX5.out⟩
end Go.Proofs.Ytllhdmhfjahglac

namespace Go.Proofs.Ytllhdmhfjahglac
open Go.RowKit

end Go.Proofs.Ytllhdmhfjahglac

namespace Go.Proofs.Ytllhdmhfjahglac
open Go.RowKit

/-- The keys a, b and abc. -/
def kA : ByteArray := ⟨#[97]⟩
def kB : ByteArray := ⟨#[98]⟩
def kC : ByteArray := ⟨#[97, 98, 99]⟩
/-- The rows that are made. -/
def rAB : List Row := [(kA, 1), (kB, 2)]

theorem less_ab : less kA kB = true := by
  rw [less_def, ByteArray.toList_eq, ByteArray.toList_eq]; decide
theorem less_ba : less kB kA = false := less_asymm less_ab
theorem put_b : ins kB 2 [] = [(kB, 2)] := rfl
theorem put_ab : ins kA 1 [(kB, 2)] = rAB := by simp [ins, less_ab, less_ba, rAB]
theorem srt_ab : Srt rAB := by simp [Srt, rAB, less_ab]
theorem drop_ab : del kA rAB = [(kB, 2)] := by simp [del, rAB, less_irrefl]
theorem num_ab : num kB rAB = 2 := by simp [num, rAB, less_ab, less_irrefl]
theorem isAt_ab : isAt kB rAB = true := by simp [isAt, rAB, less_ab, less_irrefl]
theorem key_a : keyB kA = true := by decide
theorem key_b : keyB kB = true := by decide
theorem key_c : keyB kC = true := by decide
theorem wrong_ab : wrong rAB = 0 := by
  refine right_wrong ⟨srt_ab, fun x hx => ?_, fun x hx => ?_, fun x hx => ?_⟩ <;> (simp [rAB] at hx; rcases hx with rfl | rfl <;> first | exact key_a | exact key_b | decide)
theorem small_ab : Small rAB := fun x hx => by
  simp [rAB] at hx; rcases hx with rfl | rfl <;> decide

end Go.Proofs.Ytllhdmhfjahglac

namespace Go.Proofs.Ytllhdmhfjahglac
open Go.RowKit

end Go.Proofs.Ytllhdmhfjahglac

namespace Go.Proofs.Ytllhdmhfjahglac
open Go.RowKit

theorem ins_bound {k : ByteArray} {m : Int} {l : List Row} {n n' : Nat} (h : n = l.length) (h' : n' = (ins k m l).length) : n' ≤ n + 1 := by
  have := ins_length k m l; omega
theorem del_bound {k : ByteArray} {l : List Row} {n n' : Nat} (h : n = l.length) (h' : n' = (del k l).length) : n' ≤ n := by
  have := del_length k l; omega

end Go.Proofs.Ytllhdmhfjahglac

namespace Go.Proofs.Ytllhdmhfjahglac
open Go.RowKit

theorem refWrong_holds (l : List Row) (ba : Option Addr) (na ca : Nat) (w : World) (hsm : Small l) (ha : Holds w ba na ca l) :
    Calls Try.prog 12 #[.slice ba na ca] w fun e w' => e = .returned (.int .i64 (wrong l)) ∧ Below w.heap.size w w' := by
  have h1 := ha.len
  subst h1
  exact refWrong_calls l ba ca w (Nat.le_trans ha.hdr.le ha.hdr.max) hsm ha.seg

end Go.Proofs.Ytllhdmhfjahglac
