/-
  What hinders a deed, and Ready, of the program's, walked.
  The closures of 'do', walked: what a key had, and what a deed sees of it.
-/
import Derived.Test.YtagangiilcicpaeGreatRepDel
import Derived.Deep.DeepCutAuto
namespace Go.Proofs.YtagangiilcicpaeGreat
open Go.RowKit

theorem hind_ret {e : Eng} {at_ q : Int} (h : hindE e at_ = q) : Ending.returned (.int .i64 q) = .returned (.int .i64 (hindE e at_)) := by rw [h]

set_option maxHeartbeats 4000000 in
set_option maxRecDepth 100000 in
theorem hindered_calls {r0 : List Row} {D : List Deed3} {m : Nat} {dq : Nat → Bool} {bq : ByteArray → Int} {e : Eng} (G : Good r0 D m dq bq e) (hD : D.length ≤ 1954687338211) (at_ : Int) (v : Value) (w : World) (hv : EngIn w v e) :
    Calls Tryz.prog 62 #[v, .int .i64 at_] w fun x w' => x = .returned (.int .i64 (hindE e at_)) ∧ Below w.heap.size w w' := by
  obtain ⟨cb, cn, cc, db, dn, dc, sb, sn, sc, eb, en, ec, rfl, hl⟩ := hv
  have hle := G.le
  have HG := hid G
  have HDM := hid hD
  have HDL := hid hl.de.len
  have HDN : Hid (dn = D.length - m) := by show _ = _; rw [hl.de.len, G.len]
  have hdn : dn ≤ 1954687338211 := by rw [HDN.out]; omega
  obtain rfl : sn = dn := by rw [Ints.count hl.st, G.slen, ← hl.de.len]
  obtain rfl : en = sn := by rw [Ends.count hl.en, G.elen, ← hl.de.len]
  have HSC := hid (Ints.count hl.st)
  have HBX := hid (Box.new w #[.slice cb cn cc, .slice db en dc, .slice sb en sc, .slice eb en ec, .int .i64 e.base] 30)
  have HB0 := hid (grew w (.cells #[.slice cb cn cc, .slice db en dc, .slice sb en sc, .slice eb en ec, .int .i64 e.base] 30))
  have HL := hid (hl.below HB0.out)
  clear G hD hl hle
  go_enter Tryz.func62, Tryz.ntmps62
  go_upto_region 1 with fail
  generalize w.alloc (.cells #[.slice cb cn cc, .slice db en dc, .slice sb en sc, .slice eb en ec, .int .i64 e.base] 30) = A at *
  obtain ⟨x0, x1, x2, x3, x4⟩ := HBX.out.cells5
  have hxl : w.heap.size < A.heap.size := HBX.out.lt
  by_cases hneg : at_ < 0
  · have HT : Hid (hindE e at_ = 6) := by show _ = _; unfold hindE; rw [if_pos (.inl hneg)]
    have t1 : decide (at_ < 0) = true := by simpa using hneg
    clear hneg
    go_wp2
    go_ret
    exact ⟨hind_ret HT.out, HB0.out⟩
  obtain ⟨p, rfl⟩ : ∃ p : Nat, at_ = (p : Int) := ⟨at_.toNat, by omega⟩
  have t1 : decide ((p : Int) < 0) = false := by simp
  by_cases hbig : en ≤ p
  · have HT : Hid (hindE e p = 6) := by show _ = _; unfold hindE; rw [if_pos (.inr (by rw [← HDL.out]; omega))]
    have t2 : decide ((en : Int) ≤ (p : Int)) = true := by simp; omega
    have t3 : decide (en ≤ p) = true := by simp; omega
    clear hneg
    go_wp2
    go_ret
    exact ⟨hind_ret HT.out, HB0.out⟩
  have t2 : decide ((en : Int) ≤ (p : Int)) = false := by simp; omega
  have t3 : decide (en ≤ p) = false := by simp; omega
  have hpn : p < en := by omega
  have hpi : (p : Int) < (en : Int) := by omega
  have hsp : p < e.state.length := by rw [← HSC.out]; exact hpn
  obtain ⟨b1, o1, rfl, hrun⟩ : ∃ b1 o1, sb = some ⟨b1, o1, none⟩ ∧ Run A b1 o1 (intsC e.state) := by
    rcases HL.out.st.run with h | h
    · omega
    · exact h
  have k0 := hrun p _ (intsC_at hsp)
  have hb1 : b1 < A.heap.size := by simpa using World.block_lt_of_cell? _ _ k0
  have HIN : Hid (¬ ((p : Int) < 0 ∨ (e.deeds.length : Int) ≤ p)) := by show ¬ _; rw [← HDL.out]; omega
  have HTN : Hid ((p : Int).toNat = p) := Int.toNat_natCast p
  have HPD : Hid (m + p < D.length) := by show _ < _; have := HDN.out; have := HG.out.le; omega
  have HSI := hid (HG.out.state_is HPD.out)
  clear hrun hneg hbig hsp
  by_cases hdone : e.state.getD p 0 = 1
  · have HT : Hid (hindE e p = 11) := by show _ = _; unfold hindE; rw [if_neg HIN.out, HTN.out, if_pos hdone]
    rw [hdone] at k0
    clear hdone
    go_wp2
    go_ret
    exact ⟨hind_ret HT.out, HB0.out⟩
  have HND : Hid (¬ e.state.getD p 0 = 1) := hdone
  have h0 : e.state.getD p 0 = 0 := by
    have := HSI.out
    split at this
    · exact absurd this hdone
    · exact this
  rw [h0] at k0
  have PN := hid (planNeeds_calls HG.out HDM.out p HPD.out _ A ⟨_, _, _, _, _, _, _, _, _, _, _, _, rfl, HL.out⟩)
  clear hdone h0
  go_wp2_with fail
  refine PN.out.mono ?_
  rintro x w1 ⟨nb, nn, nc, rfl, hn1, hb1'⟩
  have HB1 := hid (below_deep HB0.out hb1')
  have hnn : nn = (needsE e p).length := by rw [Ints.count hn1]; simp [ints]
  have hnm := Nat.le_trans hn1.hdr.le hn1.hdr.max
  unfold maxLen at hnm
  have HNN := hid hnn
  clear hn1 hb1' PN hnn k0 x0 x1 x2 x3 x4 hxl hb1
  by_cases hw : 0 < nn
  · have hne : needsE e p ≠ [] := fun h => by rw [HNN.out, h] at hw; cases hw
    have HT : Hid (hindE e p = 10) := by show _ = _; unfold hindE; rw [if_neg HIN.out, HTN.out, if_neg HND.out, if_pos hne]
    have t4 : decide (0 < (nn : Int)) = true := by simp; omega
    clear hne
    go_wp2
    go_ret
    exact ⟨hind_ret HT.out, HB1.out⟩
  have hn0 : needsE e p = [] := List.eq_nil_of_length_eq_zero (by rw [← HNN.out]; omega)
  have HT : Hid (hindE e p = 0) := by show _ = _; unfold hindE; rw [if_neg HIN.out, HTN.out, if_neg HND.out, if_neg (by rw [hn0]; simp)]
  obtain rfl : nn = 0 := by omega
  clear hw hn0
  go_wp2
  go_ret
  exact ⟨hind_ret HT.out, HB1.out⟩

set_option maxHeartbeats 8000000 in
set_option maxRecDepth 100000 in
theorem runReady_calls {r0 : List Row} {D : List Deed3} {m : Nat} {dq : Nat → Bool} {bq : ByteArray → Int} {e : Eng} (G : Good r0 D m dq bq e) (hD : D.length ≤ 1954687338211) (v : Value) (w : World) (hv : EngIn w v e) :
    Calls Tryz.prog 30 #[v] w fun x w' => IntsTold w w' (ints (readyE e)) x := by
  obtain ⟨cb, cn, cc, db, dn, dc, sb, sn, sc, eb, en, ec, rfl, hl⟩ := hv
  have HDL := hid hl.de.len
  have hdn : dn ≤ 1954687338211 := by rw [hl.de.len, G.len]; omega
  have HHI := hid (fun (p : Int) v w hv => hindered_calls G hD p v w hv)
  have HBX := hid (Box.new w #[.slice cb cn cc, .slice db dn dc, .slice sb sn sc, .slice eb en ec, .int .i64 e.base] 30)
  have HBA := hid (grew w (.cells #[.slice cb cn cc, .slice db dn dc, .slice sb sn sc, .slice eb en ec, .int .i64 e.base] 30))
  have HL := hid (hl.below HBA.out)
  have HFIN := hid (ready_to G)
  clear G hD hl
  go_enter Tryz.func30, Tryz.ntmps30
  go_wp2
  generalize w.alloc (.cells #[.slice cb cn cc, .slice db dn dc, .slice sb sn sc, .slice eb en ec, .int .i64 e.base] 30) = A at *
  go_loopw [3, 8] (fun ov i wr => ∃ j r : Nat, j ≤ dn ∧ r ≤ j ∧ i = .int .i64 j ∧ Hid ((readyTo e j).length = r) ∧ Hid (wr.ownsRow A.heap.size 3 1 ov r (intsC (ints (readyTo e j)))) ∧ Hid (Below A.heap.size A wr)) (fun _ i _ => dn - (intOf i).toNat)
  case atStart => exact ⟨0, 0, Nat.zero_le _, Nat.le_refl _, rfl, rfl, World.ownsRow_nil _ _ _ _, Below.refl _ _⟩
  case round =>
    obtain ⟨j, r, hj, hr, rfl, HR, HO, HBR⟩ := hrel
    by_cases hlt : j < dn
    · have hi : (j : Int) < (dn : Int) := by omega
      obtain ⟨c0, c1, c2, c3, c4⟩ := (HBX.out.below HBR.out).cells5
      have hlw : w.heap.size < wr.heap.size := (HBX.out.below HBR.out).lt
      have HTS := hid (readyTo_succ e j)
      have HND := hid (HHI.out j _ wr ⟨cb, cn, cc, db, dn, dc, sb, sn, sc, eb, en, ec, rfl, HL.out.below HBR.out⟩)
      generalize readyTo e j = F at *
      generalize hindE e (j : Int) = q at *
      go_wp2_with fail
      refine HND.out.mono ?_
      rintro x w1 ⟨rfl, hb1⟩
      have HB1 := hid (below_deep HBR.out hb1)
      have HO1 := hid (owns_keep HO.out hb1)
      clear hb1 HND c0 c1 c2 c3 c4 hlw
      by_cases h0 : q = 0
      · have HFJ : Hid (readyTo e (j + 1) = F ++ [j]) := by show _ = _; rw [HTS.out, if_pos h0]
        subst h0
        have HC1 := hid (lies_one w1 #[.int .i64 (j : Int)] 3 1 rfl)
        have HOX := hid (HO1.out.alloc (.cells #[.int .i64 (j : Int)] 3))
        have HBX2 := hid (step_box HB1.out (.cells #[.int .i64 (j : Int)] 3))
        have HBY : Hid ((r + 1) * 8 ≤ 140737488355328) := by show _ ≤ _; omega
        have HSZ := hid HBX2.out.size
        go_wp2_with (at_builtin; refine wpList_onto _ rfl _ _ 23 3 1 8 _ Tryz.underlying23 intInfo rfl (by decide) (by decide) rfl A.heap.size _ r _ rfl HOX.out _ 1 _ _ rfl HC1.out (intsC_one [(j : Int)]) HBY.out HSZ.out ?_)
        intro v3 w3 hown3 hg3
        have HB3 := hid (step_row HBX2.out HOX.out hg3)
        have HO3 : Hid (w3.ownsRow A.heap.size 3 1 v3 (r + 1) (intsC (ints (F ++ [j])))) := by
          show World.ownsRow _ _ _ _ _ _ _
          rw [ints_snoc, intsC_append]; exact hown3
        clear hown3 hg3
        go_wp2
        go_roundw
        case rel => exact ⟨j + 1, r + 1, by omega, by omega, by go_num, (by show _ = _; rw [HFJ.out, List.length_append, HR.out]; rfl), (by rw [HFJ.out]; exact HO3), HB3⟩
        case measure => simp [intOf]; omega
      · have t : (q == 0) = false := by simpa using h0
        have HFJ : Hid (readyTo e (j + 1) = F) := by show _ = _; rw [HTS.out, if_neg h0, List.append_nil]
        clear h0
        go_wp2
        go_roundw
        case rel => exact ⟨j + 1, r, by omega, by omega, by go_num, (by show _ = _; rw [HFJ.out]; exact HR.out), (by rw [HFJ.out]; exact HO1), HB1⟩
        case measure => simp [intOf]; omega
    · obtain rfl : j = dn := by omega
      rw [HDL.out, HFIN.out] at HO
      obtain ⟨ob, oc, rfl, hol⟩ := Lies.owned HO.out
      have HOL : Hid (Ints wr ob r oc (ints (readyE e))) := hol
      clear hol
      go_wp2
      go_ret
      exact ⟨_, _, _, rfl, HOL.out, below_deep HBA.out HBR.out⟩
end Go.Proofs.YtagangiilcicpaeGreat

namespace Go.Proofs.YtagangiilcicpaeGreat
open Go.RowKit

theorem doBef_in : Entered 75 := fun _ _ => by kernel_rfl
theorem doSees_in : Entered 77 := fun _ _ => by kernel_rfl
theorem doBef_results (tmps : Array Value) (b : Nat) (w : World) {y : Int} {m h : Bool} {x : Int} (h4 : tmps.getD 4 undef = .pointer (some ⟨b, 0, none⟩)) (k : Four w b y m h x) :
    (results Tryz.f75 tmps).run Tryz.prog w = .ok (.agg #[.int .i64 y, .bool m, .bool h, .int .i64 x]) w := by
  have h4' : tmps[4]?.getD undef = .pointer (some ⟨b, 0, none⟩) := by simpa using h4
  simp [results, Tryz.results75, go_sem, h4', k.c0, k.c1, k.c2, k.c3]

set_option maxHeartbeats 2000000 in
set_option maxRecDepth 100000 in
theorem doBef_calls (L : List Chn) (base : Option Addr) (n c : Nat) (k : ByteArray) (by_ : Int) (sb bb : Nat) (w : World) (hf : FitC L) (ha : ChainsIn w base n c L) (h1 : w.cell? ⟨sb, 0, none⟩ = some (.slice base n c)) (h2 : w.cell? ⟨bb, 0, none⟩ = some (.int .i64 by_)) :
    Calls Tryz.prog 75 #[.string k, .pointer (some ⟨sb, 0, none⟩), .pointer (some ⟨bb, 0, none⟩)] w fun x w' => VerTold w w' (before L k by_) x := by
  have HG := hid (grew w (.cells #[.int .i64 0, .bool false, .bool false, .int .i64 0] 69))
  have PB := hid (before_calls L base n c k by_ _ hf (ha.below HG.out))
  have hsb : sb < w.heap.size := by simpa using World.block_lt_of_cell? _ _ h1
  have hbb : bb < w.heap.size := by simpa using World.block_lt_of_cell? _ _ h2
  clear hf ha
  go_enter Tryz.func75, Tryz.ntmps75
  go_wp2_with fail
  refine PB.out.mono ?_
  rintro x w1 ⟨y, mm, hh, n2, hbf, rfl, hb1⟩
  have HBF := hid hbf
  have HFO := hid ((Four.box w 0 false false 0 69).below hb1)
  have hfr := (Free4.box w #[.int .i64 0, .bool false, .bool false, .int .i64 0] 69).below hb1 (by simp)
  obtain ⟨g0, g1, g2, g3⟩ := HFO.out
  obtain ⟨f0, f1, f2, f3⟩ := hfr
  have HB := hid (below_deep HG.out hb1)
  clear hbf hb1 PB
  go_wp2
  (try simp only [Exit.inBlock, Exit.then])
  refine bodyPost_ret (doBef_results _ w.heap.size _ rfl (HFO.out.put _ _ _ _)) rfl ?_
  exact ⟨_, _, _, _, HBF.out, rfl, four_below HB.out (Nat.le_refl _)⟩

theorem sees_ret {v : Ver} {y n : Int} {m h : Bool} (hv : v = (y, m, h, n)) : Ending.returned (.tuple #[.int .i64 n, .bool h]) = .returned (.tuple #[.int .i64 v.n, .bool v.has_]) := by rw [hv]

set_option maxHeartbeats 2000000 in
set_option maxRecDepth 100000 in
theorem doSees_calls (L : List Chn) (base : Option Addr) (n c : Nat) (k : ByteArray) (by_ : Int) (sb bb fb : Nat) (w : World) (hf : FitC L) (ha : ChainsIn w base n c L) (h1 : w.cell? ⟨sb, 0, none⟩ = some (.slice base n c)) (h2 : w.cell? ⟨bb, 0, none⟩ = some (.int .i64 by_))
    (h3 : w.cell? ⟨fb, 0, none⟩ = some (.func (.func 75) #[] #[.pointer (some ⟨sb, 0, none⟩), .pointer (some ⟨bb, 0, none⟩)])) :
    Calls Tryz.prog 77 #[.string k, .pointer (some ⟨fb, 0, none⟩)] w fun x w' => x = .returned (.tuple #[.int .i64 (before L k by_).n, .bool (before L k by_).has_]) ∧ Below w.heap.size w w' := by
  have PB := hid (doBef_calls L base n c k by_ sb bb w hf ha h1 h2)
  have hcf := doBef_in
  unfold Entered at hcf
  have hfb : fb < w.heap.size := by simpa using World.block_lt_of_cell? _ _ h3
  clear hf ha h1 h2
  go_enter Tryz.func77, Tryz.ntmps77
  go_wp2_with fail
  refine PB.out.mono ?_
  rintro x w1 ⟨y, mm, hh, n2, hbf, rfl, hb1⟩
  have HBF := hid hbf
  have HB := hid (below_deep hb1 (grew w1 (.cells #[.int .i64 y, .bool mm, .bool hh, .int .i64 n2] 69)))
  clear hbf hb1 PB
  go_wp2
  go_region
  all_goals
    go_wp2
    go_ret2
    exact ⟨sees_ret HBF.out, below_drewN HB.out _⟩

/-- What a key that is written has at last, as 'do' tells it: what Run made of it, or what it had. -/
theorem set_made {r0 : List Row} {D : List Deed3} {m : Nat} {dq : Nat → Bool} {bq : ByteArray → Int} {e : Eng} (G : Good r0 D m dq bq e) {p : Nat} (hp : m + p < D.length) (hn : needsE e p = []) {r : Nat → Int} {mk : Made} {f : Bool} (hx : exec (fun k => num k (seesE e p)) (e.deeds.getD p default).2.2 0 zeroR zeroM = (r, mk, f)) {k : ByteArray} (hk : k ∈ (e.deeds.getD p default).2.1) :
    (∀ j : Nat, j < (keysOf (madeL f mk (e.deeds.getD p default).2.1)).length → (keysOf (madeL f mk (e.deeds.getD p default).2.1)).getD j default = k → ∃ o, ((madeL f mk (e.deeds.getD p default).2.1).getD j default).2 = o ∧ isAt k (doD (seesE e p) (e.deeds.getD p default)) = o.isSome ∧ num k (doD (seesE e p) (e.deeds.getD p default)) = o.getD 0) ∧
    (has (keysOf (madeL f mk (e.deeds.getD p default).2.1)) k = false → (before e.chains k (e.base + p)).made = true ∧ (before e.chains k (e.base + p)).has_ = isAt k (doD (seesE e p) (e.deeds.getD p default)) ∧ (before e.chains k (e.base + p)).n = num k (doD (seesE e p) (e.deeds.getD p default))) := by
  have hs := (sees_is G hp hn).1
  have hd : RightDD (e.deeds.getD p default) := by rw [G.deed]; exact rights_at G.right hp
  have hex : exD (seesE e p) (e.deeds.getD p default) = (r, mk, f) := hx
  refine ⟨fun j hj hjk => ?_, fun hh => ?_⟩
  · rw [keysOf_length] at hj
    rw [keysOf_getD hj] at hjk
    refine ⟨_, rfl, ?_⟩
    exact made_some hs hd hex hj (Prod.ext hjk rfl)
  · obtain ⟨e1, e2⟩ := made_none hs hd hex hk hh
    obtain ⟨b1, b2, b3⟩ := sees_bef G hp hn (k := k) (keysD_mem.2 (.inr hk))
    exact ⟨b1, b2.trans e1.symm, b3.trans e2.symm⟩
/-- A deed's end, and what it sees, in Run's own words. -/
theorem run_end {e : Eng} {p : Nat} {r : Nat → Int} {mk : Made} {f : Bool} (hx : exec (fun k => num k (seesE e p)) (e.deeds.getD p default).2.2 0 zeroR zeroM = (r, mk, f)) : endD (seesE e p) (e.deeds.getD p default) = (f, r) := by
  have hex : exD (seesE e p) (e.deeds.getD p default) = (r, mk, f) := hx
  unfold endD
  rw [hex]
theorem num_told {h : Bool} {n : Int} {R : List Row} {k : ByteArray} (h1 : h = isAt k R) (h2 : n = num k R) : (if h = true then n else 0) = num k R := by
  subst h1; subst h2; exact seen_num k R
end Go.Proofs.YtagangiilcicpaeGreat
