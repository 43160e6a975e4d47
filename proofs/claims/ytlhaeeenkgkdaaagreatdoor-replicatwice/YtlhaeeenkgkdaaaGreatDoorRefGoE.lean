/-
  The document's own Go of an engine, walked.
-/
import Derived.Test.YtlhaeeenkgkdaaaGreatDoorRefNeeds
import Derived.Test.YtlhaeeenkgkdaaaGreatDoorRefAddE
import Derived.Test.YtlhaeeenkgkdaaaGreatDoorEngSet
namespace Go.Proofs.YtlhaeeenkgkdaaaGreatDoor
open Go.RowKit

def goTo (e : Eng) (at_ : Int) : Eng × Int :=
 if at_ < 0 ∨ (e.deeds.length : Int) ≤ at_ then (e, 6)
 else if e.state.getD at_.toNat 0 = 1 then (e, 11)
 else if needsE e at_.toNat ≠ [] then (e, 10)
 else (goE e at_.toNat, 0)
def GoTold (w w' : World) (e : Eng) (at_ : Int) (x : Ending) : Prop := ∃ v, x = .returned (.tuple #[v, .int .i64 (goTo e at_).2]) ∧ EngIn w' v (goTo e at_).1 ∧ Below w.heap.size w w'
theorem refGoE_results (tmps : Array Value) (b : Nat) (w : World) {a0 a1 a2 a3 : Option Addr} {n0 n1 n2 n3 c0 c1 c2 c3 : Nat} {z q : Int} (h : tmps.getD 4 undef = .pointer (some ⟨b, 0, none⟩)) (h5 : tmps.getD 5 undef = .int .i64 q) (hb : Box w b #[.slice a0 n0 c0, .slice a1 n1 c1, .slice a2 n2 c2, .slice a3 n3 c3, .int .i64 z] 33) :
   (results Tryz.f18 tmps).run Tryz.prog w = .ok (.tuple #[.agg #[.slice a0 n0 c0, .slice a1 n1 c1, .slice a2 n2 c2, .slice a3 n3 c3, .int .i64 z], .int .i64 q]) w := by
 have h' : tmps[4]?.getD undef = .pointer (some ⟨b, 0, none⟩) := by simpa using h
 have h5' : tmps[5]?.getD undef = .int .i64 q := by simpa using h5
 obtain ⟨k0, k1, k2, k3, k4⟩ := hb.cells5
 simp [results, Tryz.results18, go_sem, h', h5', k0, k1, k2, k3, k4]
theorem ints_stored {w : World} {B g n c : Nat} {S : List Int} (h : w.ownsRow B 3 1 (.slice (some ⟨g, 0, none⟩) n c) n (intsC S)) (p : Nat) (x : Int) : (w.setCell ⟨g, p, none⟩ (.int .i64 x)).ownsRow B 3 1 (.slice (some ⟨g, 0, none⟩) n c) n (intsC (S.set p x)) := by
 have := (World.ownsRow.stored h p (.int .i64 x)).1
 have e : (intsC S).set p (.int .i64 x) = intsC (S.set p x) := by simp [intsC, List.map_set]
 rw [e] at this
 exact this
theorem ends_stored {w : World} {B g n c : Nat} {E : List End3} (h : w.ownsRow B 83 5 (.slice (some ⟨g, 0, none⟩) n c) n (endCells E)) {p : Nat} (hp : p < E.length) (e : End3) : (fiveAt w g (p * 5) e.1 (e.2 0) (e.2 1) (e.2 2) (e.2 3)).ownsRow B 83 5 (.slice (some ⟨g, 0, none⟩) n c) n (endCells (E.set p e)) := by
 have h5 := (((((World.ownsRow.stored h (p * 5) (.bool e.1)).1.stored (p * 5 + 1) (.int .i64 (e.2 0))).1.stored (p * 5 + 2) (.int .i64 (e.2 1))).1.stored (p * 5 + 3) (.int .i64 (e.2 2))).1.stored (p * 5 + 4) (.int .i64 (e.2 3))).1
 rw [endCells_set E p e hp] at h5
 exact h5

set_option maxHeartbeats 16000000 in
set_option maxRecDepth 100000 in
theorem refGoE_calls {r0 : List Row} {D : List Deed3} {m : Nat} {dq : Nat → Bool} {bq : ByteArray → Int} {e : Eng} (G : Good r0 D m dq bq e) (hD : D.length ≤ 1954687338211) (at_ : Int) (v : Value) (w : World) (hv : EngIn w v e) :
   Calls Tryz.prog 18 #[v, .int .i64 at_] w fun x w' => GoTold w w' e at_ x := by
 obtain ⟨cb, cn, cc, db, dn, dc, sb, sn, sc, eb, en, ec, rfl, hl⟩ := hv
 have hle := G.le
 have hz0 : 0 ≤ e.base := by rw [G.base]; omega
 have hz1 : e.base ≤ 1954687338211 := by rw [G.base]; omega
 have HG := hid G
 have HDM := hid hD
 have HDL := hid hl.de.len
 have HDN : Hid (dn = D.length - m) := by show _ = _; rw [hl.de.len, G.len]
 have hdn : dn ≤ 1954687338211 := by rw [HDN.out]; omega
 have HSN : Hid (sn = dn) := by show _ = _; rw [Ints.count hl.st, G.slen, ← hl.de.len]
 have HEN : Hid (en = dn) := by show _ = _; rw [Ends.count hl.en, G.elen, ← hl.de.len]
 have HBX := hid (Box.new w #[.slice cb cn cc, .slice db dn dc, .slice sb sn sc, .slice eb en ec, .int .i64 e.base] 33)
 have HB0 := hid (grew w (.cells #[.slice cb cn cc, .slice db dn dc, .slice sb sn sc, .slice eb en ec, .int .i64 e.base] 33))
 have HBZ := hid (Box.new (w.alloc (.cells #[.slice cb cn cc, .slice db dn dc, .slice sb sn sc, .slice eb en ec, .int .i64 e.base] 33)) #[.slice none 0 0, .slice none 0 0, .slice none 0 0, .slice none 0 0, .int .i64 0] 33)
 have HB1 := hid (grew (w.alloc (.cells #[.slice cb cn cc, .slice db dn dc, .slice sb sn sc, .slice eb en ec, .int .i64 e.base] 33)) (.cells #[.slice none 0 0, .slice none 0 0, .slice none 0 0, .slice none 0 0, .int .i64 0] 33))
 rw [World.size_alloc] at HBZ
 have HX := hid (HBX.out.below HB1.out)
 have HBW := hid (below_deep HB0.out HB1.out)
 have HL := hid (hl.below HBW.out)
 clear G hD hl hle HBX HB0 HB1
 go_enter Tryz.func18, Tryz.ntmps18
 go_upto_region 1 with fail
 generalize (w.alloc (.cells #[.slice cb cn cc, .slice db dn dc, .slice sb sn sc, .slice eb en ec, .int .i64 e.base] 33)).alloc (.cells #[.slice none 0 0, .slice none 0 0, .slice none 0 0, .slice none 0 0, .int .i64 0] 33) = A at *
 have HBK : Hid (∀ W, Below A.heap.size A W → Box (put5 W (w.heap.size + 1) (.slice cb cn cc) (.slice db dn dc) (.slice sb sn sc) (.slice eb en ec) (.int .i64 e.base)) (w.heap.size + 1) #[.slice cb cn cc, .slice db dn dc, .slice sb sn sc, .slice eb en ec, .int .i64 e.base] 33 ∧ EngLies (put5 W (w.heap.size + 1) (.slice cb cn cc) (.slice db dn dc) (.slice sb sn sc) (.slice eb en ec) (.int .i64 e.base)) cb cn cc db dn dc sb sn sc eb en ec e ∧ Below w.heap.size w (put5 W (w.heap.size + 1) (.slice cb cn cc) (.slice db dn dc) (.slice sb sn sc) (.slice eb en ec) (.int .i64 e.base))) := fun W hb =>
   ⟨put5_box (HBZ.out.below hb) _ _ _ _ _, (HL.out.below hb).put (HBZ.out.below hb) (put5_off _ _ _ _ _ _ _), put5_below (below_deep HBW.out hb) (Nat.le_succ _) _ _ _ _ _⟩
 unfold put5 at HBK
 obtain ⟨x0, x1, x2, x3, x4⟩ := HX.out.cells5
 obtain ⟨z0, z1, z2, z3, z4⟩ := HBZ.out.cells5
 obtain ⟨f0, f1, f2, f3, f4⟩ := HBZ.out.free5
 have hxl : w.heap.size < A.heap.size := HX.out.lt
 have hzl : w.heap.size + 1 < A.heap.size := HBZ.out.lt
 by_cases hneg : at_ < 0
 · have HT : Hid (goTo e at_ = (e, 6)) := by show _ = _; unfold goTo; rw [if_pos (.inl hneg)]
   have t1 : decide (at_ < 0) = true := by simpa using hneg
   have HK := hid (HBK.out A (Below.refl _ _))
   clear hneg
   go_wp2
   (try simp only [Exit.inBlock, Exit.then])
   refine bodyPost_ret (refGoE_results _ (w.heap.size + 1) _ rfl rfl HK.out.1) rfl ?_
   refine ⟨_, by rw [HT.out], ?_, HK.out.2.2⟩
   rw [HT.out]
   exact ⟨_, _, _, _, _, _, _, _, _, _, _, _, rfl, HK.out.2.1⟩
 obtain ⟨p, rfl⟩ : ∃ p : Nat, at_ = (p : Int) := ⟨at_.toNat, by omega⟩
 have t1 : decide ((p : Int) < 0) = false := by simp
 by_cases hbig : dn ≤ p
 · have HT : Hid (goTo e p = (e, 6)) := by show _ = _; unfold goTo; rw [if_pos (.inr (by rw [← HDL.out]; omega))]
   have t2 : decide ((dn : Int) ≤ (p : Int)) = true := by simp; omega
   have HK := hid (HBK.out A (Below.refl _ _))
   clear hneg
   go_wp2
   (try simp only [Exit.inBlock, Exit.then])
   refine bodyPost_ret (refGoE_results _ (w.heap.size + 1) _ rfl rfl HK.out.1) rfl ?_
   refine ⟨_, by rw [HT.out], ?_, HK.out.2.2⟩
   rw [HT.out]
   exact ⟨_, _, _, _, _, _, _, _, _, _, _, _, rfl, HK.out.2.1⟩
 have t2 : decide ((dn : Int) ≤ (p : Int)) = false := by simp; omega
 have hpn : p < dn := by omega
 have hpi : (p : Int) < (dn : Int) := by omega
 have hps : (p : Int) < (sn : Int) := by rw [HSN.out]; exact hpi
 have hsp : p < e.state.length := by rw [← Ints.count HL.out.st, HSN.out]; exact hpn
 obtain ⟨b1, o1, rfl, hrun⟩ : ∃ b1 o1, sb = some ⟨b1, o1, none⟩ ∧ Run A b1 o1 (intsC e.state) := by
   rcases HL.out.st.run with h | h
   · have := HSN.out; omega
   · exact h
 have k0 := hrun p _ (intsC_at hsp)
 have hb1 : b1 < A.heap.size := by simpa using World.block_lt_of_cell? _ _ k0
 have HIN : Hid (¬ ((p : Int) < 0 ∨ (e.deeds.length : Int) ≤ p)) := by show ¬ _; rw [← HDL.out]; omega
 have HTN : Hid ((p : Int).toNat = p) := Int.toNat_natCast p
 have HPD : Hid (m + p < D.length) := by show _ < _; have := HDN.out; have := HG.out.le; omega
 clear hrun hneg hbig
 by_cases hdone : e.state.getD p 0 = 1
 · have HT : Hid (goTo e p = (e, 11)) := by show _ = _; unfold goTo; rw [if_neg HIN.out, HTN.out, if_pos hdone]
   rw [hdone] at k0
   have HK := hid (HBK.out A (Below.refl _ _))
   clear hdone
   go_wp2
   (try simp only [Exit.inBlock, Exit.then])
   refine bodyPost_ret (refGoE_results _ (w.heap.size + 1) _ rfl rfl HK.out.1) rfl ?_
   refine ⟨_, by rw [HT.out], ?_, HK.out.2.2⟩
   rw [HT.out]
   exact ⟨_, _, _, _, _, _, _, _, _, _, _, _, rfl, HK.out.2.1⟩
 have HND : Hid (¬ e.state.getD p 0 = 1) := hdone
 have t3 : (e.state.getD p 0 == 1) = false := by simpa using hdone
 have PN := hid (refNeeds_calls HG.out HDM.out p HPD.out _ A ⟨_, _, _, _, _, _, _, _, _, _, _, _, rfl, HL.out⟩)
 clear hdone
 obtain ⟨st, hst⟩ : ∃ st, e.state.getD p 0 = st := ⟨_, rfl⟩
 rw [hst] at k0 t3
 clear hst
 go_wp2_with fail
 refine PN.out.mono ?_
 rintro x w1 ⟨nb, nn, nc, rfl, hn1, hb1'⟩
 have HB1 := hid hb1'
 have hnn : nn = (needsE e p).length := by rw [Ints.count hn1]; simp [ints]
 have hnm := Nat.le_trans hn1.hdr.le hn1.hdr.max
 unfold maxLen at hnm
 have HNN := hid hnn
 clear hn1 hb1' PN hnn k0
 obtain ⟨x0, x1, x2, x3, x4⟩ := (HX.out.below HB1.out).cells5
 obtain ⟨z0, z1, z2, z3, z4⟩ := (HBZ.out.below HB1.out).cells5
 obtain ⟨f0, f1, f2, f3, f4⟩ := (HBZ.out.below HB1.out).free5
 have hxl1 : w.heap.size < w1.heap.size := (HX.out.below HB1.out).lt
 have hzl1 : w.heap.size + 1 < w1.heap.size := (HBZ.out.below HB1.out).lt
 by_cases hw : 0 < nn
 · have hne : needsE e p ≠ [] := fun h => by rw [HNN.out, h] at hw; cases hw
   have HT : Hid (goTo e p = (e, 10)) := by show _ = _; unfold goTo; rw [if_neg HIN.out, HTN.out, if_neg HND.out, if_pos hne]
   have t4 : decide (0 < (nn : Int)) = true := by simp; omega
   have HK := hid (HBK.out w1 HB1.out)
   clear hne
   go_wp2
   (try simp only [Exit.inBlock, Exit.then])
   refine bodyPost_ret (refGoE_results _ (w.heap.size + 1) _ rfl rfl HK.out.1) rfl ?_
   refine ⟨_, by rw [HT.out], ?_, HK.out.2.2⟩
   rw [HT.out]
   exact ⟨_, _, _, _, _, _, _, _, _, _, _, _, rfl, HK.out.2.1⟩
 have hn0 : needsE e p = [] := List.eq_nil_of_length_eq_zero (by rw [← HNN.out]; omega)
 have HT : Hid (goTo e p = (goE e p, 0)) := by show _ = _; unfold goTo; rw [if_neg HIN.out, HTN.out, if_neg HND.out, if_neg (by rw [hn0]; simp)]
 obtain rfl : nn = 0 := by omega
 have HN0 := hid hn0
 have hRD : RightDD (e.deeds.getD p default) := by rw [HG.out.deed]; exact rights_at HG.out.right HPD.out
 have HRD := hid hRD
 have HSRT := hid HG.out.srt
 have HRIGHT := hid (sees_right HG.out HPD.out hn0)
 have HKL := hid (keysD_len hRD)
 have HX1 := hid (HX.out.below HB1.out)
 have HZ1 := hid (HBZ.out.below HB1.out)
 have HL1 := hid (HL.out.below HB1.out)
 have HBW1 := hid (below_deep HBW.out HB1.out)
 have HFIT := hid (fun (R : List Row) (t : Nat) => HG.out.fit_set HDM.out hRD.w (e.base + p) R t)
 have HGE : Hid (goE e p = ⟨setW (e.base + p) (doD (seesE e p) (e.deeds.getD p default)) (e.deeds.getD p default).2.1 e.chains, e.deeds, e.state.set p 1, e.ends.set p (endD (seesE e p) (e.deeds.getD p default)), e.base⟩) := rfl
 have HSE : Hid (seesE e p = (keysD (e.deeds.getD p default)).foldl (seesK e.chains (e.base + p)) []) := rfl
 have HSP : Hid (p < e.state.length ∧ p < e.ends.length) := ⟨hsp, by rw [← Ends.count HL.out.en, HEN.out]; exact hpn⟩
 obtain ⟨b2, o2, rfl, hrun⟩ : ∃ b2 o2, db = some ⟨b2, o2, none⟩ ∧ ∀ i, i < dn → DeedHere w1 b2 (o2 + i * 3) (e.deeds.getD i default) := by
   rcases HL1.out.de.run with h | h
   · omega
   · exact h
 obtain ⟨rb, rn, rc, wb, wn, wc, xb, xn, xc, j0, j1, j2, hdi, hs1, hs2⟩ := hrun p hpn
 have hb2 : b2 < w1.heap.size := by simpa using World.block_lt_of_cell? _ _ j0
 have HDI := hid hdi
 have HJ := hid (And.intro j0 (And.intro j1 j2))
 have HSW := hid hs2
 have HWN := hid (Texts.count hdi.tw)
 have hwn5 : wn ≤ 5 := by rw [Texts.count hdi.tw]; exact wKeys_len hRD.w
 have PK := hid (refKeys_calls (e.deeds.getD p default) rb rn rc wb wn wc xb xn xc w1 hdi (by rw [Texts.count hdi.tr]; exact wKeys_len hRD.r) hwn5)
 clear hw hn0 hRD hrun hdi hs1 hs2 hsp
 go_wp2_with fail
 refine PK.out.mono ?_
 rintro x w2 ⟨kb, kn, kc, rfl, hk2, hb2'⟩
 have HB2 := hid hb2'
 have HKT := hid hk2
 have HKN := hid (Texts.count hk2)
 have hkn : kn ≤ 10 := by rw [Texts.count hk2]; exact HKL.out
 clear hk2 hb2' PK j0 j1 j2 x0 x1 x2 x3 x4 z0 z1 z2 z3 z4 f0 f1 f2 f3 f4 HND HIN HTN t1 t2 t3 HBK
 generalize hKg : keysD (e.deeds.getD p default) = K at *
 have HKg := hid hKg
 clear hKg
 go_wp2
 go_loopw [6, 45] (fun rv i wr => ∃ (q : Nat) (rb2 : Option Addr) (rn2 rc2 : Nat), q ≤ kn ∧ i = .int .i64 q ∧ rv = .slice rb2 rn2 rc2 ∧ Hid (Holds wr rb2 rn2 rc2 ((K.take q).foldl (seesK e.chains (e.base + p)) [])) ∧ Hid (Below w2.heap.size w2 wr)) (fun _ i _ => kn - (intOf i).toNat)
 case atStart => exact ⟨0, none, 0, 0, Nat.zero_le _, rfl, rfl, Holds.empty _ rfl rfl ⟨Nat.le_refl _, Nat.zero_le _, fun _ => rfl⟩, Below.refl _ _⟩
 case round =>
   obtain ⟨q, rb2, rn2, rc2, hq, rfl, rfl, HH, HBR⟩ := hrel
   have HB1R := hid (below_deep HB2.out HBR.out)
   obtain ⟨x0, x1, x2, x3, x4⟩ := (HX1.out.below HB1R.out).cells5
   have hxr : w.heap.size < wr.heap.size := (HX1.out.below HB1R.out).lt
   by_cases hql : q < kn
   · have hqK : q < K.length := by rw [← HKN.out]; exact hql
     have hiq : (q : Int) < (kn : Int) := by omega
     rcases (HKT.out.below (by decide) HBR.out).run with h | ⟨b3, o3, rfl, h3⟩
     · omega
     have g0 := h3 q _ (strs_at hqK)
     have hb3 : b3 < wr.heap.size := by simpa using World.block_lt_of_cell? _ _ g0
     have HTK : Hid ((K.take (q + 1)).foldl (seesK e.chains (e.base + p)) [] = seesK e.chains (e.base + p) ((K.take q).foldl (seesK e.chains (e.base + p)) []) (K.getD q default)) := by
       show _ = _
       rw [take_snoc_getD hqK, List.foldl_append, List.foldl_cons, List.foldl_nil]
     have HRQ := hid (HRIGHT.out q)
     have HRL : Hid (((K.take q).foldl (seesK e.chains (e.base + p)) []).length ≤ 10) := by
       have h1 := sees_len e.chains (e.base + p) (K.take q) []
       have h2 : (K.take q).length ≤ q := by rw [List.length_take]; omega
       show _ ≤ _
       simp only [List.length_nil] at h1
       omega
     have PB := hid (refBefore_calls e.chains cb cn cc (K.getD q default) (e.base + p) wr HSRT.out (HL1.out.below HB1R.out).ch)
     have hsum : IntKind.i64.wrap (e.base + (p : Int)) = e.base + p := by rw [IntKind.wrap_i64]; omega
     clear h3
     generalize K.getD q default = k at *
     go_wp2_with fail
     refine PB.out.mono ?_
     rintro x w3 ⟨y, mm, hh, n2, hbf, rfl, hb3'⟩
     have HB3 := hid (below_deep HBR.out hb3')
     have HH3 := hid (HH.out.below hb3')
     have HGV := hid (grew w3 (.cells #[.int .i64 y, .bool mm, .bool hh, .int .i64 n2] 78))
     have HHG := hid (HH3.out.below HGV.out)
     have HSK : Hid (seesK e.chains (e.base + p) ((K.take q).foldl (seesK e.chains (e.base + p)) []) k = if hh = true then ins k n2 ((K.take q).foldl (seesK e.chains (e.base + p)) []) else (K.take q).foldl (seesK e.chains (e.base + p)) []) := by
       show _ = _
       unfold seesK
       rw [hbf]
     clear hb3' PB hbf x0 x1 x2 x3 x4 g0 hsum
     generalize (K.take q).foldl (seesK e.chains (e.base + p)) [] = R at *
     cases hh with
     | false =>
       go_wp2
       go_roundw
       case rel => exact ⟨q + 1, rb2, rn2, rc2, by omega, by go_num, rfl, (by show Holds _ _ _ _ _; rw [HTK.out, HSK.out]; exact HHG.out), below_deep HB3.out HGV.out⟩
       case measure => simp [intOf]; omega
     | true =>
       have hrn : rn2 ≤ 10 := by rw [HH3.out.len]; exact HRL.out
       have PP := hid (refPut_true R rb2 rn2 rc2 k n2 _ (by omega) HRQ.out.srt HHG.out)
       go_wp2_with fail
       refine PP.out.mono ?_
       rintro x w4 ⟨b4, n4, c4, rfl, h4, hb4⟩
       have HB4 := hid (below_deep HB3.out (below_deep HGV.out hb4))
       have HH4 : Hid (Holds w4 b4 n4 c4 (ins k n2 R)) := h4
       clear h4 hb4 PP
       go_wp2
       go_roundw
       case rel => exact ⟨q + 1, b4, n4, c4, by omega, by go_num, rfl, (by show Holds _ _ _ _ _; rw [HTK.out, HSK.out]; exact HH4.out), HB4⟩
       case measure => simp [intOf]; omega
   · obtain rfl : q = kn := by omega
     have HRS : Hid (Right (seesE e p)) := by
       have := HRIGHT.out q
       show Right _
       rw [HSE.out]
       rw [List.take_of_length_le (by rw [← HKN.out]; exact Nat.le_refl _)] at this
       exact this
     have HHS : Hid (Holds wr rb2 rn2 rc2 (seesE e p)) := by
       have := HH.out
       show Holds _ _ _ _ _
       rw [HSE.out]
       rw [List.take_of_length_le (by rw [← HKN.out]; exact Nat.le_refl _)] at this
       exact this
     have j0 := kept_cell HB1R.out HJ.out.1
     have j1 := kept_cell HB1R.out HJ.out.2.1
     have j2 := kept_cell HB1R.out HJ.out.2.2
     have hb2r : b2 < wr.heap.size := Nat.lt_of_lt_of_le hb2 HB1R.out.size
     have PD := hid (refDo_toldK (seesE e p) (e.deeds.getD p default) rb2 rn2 rc2 rb rn rc wb wn wc xb xn xc wr (HDI.out.below HB1R.out) HRD.out HHS.out HRS.out)
     clear HH HKT HRIGHT HSE HKg HKN hq hql HN0 HKL
     go_wp2_with fail
     refine PD.out.mono ?_
     rintro x w5 ⟨nb5, nn5, nc5, f, r, hend, rfl, h5, hb5, _⟩
     have HB5 := hid (below_deep HB1R.out hb5)
     have HGD := hid (grew w5 (.cells #[.bool f, .int .i64 (r 0), .int .i64 (r 1), .int .i64 (r 2), .int .i64 (r 3)] 83))
     have HBD := hid (Box.new w5 #[.bool f, .int .i64 (r 0), .int .i64 (r 1), .int .i64 (r 2), .int .i64 (r 3)] 83)
     have HB6 := hid (below_deep HB5.out HGD.out)
     have HH6 := hid (h5.below HGD.out)
     have HEND := hid hend
     have HX6 := hid (HX1.out.below HB6.out)
     have HZ6 := hid (HZ1.out.below HB6.out)
     have HL6 := hid (HL1.out.below HB6.out)
     have HBW6 := hid (below_deep HBW1.out HB6.out)
     have HDW6 := hid (HDI.out.below HB6.out).tw
     have HJ6 := hid (And.intro (kept_cell HB6.out HJ.out.1) (And.intro (kept_cell HB6.out HJ.out.2.1) (kept_cell HB6.out HJ.out.2.2)))
     have hb26 : b2 < w5.heap.size := Nat.lt_of_lt_of_le hb2 HB5.out.size
     have hx5 : w.heap.size < w5.heap.size := (HX1.out.below HB5.out).lt
     have y1 := (HX1.out.below HB5.out).cells5.2.1
     have k1 := kept_cell HB5.out HJ.out.2.1
     have HRR := hid (doD_right HRS.out HRD.out)
     clear h5 hb5 PD hend HHS HB2 HBR HB1R x0 x1 x2 x3 x4 j0 j1 j2 HX1 HZ1 HL1 HBW1 HDI HJ HB1 hb2r hxr HX HBZ HL HBW HRS HB5 HGD
     generalize hLR : doD (seesE e p) (e.deeds.getD p default) = LR at *
     go_wp2
     generalize w5.alloc (.cells #[.bool f, .int .i64 (r 0), .int .i64 (r 1), .int .i64 (r 2), .int .i64 (r 3)] 83) = A2 at *
     have HAL := hid (eng_alien HX6.out)
     have HBS : Hid (e.base + (p : Int) = e.base + p) := rfl
     have HCH := hid HL6.out.ch
     go_loopw [82] (fun i wr => ∃ (t : Nat) (cb : Option Addr) (cn cc : Nat), t ≤ wn ∧ i = .int .i64 t ∧ Hid (Box wr w.heap.size #[.slice cb cn cc, .slice (some ⟨b2, o2, none⟩) dn dc, .slice (some ⟨b1, o1, none⟩) sn sc, .slice eb en ec, .int .i64 e.base] 33) ∧ Hid (ChainsIn wr cb cn cc (setW (e.base + p) LR ((e.deeds.getD p default).2.1.take t) e.chains)) ∧ Hid (Off w.heap.size A2 wr) ∧ Hid (Below w.heap.size w wr)) (fun i _ => wn - (intOf i).toNat)
     case atStart => exact ⟨0, cb, cn, cc, Nat.zero_le _, rfl, HX6, HCH, Off.refl _ _, HBW6⟩
     case round =>
       obtain ⟨t, cb2, cn2, cc2, ht, rfl, HXR, HCR, HOF, HBR⟩ := hrel
       by_cases htl : t < wn
       · have htW : t < (e.deeds.getD p default).2.1.length := by rw [← HWN.out]; exact htl
         have hit : (t : Int) < (wn : Int) := by omega
         obtain ⟨b4, o4, rfl, hr4⟩ : ∃ b4 o4, wb = some ⟨b4, o4, none⟩ ∧ Run wr b4 o4 (strs (e.deeds.getD p default).2.1) := by
           rcases (Texts.off HDW6.out HAL.out.text HOF.out).run with h | h
           · omega
           · exact h
         have g0 := hr4 t _ (strs_at htW)
         have hb4w : b4 < wr.heap.size := by simpa using World.block_lt_of_cell? _ _ g0
         have HKZ : Hid (((e.deeds.getD p default).2.1.getD t default).size ≤ maxLen) := HSW.out _ (getD_in htW)
         have PG := hid (refGet_calls LR nb5 nn5 nc5 ((e.deeds.getD p default).2.1.getD t default) wr HRR.out.srt (HH6.out.off HAL.out.text HOF.out))
         have HTK : Hid (setW (e.base + p) LR ((e.deeds.getD p default).2.1.take (t + 1)) e.chains = setC ((e.deeds.getD p default).2.1.getD t default) (e.base + p, true, isAt ((e.deeds.getD p default).2.1.getD t default) LR, num ((e.deeds.getD p default).2.1.getD t default) LR) (setW (e.base + p) LR ((e.deeds.getD p default).2.1.take t) e.chains)) := by
           show _ = _
           rw [take_snoc_getD htW, setW_snoc]
         clear hr4
         generalize (e.deeds.getD p default).2.1.getD t default = k at *
         generalize num k LR = nk at *
         generalize isAt k LR = hk at *
         go_wp2_with fail
         refine PG.out.mono ?_
         rintro x w7 ⟨rfl, hb7⟩
         have HX7 := hid (HXR.out.below hb7)
         obtain ⟨x0, x1, x2, x3, x4⟩ := HX7.out.cells5
         have hx7 : w.heap.size < w7.heap.size := HX7.out.lt
         have HO7 := hid (HOF.out.trans (Off.below hb7))
         have HB7 := hid (below_deep HBR.out hb7)
         have PS := hid (refSetC_calls (setW (e.base + p) LR ((e.deeds.getD p default).2.1.take t) e.chains) cb2 cn2 cc2 k (e.base + p) true hk nk w7 (HFIT.out LR t) (HCR.out.below hb7))
         have hsum : IntKind.i64.wrap (e.base + (p : Int)) = e.base + p := by rw [IntKind.wrap_i64]; omega
         clear hb7 PG g0
         go_wp2_with fail
         refine PS.out.mono ?_
         rintro x w8 ⟨b8, n8, c8, rfl, h8, hb8⟩
         have HX8 := hid (HX7.out.below hb8)
         have g8 := HX8.out.cells5.1
         have f8 := HX8.out.free 0
         have hx8 : w.heap.size < w8.heap.size := HX8.out.lt
         have HX9 := hid (HX8.out.set 0 (.slice b8 n8 c8))
         have HC9 : Hid (ChainsIn (w8.setCell ⟨w.heap.size, 0, none⟩ (.slice b8 n8 c8)) b8 n8 c8 (setW (e.base + p) LR ((e.deeds.getD p default).2.1.take (t + 1)) e.chains)) := by
           show ChainsIn _ _ _ _ _
           rw [HTK.out]
           exact h8.off (eng_alien HX8.out) (Off.set _ _ _ _)
         have HO9 := hid ((HO7.out.trans (Off.below hb8)).trans (Off.set w8 w.heap.size 0 (.slice b8 n8 c8)))
         have HB9 := hid ((below_deep HB7.out hb8).setCell (p := ⟨w.heap.size, 0, none⟩) (Nat.le_refl _) (.slice b8 n8 c8))
         clear h8 hb8 PS x0 x1 x2 x3 x4 hsum
         go_wp2
         go_roundw
         case rel => exact ⟨t + 1, b8, n8, c8, by omega, by go_num, HX9, HC9, HO9, HB9⟩
         case measure => simp [intOf]; omega
       · obtain rfl : t = wn := by omega
         have HCW : Hid (ChainsIn wr cb2 cn2 cc2 (goE e p).chains) := by
           have := HCR.out
           rw [List.take_of_length_le (by rw [← HWN.out]; exact Nat.le_refl _)] at this
           show ChainsIn _ _ _ _ _
           rw [HGE.out]
           exact this
         have HLO := hid (HL6.out.put HX6.out HOF.out)
         have HLW : Hid (EngLies wr cb2 cn2 cc2 (some ⟨b2, o2, none⟩) dn dc (some ⟨b1, o1, none⟩) sn sc eb en ec ⟨(goE e p).chains, e.deeds, e.state, e.ends, e.base⟩) := ⟨HCW.out, HLO.out.de, HLO.out.st, HLO.out.en, HLO.out.dk, HLO.out.sk, HLO.out.ek⟩
         have HZR := hid (box_off HZ6.out HOF.out (by omega))
         have HDR := hid (box_off HBD.out HOF.out (by omega))
         have HFN : Hid (goE e p = ⟨(goE e p).chains, e.deeds, e.state.set p 1, e.ends.set p (f, r), e.base⟩) := by
           show _ = _
           rw [← HEND.out]
           rfl
         clear HCR HLO HOF HAL HX6 HZ6 HL6 HDW6 HH6 HBW6 HBD HCW HCH HRR HFIT HEND
         have hsn0 : 0 < sn := by have := HSN.out; omega
         have hen0 : 0 < en := by have := HEN.out; omega
         have hpe : (p : Int) < (en : Int) := by rw [HEN.out]; exact hpi
         have NS1 : Hid ((0 + sn) * 8 ≤ 140737488355328) := by show _ ≤ _; have := HSN.out; omega
         have NE1 : Hid ((0 + en) * 40 ≤ 140737488355328) := by show _ ≤ _; have := HEN.out; omega
         have R1 := hid (lit_row wr wr.heap.size 3 1 (Nat.le_refl _))
         have S1 := hid (step_box (Below.refl wr.heap.size wr) (.cells #[] 3))
         have HLS := hid (HLW.out.st.below (by decide) (grew wr (.cells #[] 3)))
         have O1 := hid (intsC_one e.state)
         have x2 := HXR.out.cells5.2.2.1
         have hxr : w.heap.size < wr.heap.size := HXR.out.lt
         go_wp2_with (at_builtin; refine wpList_onto _ rfl _ _ 23 3 1 8 _ Tryz.underlying23 intInfo rfl (by decide) (by decide) rfl wr.heap.size _ 0 [] rfl R1.out (some ⟨b1, o1, none⟩) sn sc (intsC e.state) rfl HLS.out O1.out NS1.out S1.out.size ?_)
         intro v9 w9 hown9 hg9
         have HB9 := hid (step_row S1.out R1.out hg9)
         have HO9 : Hid (w9.ownsRow wr.heap.size 3 1 v9 sn (intsC e.state)) := by
           show World.ownsRow _ _ _ _ _ _ _
           simpa using hown9
         obtain ⟨g, gc, rfl⟩ : ∃ g gc, v9 = .slice (some ⟨g, 0, none⟩) sn gc := by
           rcases HO9.out.2 with ⟨_, h0⟩ | ⟨g, cap, cur, h', _⟩
           · omega
           · exact ⟨g, cap, h'⟩
         have hgb := HO9.out.lt g rfl
         have hgne : w.heap.size ≠ g := by omega
         have HF9 := hid (put_state HXR.out HLW.out HZR.out (by omega) HBR.out (Nat.le_refl _) (HB9.out.setCell (p := ⟨g, p, none⟩) hgb.1 (.int .i64 1)) (ints_stored HO9.out p 1))
         have HDF9 := hid (((HDR.out.below HB9.out).far ⟨w.heap.size, 2, none⟩ (by simp; omega) (.slice (some ⟨g, 0, none⟩) sn gc)).far ⟨g, p, none⟩ (by simp; have := HDR.out.lt; omega) (.int .i64 1))
         rw [← set_comm w9 2 p (.slice (some ⟨g, 0, none⟩) sn gc) (.int .i64 1) hgne] at HF9
         have HOX := hid (owns_off HO9.out (Off.set w9 w.heap.size 2 (.slice (some ⟨g, 0, none⟩) sn gc)) (by simp [Value.ownBlock]; omega))
         have HXX := hid ((HXR.out.below HB9.out).set 2 (.slice (some ⟨g, 0, none⟩) sn gc))
         have z9 := (HXR.out.below HB9.out).cells5.2.2.1
         have f9 := (HXR.out.below HB9.out).free 2
         have hz9 : w.heap.size < w9.heap.size := (HXR.out.below HB9.out).lt
         clear hown9 hg9 HLS R1 S1 NS1 O1 x2 HB9 HO9 HXR HLW HZR HBR HDR
         go_upto_region 23 with fail
         generalize w9.setCell ⟨w.heap.size, 2, none⟩ (.slice (some ⟨g, 0, none⟩) sn gc) = W9 at *
         have x2 := HXX.out.cells5.2.2.1
         have hx9 : w.heap.size < W9.heap.size := HXX.out.lt
         have hgp := World.ownsRow.cellAt HOX.out p (by have := HSN.out; omega)
         rw [intsC_at HSP.out.1] at hgp
         have hgf := World.ownsRow.frozenAt HOX.out p
         have hgl : g < W9.heap.size := (HOX.out.lt g rfl).2
         clear z9 f9 hz9
         go_upto_region 24 with fail
         generalize W9.setCell ⟨g, p, none⟩ (.int .i64 1) = V at *
         clear x2 hgp hgf hgl HOX HXX hx9
         have HXV := hid HF9.out.1
         have HLV := hid HF9.out.2.1
         have HZV := hid HF9.out.2.2.1
         have HBV := hid HF9.out.2.2.2
         have HDV := hid HDF9.out
         have R1 := hid (lit_row V V.heap.size 83 5 (Nat.le_refl _))
         have S1 := hid (step_box (Below.refl V.heap.size V) (.cells #[] 83))
         have HLS := hid (HLV.out.en.below (by decide) (grew V (.cells #[] 83)))
         have O1 := hid (endCells_one e.ends)
         have x3 := HXV.out.cells5.2.2.2.1
         have hxv : w.heap.size < V.heap.size := HXV.out.lt
         clear HF9 HDF9
         go_wp2_with (at_builtin; refine wpList_onto _ rfl _ _ 31 83 5 40 _ Tryz.underlying31 doneInfo rfl (by decide) (by decide) rfl V.heap.size _ 0 [] rfl R1.out eb en ec (endCells e.ends) rfl HLS.out O1.out NE1.out S1.out.size ?_)
         intro v10 w10 hown10 hg10
         have HB10 := hid (step_row S1.out R1.out hg10)
         have HO10 : Hid (w10.ownsRow V.heap.size 83 5 v10 en (endCells e.ends)) := by
           show World.ownsRow _ _ _ _ _ _ _
           simpa using hown10
         obtain ⟨h, hc, rfl⟩ : ∃ h hc, v10 = .slice (some ⟨h, 0, none⟩) en hc := by
           rcases HO10.out.2 with ⟨_, h0⟩ | ⟨g, cap, cur, h', _⟩
           · omega
           · exact ⟨g, cap, h'⟩
         have hhb := HO10.out.lt h rfl
         have hhne : w.heap.size ≠ h := by omega
         have HF10 := hid (put_ends HXV.out HLV.out HZV.out (by omega) HBV.out (Nat.le_refl _) (fiveAt_below (p * 5) f (r 0) (r 1) (r 2) (r 3) hhb.1 HB10.out) (ends_stored HO10.out HSP.out.2 (f, r)))
         rw [← five_comm w10 3 (p * 5) (.slice (some ⟨h, 0, none⟩) en hc) f (r 0) (r 1) (r 2) (r 3) hhne] at HF10
         have HOX := hid (owns_off HO10.out (Off.set w10 w.heap.size 3 (.slice (some ⟨h, 0, none⟩) en hc)) (by simp [Value.ownBlock]; omega))
         have HXX := hid ((HXV.out.below HB10.out).set 3 (.slice (some ⟨h, 0, none⟩) en hc))
         have HDX := hid ((HDV.out.below HB10.out).far ⟨w.heap.size, 3, none⟩ (by simp; omega) (.slice (some ⟨h, 0, none⟩) en hc))
         have z10 := (HXV.out.below HB10.out).cells5.2.2.2.1
         have f10 := (HXV.out.below HB10.out).free 3
         have hz10 : w.heap.size < w10.heap.size := (HXV.out.below HB10.out).lt
         clear hown10 hg10 HLS R1 S1 NE1 O1 x3 HB10 HO10 HXV HLV HZV HBV HDV
         go_upto_region 25 with fail
         generalize w10.setCell ⟨w.heap.size, 3, none⟩ (.slice (some ⟨h, 0, none⟩) en hc) = W10 at *
         have x3 := HXX.out.cells5.2.2.2.1
         have hx10 : w.heap.size < W10.heap.size := HXX.out.lt
         obtain ⟨d0, d1, d2, d3, d4⟩ := HDX.out.cells5
         have hd10 : w5.heap.size < W10.heap.size := HDX.out.lt
         have hcell : ∀ o, o < en * 5 → ∃ u, W10.cell? ⟨h, o, none⟩ = some u := fun o ho => by
           rw [World.ownsRow.cellAt HOX.out o ho]
           have := HOX.out.1
           exact ⟨_, List.getElem?_eq_getElem (by omega)⟩
         obtain ⟨u0, q0⟩ := hcell (p * 5) (by have := HEN.out; omega)
         obtain ⟨u1, q1⟩ := hcell (p * 5 + 1) (by have := HEN.out; omega)
         obtain ⟨u2, q2⟩ := hcell (p * 5 + 2) (by have := HEN.out; omega)
         obtain ⟨u3, q3⟩ := hcell (p * 5 + 3) (by have := HEN.out; omega)
         obtain ⟨u4, q4⟩ := hcell (p * 5 + 4) (by have := HEN.out; omega)
         have e0 := World.ownsRow.frozenAt HOX.out (p * 5)
         have e1 := World.ownsRow.frozenAt HOX.out (p * 5 + 1)
         have e2 := World.ownsRow.frozenAt HOX.out (p * 5 + 2)
         have e3 := World.ownsRow.frozenAt HOX.out (p * 5 + 3)
         have e4 := World.ownsRow.frozenAt HOX.out (p * 5 + 4)
         have hhl : h < W10.heap.size := (HOX.out.lt h rfl).2
         clear hcell z10 f10 hz10
         unfold fiveAt at HF10
         go_upto_region 26 with fail
         generalize ((((W10.setCell ⟨h, p * 5, none⟩ (.bool f)).setCell ⟨h, p * 5 + 1, none⟩ (.int .i64 (r 0))).setCell ⟨h, p * 5 + 2, none⟩ (.int .i64 (r 1))).setCell ⟨h, p * 5 + 3, none⟩ (.int .i64 (r 2))).setCell ⟨h, p * 5 + 4, none⟩ (.int .i64 (r 3)) = U at *
         clear x3 hx10 d0 d1 d2 d3 d4 hd10 q0 q1 q2 q3 q4 e0 e1 e2 e3 e4 hhl HOX HXX HDX
         have HXU := hid HF10.out.1
         have HLU : Hid (EngLies U cb2 cn2 cc2 (some ⟨b2, o2, none⟩) dn dc (some ⟨g, 0, none⟩) sn gc (some ⟨h, 0, none⟩) en hc (goE e p)) := by
           show EngLies _ _ _ _ _ _ _ _ _ _ _ _ _ _
           rw [HFN.out]
           exact HF10.out.2.1
         have HZU := hid HF10.out.2.2.1
         have HBU := hid HF10.out.2.2.2
         obtain ⟨x0, x1, x2, x3, x4⟩ := HXU.out.cells5
         obtain ⟨z0, z1, z2, z3, z4⟩ := HZU.out.cells5
         obtain ⟨f0, f1, f2, f3, f4⟩ := HZU.out.free5
         have hxu : w.heap.size < U.heap.size := HXU.out.lt
         have hzu : w.heap.size + 1 < U.heap.size := HZU.out.lt
         have HBF := hid (put5_box HZU.out (.slice cb2 cn2 cc2) (.slice (some ⟨b2, o2, none⟩) dn dc) (.slice (some ⟨g, 0, none⟩) sn gc) (.slice (some ⟨h, 0, none⟩) en hc) (.int .i64 e.base))
         have HBE := hid (put5_below HBU.out (Nat.le_succ _) (.slice cb2 cn2 cc2) (.slice (some ⟨b2, o2, none⟩) dn dc) (.slice (some ⟨g, 0, none⟩) sn gc) (.slice (some ⟨h, 0, none⟩) en hc) (.int .i64 e.base))
         have HLF := hid (HLU.out.put HZU.out (put5_off U (w.heap.size + 1) (.slice cb2 cn2 cc2) (.slice (some ⟨b2, o2, none⟩) dn dc) (.slice (some ⟨g, 0, none⟩) sn gc) (.slice (some ⟨h, 0, none⟩) en hc) (.int .i64 e.base)))
         unfold put5 at HBF HBE HLF
         clear HF10
         go_wp2
         (try simp only [Exit.inBlock, Exit.then])
         refine bodyPost_ret (refGoE_results _ (w.heap.size + 1) _ rfl rfl HBF.out) rfl ?_
         refine ⟨_, by rw [HT.out], ?_, HBE.out⟩
         rw [HT.out]
         exact ⟨_, _, _, _, _, _, _, _, _, _, _, _, rfl, HLF.out⟩
end Go.Proofs.YtlhaeeenkgkdaaaGreatDoor
