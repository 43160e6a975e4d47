/-
  The closed fact that the statements of chapter 9 ask first is so.
  The statement LogByte of the program is true of any entry, any place and any byte.
-/
import Derived.Test.YthmkgfdglkdjmaeGreatDoorLogCut
import Derived.Test.YthmkgfdglkdjmaeGreatDoorLogRead
import Derived.Test.YthmkgfdglkdjmaeGreatDoorLogOwn
namespace Go.Proofs.YthmkgfdglkdjmaeGreatDoor
open Go.RowKit

theorem read9_results (tmps : Array Value) (b : Nat) (w : World) {x y z : Value} (h2 : tmps.getD 2 undef = .pointer (some ⟨b, 0, none⟩)) (h : Three w b x y z) (hx : ∃ p q r, x = .slice p q r) (hy : ∃ p q r, y = .slice p q r) (hz : ∃ p q r, z = .slice p q r) :
    (results Tryz.f11 tmps).run Tryz.prog w = .ok (.agg #[x, y, z]) w := by
  have h2' : tmps[2]?.getD undef = .pointer (some ⟨b, 0, none⟩) := by simpa using h2
  obtain ⟨_, _, _, rfl⟩ := hx
  obtain ⟨_, _, _, rfl⟩ := hy
  obtain ⟨_, _, _, rfl⟩ := hz
  simp [results, Tryz.results11, go_sem, h2', h.c0, h.c1, h.c2]

set_option maxRecDepth 100000 in
set_option maxHeartbeats 2000000 in
theorem read9_calls (s : ByteArray) (d : Deed3) (w : World) (hG : GroundN w) (hs : s.size ≤ maxLen) (hd : readT (keyT s) = (0, d.1, d.2.1, d.2.2)) :
    Calls Tryz.prog 11 #[.string s] w fun e w' => ReadTold w w' d e := by
  have HA0 := hid (three_new w (.slice none 0 0) (.slice none 0 0) (.slice none 0 0) 39)
  have HG0 := hid (grew w (.cells #[.slice none 0 0, .slice none 0 0, .slice none 0 0] 39))
  have HP := hid (refParse_calls s _ (hG.below HG0.out) hs)
  rw [hd] at HP
  clear hG hs hd
  go_enter Tryz.func11, Tryz.ntmps11
  go_wp2_with fail
  refine HP.out.mono ?_
  rintro e w1 ⟨rb, rn, rc, wb, wn, wc, cb, cn, cc, rfl, hdi, hb1, f0, f1, f2⟩
  have q0 := (HA0.out.below hb1).c0
  have q1 := (HA0.out.below hb1).c1
  have q2 := (HA0.out.below hb1).c2
  have g0 := (HA0.out.below hb1).free 0
  have g1 := (HA0.out.below hb1).free 1
  have g2 := (HA0.out.below hb1).free 2
  have hlt := (HA0.out.below hb1).lt
  have hlt0 : w.heap.size < (w.alloc (.cells #[.slice none 0 0, .slice none 0 0, .slice none 0 0] 39)).heap.size := by rw [World.size_alloc]; omega
  have HDF : Hid (DeedIn ((setThree w1 w.heap.size (.slice rb rn rc) (.slice wb wn wc) (.slice cb cn cc)).alloc (.cells #[.slice rb rn rc, .slice wb wn wc, .slice cb cn cc] 39)) rb rn rc wb wn wc cb cn cc d.1 d.2.1 d.2.2) :=
    DeedIn.below ⟨three_lies f0 hlt0 hdi.tr, three_lies f1 hlt0 hdi.tw, three_lies f2 hlt0 hdi.cd⟩ (grew _ _)
  have HBF := hid (below_deep (below_three (below_deep HG0.out hb1) (Nat.le_refl w.heap.size) (.slice rb rn rc) (.slice wb wn wc) (.slice cb cn cc)) (grew _ (.cells #[.slice rb rn rc, .slice wb wn wc, .slice cb cn cc] 39)))
  have HTH := hid (((HA0.out.below hb1).all (.slice rb rn rc) (.slice wb wn wc) (.slice cb cn cc)).below (grew _ (.cells #[.slice rb rn rc, .slice wb wn wc, .slice cb cn cc] 39)))
  unfold setThree at HDF HBF HTH
  clear hdi hb1 f0 f1 f2
  go_wp2
  (try simp only [Exit.inBlock, Exit.then])
  refine bodyPost_ret (read9_results _ w.heap.size _ rfl ⟨HTH.out.c0, HTH.out.c1, HTH.out.c2⟩ ⟨_, _, _, rfl⟩ ⟨_, _, _, rfl⟩ ⟨_, _, _, rfl⟩) rfl ?_
  exact ⟨_, _, _, _, _, _, _, _, _, rfl, HDF.out, HBF.out⟩

/-- One deed in a slice that was just laid. -/
theorem deeds_just (w : World) (rb : Option Addr) (rn rc : Nat) (wb : Option Addr) (wn wc : Nat) (cb : Option Addr) (cn cc : Nat) (d : Deed3) (h : DeedIn w rb rn rc wb wn wc cb cn cc d.1 d.2.1 d.2.2) (s : SmallT d.1 ∧ SmallT d.2.1) :
    DeedsIn (w.alloc (.cells #[.slice rb rn rc, .slice wb wn wc, .slice cb cn cc] 39)) (some ⟨w.heap.size, 0, none⟩) 1 1 [d] := by
  have hb := grew w (.cells #[.slice rb rn rc, .slice wb wn wc, .slice cb cn cc] 39)
  refine ⟨rfl, ⟨Nat.le_refl _, by unfold maxLen; omega, fun h => by cases h⟩, .inr ⟨_, _, rfl, fun i hi => ?_⟩⟩
  obtain rfl : i = 0 := by omega
  exact ⟨rb, rn, rc, wb, wn, wc, cb, cn, cc, box_cell w _ _ 0 _ rfl, box_cell w _ _ 1 _ rfl, box_cell w _ _ 2 _ rfl, h.below hb, s.1, s.2⟩
def logE : Ent := (3, [sevD])
theorem logE_right : RightEnt logE := ⟨by decide, by decide, by decide, fun d hd => by
  simp [logE] at hd
  rw [hd]; exact sevRight⟩
theorem logE_len : (bytesE logE).length = 43 := by
  rw [bytesE_length]
  have h : unlines ([sevD].map printD) = sevT ++ [10] := by
    have : printD sevD = sevT := sev_text
    simp [unlines, this]
  show (UInt8.ofNat _ :: unlines (logE.2.map printD)).length + 2 = 43
  rw [show logE.2 = [sevD] from rfl, h]
  rfl
theorem logE_few : FewE 1048576 [logE] := fun i hi => by
  obtain rfl : i = 0 := by simp at hi; omega
  refine ⟨by decide, fun j hj => ?_⟩
  obtain rfl : j = 0 := by
    have : j < 1 := hj
    omega
  exact ⟨by decide, by decide, by decide⟩

set_option maxRecDepth 100000 in
set_option maxHeartbeats 8000000 in
theorem llive_calls (w : World) (hG : Ground w) : Calls Tryz.prog 5 #[] w fun e w' => e = .returned (.bool true) ∧ Below w.heap.size w w' := by
  have HPA : Hid (∀ s : ByteArray, keyT s = sevT → Calls Tryz.prog 11 #[.string s] w fun e w' => ReadTold w w' sevD e) := fun s e => by
    have hz := keyT_len s
    have hl : sevT.length = 39 := by decide
    exact read9_calls s sevD w hG.num (by rw [e] at hz; unfold maxLen; omega) (by rw [e]; exact sev_read)
  have HG := hid hG
  clear hG
  go_enter Tryz.func5, Tryz.ntmps5
  go_wp2_with fail
  refine (HPA.out _ ?_).mono ?_
  · rfl
  rintro e w1 ⟨rb, rn, rc, wb, wn, wc, cb, cn, cc, rfl, hdi, hb1⟩
  have HG1 := hid (grew w1 (.cells #[.slice rb rn rc, .slice wb wn wc, .slice cb cn cc] 39))
  have HDS := hid (deeds_just w1 rb rn rc wb wn wc cb cn cc sevD hdi sev_small)
  have HB1 := hid (below_deep hb1 HG1.out)
  clear hdi hb1 HPA
  go_upto_region 2 with fail
  have HGA := hid (grew (w1.alloc (.cells #[.slice rb rn rc, .slice wb wn wc, .slice cb cn cc] 39)) (.cells #[.int .i64 3, .slice (some ⟨w1.heap.size, 0, none⟩) 1 1] 24))
  have HBX := hid (Box.new (w1.alloc (.cells #[.slice rb rn rc, .slice wb wn wc, .slice cb cn cc] 39)) #[.int .i64 3, .slice (some ⟨w1.heap.size, 0, none⟩) 1 1] 24)
  rw [World.size_alloc] at HBX
  have HDA := hid (HDS.out.below HGA.out)
  have HBA := hid (below_deep HB1.out HGA.out)
  clear HDS HB1 HG1 HGA
  generalize (w1.alloc (.cells #[.slice rb rn rc, .slice wb wn wc, .slice cb cn cc] 39)).alloc (.cells #[.int .i64 3, .slice (some ⟨w1.heap.size, 0, none⟩) 1 1] 24) = A at *
  generalize w1.heap.size = b1 at *
  have HEV : Hid (∀ W, Below A.heap.size A W → EntV W (.agg #[.int .i64 3, .slice (some ⟨b1, 0, none⟩) 1 1]) logE) := fun W hW => ⟨_, _, _, rfl, HDA.out.below hW⟩
  have HBY := hid (logBytes_calls logE _ A (HG.out.below HBA.out) (HEV.out A (Below.refl _ _)) logE_right)
  obtain ⟨y0, y1, yl, -, -⟩ := box2 HBX.out
  go_wp2_with fail
  refine HBY.out.mono ?_
  rintro e w3 ⟨b3, n3, c3, rfl, -, hby, hb3⟩
  obtain rfl : n3 = 43 := by rw [BytesIn.count hby, logE_len]
  have HB3 := hid hb3
  have HPA := hid (logParse_calls (bytesE logE) (some ⟨b3, 0, none⟩) 43 c3 w3 (HG.out.below (below_deep HBA.out hb3)) (by decide) hby)
  rw [read_bytes logE_right] at HPA
  clear hby hb3 HBY y0 y1 yl
  go_wp2_with fail
  refine HPA.out.mono ?_
  rintro e w4 ⟨db, dn, dc, rfl, hd, hb4⟩
  obtain rfl : dn = 1 := hd.len
  have HB4 := hid (below_deep HB3.out hb4)
  have HBX5 := hid (Box.new w4 #[.int .i64 3, .slice db 1 dc] 24)
  have HG5 := hid (grew w4 (.cells #[.int .i64 3, .slice db 1 dc] 24))
  clear hd hb4 HPA
  go_upto_region 4 with fail
  have HB5 := hid (below_deep HB4.out HG5.out)
  have HXE := hid (HBX.out.below HB5.out)
  have e1 : logE.1 = 3 := rfl
  simp only [e1] at *
  clear HB4 HG5
  generalize w4.alloc (.cells #[.int .i64 3, .slice db 1 dc] 24) = A5 at *
  generalize w4.heap.size = b5 at *
  have HW1 := hid (logWrong_calls logE _ A5 (HEV.out A5 HB5.out))
  rw [wrongE_right.2 logE_right] at HW1
  obtain ⟨x0, x1, xl, -, -⟩ := box2 HBX5.out
  obtain ⟨y0, y1, yl, -, -⟩ := box2 HXE.out
  go_wp2_with fail
  refine HW1.out.mono ?_
  rintro e w6 ⟨rfl, hb6⟩
  have HB6 := hid (below_deep HB5.out hb6)
  have HXE6 := hid (HXE.out.below hb6)
  have HW2 := hid (logWrong_calls ((-1 : Int), []) (.agg #[.int .i64 (-1), .slice none 0 0]) w6 ⟨none, 0, 0, rfl, deeds_nil _⟩)
  clear hb6 HW1 x0 x1 xl y0 y1 yl HBX5
  go_wp2_with fail
  refine HW2.out.mono ?_
  rintro e w7 ⟨rfl, hb7⟩
  have HB7 := hid (below_deep HB6.out hb7)
  have HXE7 := hid (HXE6.out.below hb7)
  have HSM := hid (logSum_calls [] none 0 0 w7 (Lies.none _ _))
  clear hb7 HW2 HXE6
  go_wp2_with fail
  refine HSM.out.mono ?_
  rintro e w8 ⟨rfl, rfl⟩
  obtain ⟨y0, y1, yl, -, -⟩ := box2 HXE7.out
  have HG8 := hid (grew w8 (.cells #[.int .i64 3, .slice (some ⟨b1, 0, none⟩) 1 1] 24))
  have HOW := hid (logOwn_calls [logE] (some ⟨w8.heap.size, 0, none⟩) 1 1 _ (by decide) logE_few (ents_one w8 24 logE (some ⟨b1, 0, none⟩) 1 1 (HDA.out.below HB7.out)))
  have HB8 := hid (below_deep HBA.out (below_deep HB7.out HG8.out))
  go_wp2_with fail
  refine HOW.out.mono ?_
  rintro e w9 ⟨b9, c9, rfl, -, hb9⟩
  have HB9 := hid (below_deep HB8.out hb9)
  clear hb9
  go_wp2
  go_ret
  exact ⟨rfl, HB9.out⟩
end Go.Proofs.YthmkgfdglkdjmaeGreatDoor

namespace Go.Proofs.YthmkgfdglkdjmaeGreatDoor
open Go.RowKit

theorem bytesE_few {x : Ent} (h : RightEnt x) : (bytesE x).length ≤ 2600 := by
  obtain ⟨h0, h1, h2, h3⟩ := h
  have hu : ∀ l : List Deed3, RightDs l → (unlines (l.map printD)).length ≤ 401 * l.length := by
    intro l
    induction l with
    | nil => intro _; simp [unlines]
    | cons d l ih =>
      intro hl
      have h1 := ih (fun x hx => hl x (by simp [hx]))
      have h2 : (printD d).length ≤ 400 := print_len (hl d (by simp))
      rw [List.map_cons, unlines_cons, List.length_append, List.length_cons, List.length_cons]
      omega
  have := hu x.2 h3
  rw [bytesE_length]
  show (UInt8.ofNat _ :: unlines (x.2.map printD)).length + 2 ≤ 2600
  rw [List.length_cons]
  omega
theorem bytesC_set (l : T) (i : Nat) (c : UInt8) : bytesC (l.set i c) = (bytesC l).set i (.int .u8 (c.toNat : Int)) := by simp [bytesC, List.map_set]
/-- Bytes in memory of the call's own, of which one is turned. -/
theorem bytes_turn {w : World} {B g n cap i : Nat} {l : T} (h : w.ownsRow B 5 1 (.slice (some ⟨g, 0, none⟩) n cap) n (bytesC l)) (hi : i < n) (c : UInt8) :
    w.cell? ⟨g, i, none⟩ = some (.int .u8 ((l.getD i 0).toNat : Int)) ∧ w.frozen? ⟨g, i, none⟩ = false ∧ g < w.heap.size ∧ B ≤ g ∧ BytesIn (w.setCell ⟨g, i, none⟩ (.int .u8 (c.toNat : Int))) (some ⟨g, 0, none⟩) n cap (l.set i c) := by
  obtain ⟨b, cc, e, hl⟩ := Lies.owned h
  simp only [Value.slice.injEq] at e
  obtain ⟨rfl, -, rfl⟩ := e
  have hn := BytesIn.count hl
  have hrun : Run w g 0 (bytesC l) := by
    rcases hl.run with h0 | ⟨b', o', e, hr⟩
    · omega
    · cases e; exact hr
  have hc := hrun i _ (bytesC_at (by omega))
  rw [Nat.zero_add] at hc
  rcases h.2 with ⟨h0, _⟩ | ⟨g', cap', cur, e, hbg, hg, _⟩
  · cases h0
  simp only [Value.slice.injEq, Option.some.injEq, Addr.mk.injEq, and_true, true_and] at e
  obtain ⟨rfl, rfl⟩ := e
  refine ⟨hc, ?_, (Array.getElem?_eq_some_iff.1 hg).1, hbg, ?_, hl.hdr, .inr ⟨g, 0, rfl, fun j u hu => ?_⟩⟩
  · simp [World.frozen?, hg]
  · rw [bytesC_length, List.length_set]; omega
  · rw [Nat.zero_add]
    rw [bytesC_set] at hu
    by_cases e : j = i
    · subst e
      rw [World.cell?_setCell_same _ _ _ hc]
      rw [List.getElem?_set_self (by rw [bytesC_length]; omega)] at hu
      exact hu
    · rw [set_off (fun h => e h.symm)]
      rw [List.getElem?_set_ne (fun h => e h.symm)] at hu
      have := hrun j u hu
      rwa [Nat.zero_add] at this

set_option maxRecDepth 100000 in
set_option maxHeartbeats 8000000 in
theorem logByte_calls (x : Ent) (v : Value) (at_ : Int) (c : UInt8) (w : World) (hG : Ground w) (hv : EntV w v x) :
    Calls Tryz.prog 4 #[v, .int .i64 at_, .int .u8 (c.toNat : Int)] w fun e w' => e = .returned (.bool true) ∧ Below w.heap.size w w' := by
  have HEV := hid hv
  obtain ⟨db, dn, dc, rfl, hd⟩ := hv
  have HBA := hid (grew w (.cells #[.int .i64 x.1, .slice db dn dc] 24))
  have HBX := hid (Box.new w #[.int .i64 x.1, .slice db dn dc] 24)
  have HGW := hid hG
  have HG := hid (hG.below HBA.out)
  have HEA := hid (HEV.out.below HBA.out)
  clear hd hG HEV
  have hcl := c.toNat_lt
  have HLV := hid (llive_calls _ HG.out)
  go_enter Tryz.func4, Tryz.ntmps4
  go_upto_region 1 with fail
  generalize w.alloc (.cells #[.int .i64 x.1, .slice db dn dc] 24) = A at *
  generalize x.1 = m at *
  go_wp2_with fail
  refine HLV.out.mono ?_
  rintro e w1 ⟨rfl, hb1⟩
  have HB1 := hid hb1
  have HW := hid (refWrongE_calls x _ w1 (HEA.out.below hb1))
  have HX1 := hid (HBX.out.below hb1)
  obtain ⟨y0, y1, yl, -, -⟩ := box2 HX1.out
  have HRT := hid (wrongE_right (e := x))
  generalize wrongE x = p at *
  clear hb1 HLV HBX
  go_wp2_with fail
  refine HW.out.mono ?_
  rintro e w2 ⟨rfl, hb2⟩
  have HB2 := hid (below_deep HB1.out hb2)
  have HX2 := hid (HX1.out.below hb2)
  have HBW2 := hid (below_deep HBA.out HB2.out)
  clear hb2 HW y0 y1 yl HX1
  by_cases hp : p = 0
  case neg =>
    have t := ne_true hp
    clear HRT
    go_wp2
    go_ret
    exact ⟨rfl, HBW2.out⟩
  case pos =>
    have hr := HRT.out.1 hp
    subst hp
    have HRI := hid hr
    have HBY := hid (logBytes_calls x _ w2 (HG.out.below HB2.out) (HEA.out.below HB2.out) hr)
    obtain ⟨y0, y1, yl, -, -⟩ := box2 HX2.out
    have hfew := bytesE_few hr
    have HTU := hid (fun i hi hc => turned_found (e := x) (i := i) (c := c) hi hc)
    clear hr HRT
    generalize bytesE x = l at *
    go_wp2_with fail
    refine HBY.out.mono ?_
    rintro e w3 ⟨b3, n3, c3, rfl, -, hby, hb3⟩
    have hn3 := BytesIn.count hby
    have hn26 : n3 ≤ 2600 := by omega
    have HN3 := hid hn3
    have hcm := Nat.le_trans hby.hdr.le hby.hdr.max
    unfold maxLen at hcm
    have HBI := hid hby
    have HB3 := hid (below_deep HB2.out hb3)
    have HBW3 := hid (below_deep HBA.out HB3.out)
    clear hby hb3 HBY y0 y1 yl hn3
    by_cases h0 : at_ < 0
    · go_wp2
      go_ret
      exact ⟨rfl, HBW3.out⟩
    by_cases h1 : at_ ≥ (n3 : Int)
    · go_wp2
      go_ret
      exact ⟨rfl, HBW3.out⟩
    obtain ⟨i, rfl⟩ : ∃ i : Nat, at_ = i := ⟨at_.toNat, by omega⟩
    have hi : i < n3 := by omega
    obtain ⟨-, hrun⟩ : True ∧ ∀ j u, (bytesC l)[j]? = some u → w3.cell? ⟨b3, 0 + j, none⟩ = some u := by
      rcases HBI.out.run with h | ⟨b', o', e, hr⟩
      · omega
      · cases e; exact ⟨trivial, hr⟩
    have hx := hrun i _ (bytesC_at (by rw [← HN3.out]; exact hi))
    rw [Nat.zero_add] at hx
    have hbl : b3 < w3.heap.size := by simpa using World.block_lt_of_cell? _ _ hx
    have HTI := hid (HTU.out i (by rw [← HN3.out]; exact hi))
    have i0 : (0 : Int) ≤ (i : Int) := by omega
    have i1 : (i : Int) < (n3 : Int) := by omega
    clear hrun HTU
    by_cases he : l.getD i 0 = c
    · rw [he] at hx
      have t : ((c.toNat : Int) == (c.toNat : Int)) = true := by simp
      go_wp2
      go_ret
      exact ⟨rfl, HBW3.out⟩
    have HTF := hid (HTI.out he)
    have t : (((l.getD i 0).toNat : Int) == (c.toNat : Int)) = false := by
      rw [beq_eq_false_iff_ne]
      intro e
      exact he (UInt8.toNat_inj.1 (by omega))
    have HO0 := hid (lit_row w3 w.heap.size 5 1 HBW3.out.size)
    have HGL := hid (grew w3 (.cells #[] 5))
    have HBL := hid (HBI.out.below (by decide) HGL.out)
    have O3 := hid (bytesC_one l)
    have N3 : Hid ((0 + n3) * 1 ≤ 140737488355328) := by show _ ≤ _; omega
    have HWL := hid (below_deep HBW3.out HGL.out)
    have SZ3 := hid HWL.out.size
    generalize (l.getD i 0).toNat = y at *
    go_wp2_with (at_builtin; refine wpList_onto _ rfl _ _ 25 5 1 1 _ Tryz.underlying25 byteInfo rfl (by decide) (by decide) rfl w.heap.size _ 0 [] rfl HO0.out _ n3 _ _ rfl HBL.out O3.out N3.out SZ3.out ?_)
    intro v4 w4 h4 hg4
    have HB4 := hid (HWL.out.grown hg4 SZ3.out (fun g e => by have := (HO0.out.lt g e).1; omega))
    have h5 : w4.ownsRow w.heap.size 5 1 v4 n3 (bytesC l) := by simpa using h4
    obtain ⟨g, cap, rfl⟩ : ∃ g cap, v4 = .slice (some ⟨g, 0, none⟩) n3 cap := by
      rcases h5.2 with ⟨_, h0⟩ | ⟨g, cap, cur, e, _⟩
      · omega
      · exact ⟨g, cap, e⟩
    have HT := hid (bytes_turn h5 hi c)
    obtain ⟨z0, zf, zl, hBg, -⟩ := HT.out
    have HB5 := hid (HB4.out.setCell (p := ⟨g, i, none⟩) hBg (.int .u8 (c.toNat : Int)))
    have HPA := hid (logParse_calls (l.set i c) _ _ _ _ (HGW.out.below HB5.out) (by omega) HT.out.2.2.2.2)
    clear h4 hg4 h5 HO0 HBL HWL SZ3 HB4
    go_wp2_with fail
    refine HPA.out.mono ?_
    rintro e w6 ⟨rb, rn, rc, rfl, -, hb6⟩
    rw [HTF.out]
    have HB6 := hid (below_deep HB5.out (hb6.trans ((grew w6 (.cells #[.int .i64 (readE (l.set i c)).2.1, .slice rb rn rc] 24)).mono hb6.size)))
    clear hb6
    go_wp2
    go_ret
    exact ⟨rfl, HB6.out⟩
end Go.Proofs.YthmkgfdglkdjmaeGreatDoor
