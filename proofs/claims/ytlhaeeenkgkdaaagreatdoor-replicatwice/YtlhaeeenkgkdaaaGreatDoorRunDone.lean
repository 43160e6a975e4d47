/-
  'do' of the program, walked: an engine of the call's own, of which one deed more is done.
-/
import Derived.Test.YtlhaeeenkgkdaaaGreatDoorRunDo
namespace Go.Proofs.YtlhaeeenkgkdaaaGreatDoor
open Go.RowKit

theorem runDo_results (tmps : Array Value) (b : Nat) (w : World) {a0 a1 a2 a3 : Option Addr} {n0 n1 n2 n3 c0 c1 c2 c3 : Nat} {z : Int} (h : tmps.getD 4 undef = .pointer (some ⟨b, 0, none⟩)) (hb : Box w b #[.slice a0 n0 c0, .slice a1 n1 c1, .slice a2 n2 c2, .slice a3 n3 c3, .int .i64 z] 33) :
   (results Tryz.f65 tmps).run Tryz.prog w = .ok (.agg #[.slice a0 n0 c0, .slice a1 n1 c1, .slice a2 n2 c2, .slice a3 n3 c3, .int .i64 z]) w := by
 have h' : tmps[4]?.getD undef = .pointer (some ⟨b, 0, none⟩) := by simpa using h
 obtain ⟨k0, k1, k2, k3, k4⟩ := hb.cells5
 simp [results, Tryz.results65, go_sem, h', k0, k1, k2, k3, k4]
theorem box_ne {w : World} {b b' : Nat} {cs cs' : Array Value} {t t' : TypeId} (h : Box w b cs t) (h' : Box w b' cs' t') (hne : t ≠ t') : b ≠ b' := by
 rintro rfl
 unfold Box at h h'
 rw [h] at h'
 simp only [Option.some.injEq, Obj.cells.injEq] at h'
 exact hne h'.2.1
structure Three3 (A wx : World) (d5 d6 d7 : Nat) (rb : Option Addr) (rn rc : Nat) (wb : Option Addr) (wn wcc : Nat) (xb : Option Addr) (xn xc : Nat) (y : Int) (cb : Option Addr) (cn cc : Nat) : Prop where
 bd : Box wx d5 #[.slice rb rn rc, .slice wb wn wcc, .slice xb xn xc] 44
 bn : Box wx d6 #[.int .i64 y] 3
 bc : Box wx d7 #[.slice cb cn cc] 30
 bel : Below A.heap.size A wx
theorem three_laid (A : World) (c1 c2 c3 : Array Value) (t1 t2 t3 : TypeId) :
   Box (((A.alloc (.cells c1 t1)).alloc (.cells c2 t2)).alloc (.cells c3 t3)).drew A.heap.size c1 t1 ∧ Box (((A.alloc (.cells c1 t1)).alloc (.cells c2 t2)).alloc (.cells c3 t3)).drew (A.heap.size + 1) c2 t2 ∧ Box (((A.alloc (.cells c1 t1)).alloc (.cells c2 t2)).alloc (.cells c3 t3)).drew (A.heap.size + 1 + 1) c3 t3 ∧ Below A.heap.size A (((A.alloc (.cells c1 t1)).alloc (.cells c2 t2)).alloc (.cells c3 t3)).drew := by
 have g1 := grew A (.cells c1 t1)
 have g2 := grew (A.alloc (.cells c1 t1)) (.cells c2 t2)
 have g3 := grew ((A.alloc (.cells c1 t1)).alloc (.cells c2 t2)) (.cells c3 t3)
 have b2 := Box.new (A.alloc (.cells c1 t1)) c2 t2
 have b3 := Box.new ((A.alloc (.cells c1 t1)).alloc (.cells c2 t2)) c3 t3
 rw [World.size_alloc] at b2
 rw [World.size_alloc, World.size_alloc] at b3
 exact ⟨(((Box.new A c1 t1).below g2).below g3).drew, (b2.below g3).drew, b3.drew, step_drew (below_deep (below_deep g1 g2) g3)⟩

theorem five_off (w : World) (g o : Nat) (f : Bool) (x0 x1 x2 x3 : Int) : Off g w (fiveAt w g o f x0 x1 x2 x3) :=
 ((((Off.set _ _ _ _).trans (Off.set _ _ _ _)).trans (Off.set _ _ _ _)).trans (Off.set _ _ _ _)).trans (Off.set _ _ _ _)
theorem own_else {w : World} {b B e s n g n' c : Nat} {xs : List Value} {cs : Array Value} {t : TypeId} (h : w.ownsRow B e s (.slice (some ⟨g, 0, none⟩) n' c) n xs) (hb : Box w b cs t) (hne : t ≠ e) : b ≠ g := fun k => own_ne h hb hne (by rw [k]; rfl)
theorem wrote_any {wr W : World} {cb : Option Addr} {B g h n2 sc n3 ec p cn cc : Nat} {v1 : Value} {e : Eng} (he : EngOwn wr B cb cn cc v1 (.slice (some ⟨g, 0, none⟩) n2 sc) (.slice (some ⟨h, 0, none⟩) n3 ec) e) (h2 : n2 = e.state.length) (h3 : n3 = e.ends.length) (hp : p < e.ends.length) (f : Bool) (r : Nat → Int)
   (hW : W = fiveAt (wr.setCell ⟨g, p, none⟩ (.int .i64 1)) h (p * 5) f (r 0) (r 1) (r 2) (r 3) ∨ W = (fiveAt wr h (p * 5) f (r 0) (r 1) (r 2) (r 3)).setCell ⟨g, p, none⟩ (.int .i64 1)) :
   EngOwn W B cb cn cc v1 (.slice (some ⟨g, 0, none⟩) n2 sc) (.slice (some ⟨h, 0, none⟩) n3 ec) ⟨e.chains, e.deeds, e.state.set p 1, e.ends.set p (f, r), e.base⟩ ∧ (∀ (b : Nat) (cs : Array Value) (t : TypeId), Box wr b cs t → t ≠ 3 → t ≠ 83 → Box W b cs t) ∧ (∀ w0, Below B w0 wr → Below B w0 W) := by
 have hg := he.st.lt g rfl
 have hh := he.en.lt h rfl
 rcases hW with rfl | rfl
 · have k1 := own_setState he h2 (p := p) 1
   refine ⟨own_setEnds k1 h3 hp (f, r), fun b cs t hb n1 n2 => ?_, fun w0 hb => ?_⟩
   · have b1 := box_off hb (Off.set wr g p (.int .i64 1)) (own_else he.st hb n1)
     exact box_off b1 (five_off _ _ _ _ _ _ _ _) (own_else he.en hb n2)
   · exact fiveAt_below _ _ _ _ _ _ hh.1 (hb.setCell (p := ⟨g, p, none⟩) hg.1 _)
 · have k1 := own_setEnds he h3 hp (f, r)
   refine ⟨own_setState k1 h2 (p := p) 1, fun b cs t hb n1 n2 => ?_, fun w0 hb => ?_⟩
   · have b1 := box_off hb (five_off wr h (p * 5) f (r 0) (r 1) (r 2) (r 3)) (own_else he.en hb n2)
     exact box_off b1 (Off.set _ g p (.int .i64 1)) (own_else he.st hb n1)
   · exact (fiveAt_below _ _ _ _ _ _ hh.1 hb).setCell (p := ⟨g, p, none⟩) hg.1 _
theorem verCells_off {b : Nat} {w w' : World} {base : Option Addr} {n c : Nat} {l : List (ByteArray × Option Int)} (h : Lies w 4 base n c (verCells l)) (ha : Alien w b) (ho : Off b w w') : Lies w' 4 base n c (verCells l) := by
 refine Lies.off h ho ?_
 by_cases h0 : n = 0
 · exact .inl h0
 · refine .inr fun a e hab => ?_
   have hlen := h.len
   rw [verCells_length] at hlen
   have hl : 0 < l.length := by omega
   rcases h.run with h1 | ⟨bl, o, e1, hr⟩
   · exact h0 h1
   · rw [e1] at e; cases e
     have k1 := hr (0 * 4 + 1) (.bool true) (verCells_at l 0 hl 1 _ (by rw [verCell_is]; rfl))
     have k2 := hr (0 * 4 + 2) (.bool (l.getD 0 default).2.isSome) (verCells_at l 0 hl 2 _ (by rw [verCell_is]; rfl))
     simp only at hab
     subst hab
     exact ha.two _ _ _ k1 k2

set_option maxHeartbeats 16000000 in
set_option maxRecDepth 100000 in
theorem runDo_calls {r0 : List Row} {D : List Deed3} {m : Nat} {dq : Nat → Bool} {bq : ByteArray → Int} {e : Eng} (G : Good r0 D m dq bq e) (hD : D.length ≤ 1954687338211) (p : Nat) (hp : p ∈ readyE e) (B : Nat) (cb : Option Addr) (cn cc : Nat) (v1 v2 v3 : Value) (w : World)
   (he : EngOwn w B cb cn cc v1 v2 v3 e) (hB : B ≤ w.heap.size) :
   Calls Tryz.prog 65 #[.agg #[.slice cb cn cc, v1, v2, v3, .int .i64 e.base], .int .i64 p] w fun x w' => OwnTold w w' B (goE e p) x ∧ KeepsB w w' := by
 have hmf : ∀ (fn : Fn) (first cap : Array Value) (w : World), (Instr.makeFunc fn first cap).run Tryz.prog w = .ok (.func fn first cap) w := fun _ _ _ _ => rfl
 have hstf : ∀ (a : Addr) (fn : Fn) (first caps : Array Value) (m : Mode) (W : World), (store a (.func fn first caps) m).run Tryz.prog W = stored Tryz.prog W a (.func fn first caps) m := fun _ _ _ _ _ _ => run_store _ _ _ _ _ rfl
 have hcf := doBef_in
 unfold Entered at hcf
 have hpD := (ready_at G hp).1
 have hn := ready_needs hp
 have hpl : p < e.deeds.length := ready_lt hp
 have hRD : RightDD (e.deeds.getD p default) := by rw [G.deed]; exact rights_at G.right hpD
 have hle := G.le
 have hz0 : 0 ≤ e.base := by rw [G.base]; omega
 have hz1 : e.base ≤ 1954687338211 := by rw [G.base]; omega
 have hdm : e.deeds.length ≤ 1954687338211 := by rw [G.len]; omega
 have HFIT := hid (G.fit hD)
 have HFITS := hid (fun (R : List Row) (t : Nat) => G.fit_set hD hRD.w (e.base + p) R t)
 have HRD := hid hRD
 have HSM := hid (fun r mk f hx k hk => set_made G hpD hn (r := r) (mk := mk) (f := f) hx (k := k) hk)
 have HBF := hid (fun k hk => sees_bef G hpD hn (k := k) hk)
 have HSL := hid G.slen
 have HEL := hid G.elen
 have HGE : Hid (goE e p = ⟨setW (e.base + p) (doD (seesE e p) (e.deeds.getD p default)) (e.deeds.getD p default).2.1 e.chains, e.deeds, e.state.set p 1, e.ends.set p (endD (seesE e p) (e.deeds.getD p default)), e.base⟩) := rfl
 obtain ⟨db, dc, sb, sc, eb, ec, rfl, rfl, rfl, -⟩ := he.lies
 have HBX := hid (Box.new w #[.slice cb cn cc, .slice db e.deeds.length dc, .slice sb e.state.length sc, .slice eb e.ends.length ec, .int .i64 e.base] 33)
 have HB0 := hid (grew w (.cells #[.slice cb cn cc, .slice db e.deeds.length dc, .slice sb e.state.length sc, .slice eb e.ends.length ec, .int .i64 e.base] 33))
 have HBZ := hid (Box.new (w.alloc (.cells #[.slice cb cn cc, .slice db e.deeds.length dc, .slice sb e.state.length sc, .slice eb e.ends.length ec, .int .i64 e.base] 33)) zeroA 33)
 have HB1 := hid (grew (w.alloc (.cells #[.slice cb cn cc, .slice db e.deeds.length dc, .slice sb e.state.length sc, .slice eb e.ends.length ec, .int .i64 e.base] 33)) (.cells zeroA 33))
 rw [World.size_alloc] at HBZ
 have HX := hid (HBX.out.below HB1.out)
 have HBW := hid (below_deep HB0.out HB1.out)
 have HE := hid (he.below HBW.out)
 have HBB := hid hB
 clear G hD hp hn hpD hRD hle he hB HBX HB0 HB1
 go_enter Tryz.func65, Tryz.ntmps65
 go_upto_region 1 with fail
 generalize (w.alloc (.cells #[.slice cb cn cc, .slice db e.deeds.length dc, .slice sb e.state.length sc, .slice eb e.ends.length ec, .int .i64 e.base] 33)).alloc (.cells zeroA 33) = A at *
 obtain ⟨x0, x1, x2, x3, x4⟩ := HX.out.cells5
 have hxl : w.heap.size < A.heap.size := HX.out.lt
 have hpi : (p : Int) < (e.deeds.length : Int) := by omega
 have hsum : IntKind.i64.wrap (e.base + (p : Int)) = e.base + p := by rw [IntKind.wrap_i64]; omega
 have HLA := hid HE.out.lies
 obtain ⟨b2, o2, rb, rn, rc, wb, wn, wcc, xb, xn, xc, rfl, j0, j1, j2, HSD⟩ : ∃ b2 o2 rb rn rc wb wn wcc xb xn xc, db = some ⟨b2, o2, none⟩ ∧ A.cell? ⟨b2, o2 + p * 3, none⟩ = some (.slice rb rn rc) ∧ A.cell? ⟨b2, o2 + p * 3 + 1, none⟩ = some (.slice wb wn wcc) ∧ A.cell? ⟨b2, o2 + p * 3 + 2, none⟩ = some (.slice xb xn xc) ∧ Hid (DSlotK A ((rb, rn, rc), (wb, wn, wcc), (xb, xn, xc)) (e.deeds.getD p default)) := by
   obtain ⟨T, ho, hT⟩ := HE.out.de
   obtain ⟨db', dc', e1, hl⟩ := Lies.owned ho
   simp only [Value.slice.injEq, true_and] at e1
   obtain ⟨rfl, rfl⟩ := e1
   have hpT : p < T.length := by rw [hT.1]; exact hpl
   rcases hl.run with h | ⟨b2, o2, rfl, hr⟩
   · omega
   · exact ⟨b2, o2, _, _, _, _, _, _, _, _, _, rfl, hr.at_ dslotC_length hpT (j := 0) rfl, hr.at_ dslotC_length hpT (j := 1) rfl, hr.at_ dslotC_length hpT (j := 2) rfl, hT.2 p hpl⟩
 have hb2 : b2 < A.heap.size := by simpa using World.block_lt_of_cell? _ _ j0
 go_cut [5, 6, 7] (fun p5 p6 p7 wx => ∃ d5 d6 d7 : Nat, p5 = .pointer (some ⟨d5, 0, none⟩) ∧ p6 = .pointer (some ⟨d6, 0, none⟩) ∧ p7 = .pointer (some ⟨d7, 0, none⟩) ∧ Hid (Three3 A wx d5 d6 d7 rb rn rc wb wn wcc xb xn xc (e.base + p) cb cn cc))
 case first =>
   clear HFIT HFITS HRD HSM HBF HSL HEL HGE HBZ HX HBW HE HBB HLA HSD
   have hxl1 : w.heap.size < A.heap.size + 1 := by omega
   have hxl2 : w.heap.size < A.heap.size + 2 := by omega
   have hxl3 : w.heap.size < A.heap.size + 1 + 1 := by omega
   have hb21 : b2 < A.heap.size + 1 := by omega
   have hb22 : b2 < A.heap.size + 2 := by omega
   have hb23 : b2 < A.heap.size + 1 + 1 := by omega
   go_region
   all_goals
     go_wp2
     go_meet
   all_goals
     refine ⟨_, _, _, rfl, rfl, rfl, ?_⟩
     have HT := three_laid A
     first
       | exact ⟨(HT _ _ _ _ _ _).1, (HT _ _ _ _ _ _).2.1, (HT _ _ _ _ _ _).2.2.1, (HT _ _ _ _ _ _).2.2.2⟩
       | exact ⟨(HT _ _ _ _ _ _).1, (HT _ _ _ _ _ _).2.2.1, (HT _ _ _ _ _ _).2.1, (HT _ _ _ _ _ _).2.2.2⟩
       | exact ⟨(HT _ _ _ _ _ _).2.1, (HT _ _ _ _ _ _).1, (HT _ _ _ _ _ _).2.2.1, (HT _ _ _ _ _ _).2.2.2⟩
       | exact ⟨(HT _ _ _ _ _ _).2.1, (HT _ _ _ _ _ _).2.2.1, (HT _ _ _ _ _ _).1, (HT _ _ _ _ _ _).2.2.2⟩
       | exact ⟨(HT _ _ _ _ _ _).2.2.1, (HT _ _ _ _ _ _).1, (HT _ _ _ _ _ _).2.1, (HT _ _ _ _ _ _).2.2.2⟩
       | exact ⟨(HT _ _ _ _ _ _).2.2.1, (HT _ _ _ _ _ _).2.1, (HT _ _ _ _ _ _).1, (HT _ _ _ _ _ _).2.2.2⟩
 case rest =>
   obtain ⟨d5, d6, d7, rfl, rfl, rfl, HT⟩ := hcut
   have HXC := hid (HX.out.below HT.out.bel)
   have HZC := hid (HBZ.out.below HT.out.bel)
   have HEC := hid (HE.out.below HT.out.bel)
   have HSC := hid (HSD.out.below HT.out.bel)
   have HBC := hid (below_deep HBW.out HT.out.bel)
   have HV : Hid (∀ (t : TypeId) k, k ∈ (e.deeds.getD p default).1 → Tells (wc.alloc (.cells #[.func (.func 80) #[] #[.pointer (some ⟨d7, 0, none⟩), .pointer (some ⟨d6, 0, none⟩)]] t)) 82 #[.pointer (some ⟨wc.heap.size, 0, none⟩)] k (num k (seesE e p))) := by
     intro t k hk w0 hb0
     have hg := grew wc (.cells #[.func (.func 80) #[] #[.pointer (some ⟨d7, 0, none⟩), .pointer (some ⟨d6, 0, none⟩)]] t)
     refine (doSees_calls e.chains cb cn cc k (e.base + p) d7 d6 wc.heap.size w0 HFIT.out ((HEC.out.ch.chains.below hg).below hb0) (((HT.out.bc.below hg).below hb0).cell 0 _ rfl) (((HT.out.bn.below hg).below hb0).cell 0 _ rfl) (kept_cell hb0 (box_cell wc _ t 0 _ rfl))).mono ?_
     rintro x w' ⟨rfl, hb⟩
     obtain ⟨_, h2, h3⟩ := HBF.out k (keysD_mem.2 (.inl hk))
     exact ⟨⟨_, _, rfl, num_told h2 h3⟩, hb⟩
   have HRUN := hid (fun t => run_calls (e.deeds.getD p default).1 (e.deeds.getD p default).2.1 (e.deeds.getD p default).2.2 rb rn rc wb wn wcc xb xn xc 82 #[.pointer (some ⟨wc.heap.size, 0, none⟩)] (fun k => num k (seesE e p)) (wc.alloc (.cells #[.func (.func 80) #[] #[.pointer (some ⟨d7, 0, none⟩), .pointer (some ⟨d6, 0, none⟩)]] t)) (HSC.out.1.1.below (grew _ _)) HSC.out.1.2.1 HSC.out.1.2.2 (right_wDeed HRD.out) doSees_in (HV.out t))
   have y0 := HT.out.bd.cell 0 _ rfl
   have y1 := HT.out.bd.cell 1 _ rfl
   have y2 := HT.out.bd.cell 2 _ rfl
   have hd5 : d5 < wc.heap.size := HT.out.bd.lt
   clear x0 x1 x2 x3 x4 hxl j0 j1 j2 hb2 HX HBZ HE HSD HBW HLA
   go_wp2_with fail
   refine (HRUN.out _).mono ?_
   rintro x w1 ⟨r, mk, f, vb, vn, vc, kb, kn, kc, hex, rfl, hv1, hv2, hb1⟩
   have HEX := hid hex
   have HG8 := hid (below_deep (grew wc (.cells #[.func (.func 80) #[] #[.pointer (some ⟨d7, 0, none⟩), .pointer (some ⟨d6, 0, none⟩)]] _)) hb1)
   have HF8 := hid (kept_cell hb1 (box_cell wc #[.func (.func 80) #[] #[.pointer (some ⟨d7, 0, none⟩), .pointer (some ⟨d6, 0, none⟩)]] _ 0 _ rfl))
   have HVS := hid hv1
   have HKS := hid hv2
   have HGD := hid (grew w1 (.cells #[.bool f, .int .i64 (r 0), .int .i64 (r 1), .int .i64 (r 2), .int .i64 (r 3)] 83))
   have HBD := hid (Box.new w1 #[.bool f, .int .i64 (r 0), .int .i64 (r 1), .int .i64 (r 2), .int .i64 (r 3)] 83)
   have HB2 := hid (below_deep HG8.out HGD.out)
   have HN9 : Hid (w1.heap.size ≠ w.heap.size) := by
     have h1 := HXC.out.lt
     have h2 := HG8.out.size
     show _ ≠ _
     omega
   have HF82 := hid (kept_cell HGD.out HF8.out)
   have HVS2 := hid (HVS.out.below (by decide) HGD.out)
   have HKS2 := hid (HKS.out.below (by decide) HGD.out)
   have HEND := hid (run_end (p := p) hex)
   have HSMX := hid (fun k hk => HSM.out r mk f hex k hk)
   have HVN : Hid (vn = (keysOf (madeL f mk (e.deeds.getD p default).2.1)).length) := by
     have h1 := hv1.len
     rw [verCells_length] at h1
     show _ = _
     rw [keysOf_length]
     have h2 : (madeL f mk (e.deeds.getD p default).2.1).length * 4 = vn * 4 := h1
     omega
   clear hex hv1 hv2 hb1 HRUN HV y0 y1 y2 hd5 HG8 HF8 HVS HKS HSM HBF
   go_upto_region 5 with fail
   generalize w1.alloc (.cells #[.bool f, .int .i64 (r 0), .int .i64 (r 1), .int .i64 (r 2), .int .i64 (r 3)] 83) = A2 at *
   have HX2 := hid (HXC.out.below HB2.out)
   have HZ2 := hid (HZC.out.below HB2.out)
   have HE2 := hid (HEC.out.below HB2.out)
   have HS2 := hid (HSC.out.below HB2.out)
   have HT5 := hid (HT.out.bd.below HB2.out)
   have HT6 := hid (HT.out.bn.below HB2.out)
   have HT7 := hid (HT.out.bc.below HB2.out)
   have HN6 := hid (box_ne HT.out.bn HXC.out (by decide))
   have HN7 := hid (box_ne HT.out.bc HXC.out (by decide))
   have HN8 : Hid (wc.heap.size ≠ w.heap.size) := by
     have := HXC.out.lt
     show _ ≠ _
     omega
   have HBW2 := hid (below_deep HBC.out HB2.out)
   have HWN : Hid (wn = (e.deeds.getD p default).2.1.length) := Texts.count HS2.out.1.1.tw
   have hwn5 : wn ≤ 5 := by rw [HWN.out]; exact wKeys_len HRD.out.w
   have HCH := hid HE2.out.ch
   have y1 := HT5.out.cell 1 _ rfl
   have hd5 : d5 < A2.heap.size := HT5.out.lt
   have HB0 : Hid (Below B w A2) := below_lowerB HBW2.out HBB.out
   clear HT HXC HZC HEC HSC HBC
   generalize hLR : doD (seesE e p) (e.deeds.getD p default) = LR at *
   have HLR := hid hLR
   clear hLR
   go_wp2
   go_loopw [40] (fun i wr => ∃ (t : Nat) (cb2 : Option Addr) (cn2 cc2 : Nat), t ≤ wn ∧ i = .int .i64 t ∧ Hid (Box wr w.heap.size #[.slice cb2 cn2 cc2, .slice (some ⟨b2, o2, none⟩) e.deeds.length dc, .slice sb e.state.length sc, .slice eb e.ends.length ec, .int .i64 e.base] 33) ∧ Hid (ChK wr cb2 cn2 cc2 (setW (e.base + p) LR ((e.deeds.getD p default).2.1.take t) e.chains)) ∧ Hid (Off w.heap.size A2 wr) ∧ Hid (Below B w wr)) (fun i _ => wn - (intOf i).toNat)
   case atStart => exact ⟨0, cb, cn, cc, Nat.zero_le _, rfl, HX2, HCH, Off.refl _ _, HB0⟩
   case round =>
     obtain ⟨t, cb2, cn2, cc2, ht, rfl, HXR, HCR, HOF, HBR⟩ := hrel
     by_cases htl : t < wn
     · have htW : t < (e.deeds.getD p default).2.1.length := by rw [← HWN.out]; exact htl
       have hit : (t : Int) < (wn : Int) := by omega
       have HSR := hid (HS2.out.off HX2.out (by decide) (by decide) HOF.out)
       obtain ⟨b4, o4, rfl, hr4⟩ : ∃ b4 o4, wb = some ⟨b4, o4, none⟩ ∧ Run wr b4 o4 (strs (e.deeds.getD p default).2.1) := by
         have htw : Texts wr wb wn wcc (e.deeds.getD p default).2.1 := HSR.out.1.1.tw
         rcases htw.run with h | h
         · omega
         · exact h
       have g0 := hr4 t _ (strs_at htW)
       have hb4w : b4 < wr.heap.size := by simpa using World.block_lt_of_cell? _ _ g0
       have HKZ : Hid (((e.deeds.getD p default).2.1.getD t default).size ≤ maxLen) := HS2.out.1.2.2 _ (getD_in htW)
       have HSK := hid (HSMX.out _ (getD_in htW))
       have HTK : Hid (setW (e.base + p) LR ((e.deeds.getD p default).2.1.take (t + 1)) e.chains = setC ((e.deeds.getD p default).2.1.getD t default) (e.base + p, true, isAt ((e.deeds.getD p default).2.1.getD t default) LR, num ((e.deeds.getD p default).2.1.getD t default) LR) (setW (e.base + p) LR ((e.deeds.getD p default).2.1.take t) e.chains)) := by
         show _ = _
         rw [take_snoc_getD htW, setW_snoc]
       clear hr4
       generalize (e.deeds.getD p default).2.1.getD t default = k at *
       have y6 := (box_off HT6.out HOF.out HN6.out).cell 0 _ rfl
       have y7 := (box_off HT7.out HOF.out HN7.out).cell 0 _ rfl
       have y8 := HOF.out.cell HN8.out HF82.out
       have hd6 : d6 < wr.heap.size := by simpa using World.block_lt_of_cell? _ _ y6
       have hd8 : wc.heap.size < wr.heap.size := by simpa using World.block_lt_of_cell? _ _ y8
       have PBE := hid (doBef_calls e.chains cb cn cc k (e.base + p) d7 d6 wr HFIT.out (HCH.out.off HX2.out (by decide) (by decide) HOF.out).chains y7 y6)
       go_wp2_with fail
       refine PBE.out.mono ?_
       rintro x w4 ⟨y, mm, hh, n2, hbf, rfl, hb4⟩
       have HBF := hid hbf
       have HB4 := hid (below_deep hb4 (grew w4 (.cells #[.int .i64 y, .bool mm, .bool hh, .int .i64 n2] 78)))
       have HFO := hid (Four.box w4 y mm hh n2 78)
       have HFR := hid (Free4.box w4 #[.int .i64 y, .bool mm, .bool hh, .int .i64 n2] 78)
       have HWR4 := hid hb4.size
       have HKS4 := hid (Texts.off HKS2.out (eng_alien HX2.out).text HOF.out)
       have PIX := hid (indexAt_calls (keysOf (madeL f mk (e.deeds.getD p default).2.1)) kb kn kc k (w4.alloc (.cells #[.int .i64 y, .bool mm, .bool hh, .int .i64 n2] 78)) (HKS4.out.below (by decide) HB4.out))
       clear hbf hb4 PBE y6 y7 y8 g0 hd6 hd8 hb4w
       go_wp2_with fail
       refine PIX.out.mono ?_
       rintro x w5 ⟨⟨ix, rfl, hix⟩, rfl⟩
       generalize w4.alloc (.cells #[.int .i64 y, .bool mm, .bool hh, .int .i64 n2] 78) = A4 at *
       generalize w4.heap.size = bv at *
       clear PIX
       have HX4 := hid (HXR.out.below HB4.out)
       have x4 := HX4.out.cells5.1
       have hx4 : w.heap.size < A4.heap.size := HX4.out.lt
       have y6 := ((box_off HT6.out HOF.out HN6.out).below HB4.out).cell 0 _ rfl
       have hd6 : d6 < A4.heap.size := by simpa using World.block_lt_of_cell? _ _ y6
       obtain ⟨v0, v1, v2, v3⟩ := HFO.out
       obtain ⟨f0, f1, f2, f3⟩ := HFR.out
       have hvl : bv < A4.heap.size := HFO.out.lt
       have HVX : bv ≠ w.heap.size := by have := HXR.out.lt; have := HWR4.out; omega
       have HVD : d6 ≠ bv := by have := (box_off HT6.out HOF.out HN6.out).lt; have := HWR4.out; omega
       have HVD2 : bv ≠ d6 := Ne.symm HVD
       rcases hix with ⟨rfl, hno⟩ | ⟨j, hj, rfl, hjk⟩
       · have HTN : Hid ((e.base + (p : Int), mm, hh, n2) = (e.base + (p : Int), true, isAt k LR, num k LR)) := by
           obtain ⟨m1, m2, m3⟩ := HSK.out.2 hno
           rw [HBF.out] at m1 m2 m3
           show _ = _
           simp only [Ver.made, Ver.has_, Ver.n] at m1 m2 m3
           rw [m1, m2, m3]
         have HB5 := hid (HB4.out.setCell (p := ⟨bv, 0, none⟩) HWR4.out (.int .i64 (e.base + (p : Int))))
         have PS := hid (setC_callsK (setW (e.base + p) LR ((e.deeds.getD p default).2.1.take t) e.chains) cb2 cn2 cc2 k (e.base + p) mm hh n2 (A4.setCell ⟨bv, 0, none⟩ (.int .i64 (e.base + (p : Int)))) (HFITS.out LR t) (HCR.out.chains.below HB5.out) HKZ.out)
         rw [HTN.out, ← HTK.out] at PS
         have HX5 := hid (HXR.out.below HB5.out)
         clear hno HTN
         go_wp2_with fail
         refine PS.out.mono ?_
         rintro x w8 ⟨b8, n8, c8, rfl, h8, hb8⟩
         have HX8 := hid (HX5.out.below hb8)
         have g8 := HX8.out.cells5.1
         have fr8 := HX8.out.free 0
         have hx8 : w.heap.size < w8.heap.size := HX8.out.lt
         have HX9 := hid (HX8.out.set 0 (.slice b8 n8 c8))
         have HC9 := hid (h8.off HX8.out (by decide) (by decide) (Off.set w8 w.heap.size 0 (.slice b8 n8 c8)))
         have HO9 := hid (((HOF.out.trans (Off.below HB5.out)).trans (Off.below hb8)).trans (Off.set w8 w.heap.size 0 (.slice b8 n8 c8)))
         have HB9 := hid (((HBR.out.trans (below_lowerB HB5.out (Nat.le_trans HBB.out (Nat.le_of_lt HXR.out.lt)))).trans (below_lowerB hb8 (Nat.le_trans HBB.out (Nat.le_of_lt HX5.out.lt)))).setCell (p := ⟨w.heap.size, 0, none⟩) HBB.out (.slice b8 n8 c8))
         clear h8 hb8 PS v0 v1 v2 v3 f0 f1 f2 f3 x4 y6 hx4 hvl
         go_wp2
         go_roundw
         case rel => exact ⟨t + 1, b8, n8, c8, by omega, by go_num, HX9, HC9, HO9, HB9⟩
         case measure => simp [intOf]; omega
       · obtain ⟨o, ho, m2, m3⟩ := HSK.out.1 j hj hjk
         have hjV : j < (madeL f mk (e.deeds.getD p default).2.1).length := by rw [← keysOf_length]; exact hj
         have hjn : j < vn := by rw [HVN.out]; exact hj
         have hji : (j : Int) < (vn : Int) := by omega
         have HVS4 := hid ((verCells_off HVS2.out (eng_alien HX2.out) HOF.out).below (by decide) HB4.out)
         obtain ⟨b6, o6, rfl, hr6⟩ : ∃ b6 o6, vb = some ⟨b6, o6, none⟩ ∧ Run A4 b6 o6 (verCells (madeL f mk (e.deeds.getD p default).2.1)) := by
           rcases HVS4.out.run with h | h
           · omega
           · exact h
         have hcell := fun q u (hq : (verCell ((madeL f mk (e.deeds.getD p default).2.1).getD j default).2)[q]? = some u) => hr6 (j * 4 + q) u (verCells_at _ j hjV q u hq)
         rw [ho, verCell_is] at hcell
         have c0 := hcell 0 _ rfl
         have c1 := hcell 1 _ rfl
         have c2 := hcell 2 _ rfl
         have c3 := hcell 3 _ rfl
         have e0 : o6 + (j * 4 + 0) = o6 + j * 4 := by omega
         have e1 : o6 + (j * 4 + 1) = o6 + j * 4 + 1 := by omega
         have e2 : o6 + (j * 4 + 2) = o6 + j * 4 + 2 := by omega
         have e3 : o6 + (j * 4 + 3) = o6 + j * 4 + 3 := by omega
         rw [e0] at c0
         rw [e1] at c1
         rw [e2] at c2
         rw [e3] at c3
         have HTN : Hid ((e.base + (p : Int), true, o.isSome, o.getD 0) = (e.base + (p : Int), true, isAt k LR, num k LR)) := by
           show _ = _
           rw [m2, m3]
         have hb6 : b6 < A4.heap.size := by simpa using World.block_lt_of_cell? _ _ c0
         have HB5 := hid (((((HB4.out.setCell (p := ⟨bv, 0, none⟩) HWR4.out (.int .i64 0)).setCell (p := ⟨bv, 1, none⟩) HWR4.out (.bool true)).setCell (p := ⟨bv, 2, none⟩) HWR4.out (.bool o.isSome)).setCell (p := ⟨bv, 3, none⟩) HWR4.out (.int .i64 (o.getD 0))).setCell (p := ⟨bv, 0, none⟩) HWR4.out (.int .i64 (e.base + (p : Int))))
         have PS := hid (setC_callsK (setW (e.base + p) LR ((e.deeds.getD p default).2.1.take t) e.chains) cb2 cn2 cc2 k (e.base + p) true o.isSome (o.getD 0) _ (HFITS.out LR t) (HCR.out.chains.below HB5.out) HKZ.out)
         rw [HTN.out, ← HTK.out] at PS
         have HX5 := hid (HXR.out.below HB5.out)
         clear HTN hr6 hcell e0 e1 e2 e3 m2 m3 ho hjk hjV hj
         generalize o.isSome = oh at *
         generalize o.getD 0 = on at *
         go_wp2_with fail
         refine PS.out.mono ?_
         rintro x w8 ⟨b8, n8, c8, rfl, h8, hb8⟩
         have HX8 := hid (HX5.out.below hb8)
         have g8 := HX8.out.cells5.1
         have fr8 := HX8.out.free 0
         have hx8 : w.heap.size < w8.heap.size := HX8.out.lt
         have HX9 := hid (HX8.out.set 0 (.slice b8 n8 c8))
         have HC9 := hid (h8.off HX8.out (by decide) (by decide) (Off.set w8 w.heap.size 0 (.slice b8 n8 c8)))
         have HO9 := hid (((HOF.out.trans (Off.below HB5.out)).trans (Off.below hb8)).trans (Off.set w8 w.heap.size 0 (.slice b8 n8 c8)))
         have HB9 := hid (((HBR.out.trans (below_lowerB HB5.out (Nat.le_trans HBB.out (Nat.le_of_lt HXR.out.lt)))).trans (below_lowerB hb8 (Nat.le_trans HBB.out (Nat.le_of_lt HX5.out.lt)))).setCell (p := ⟨w.heap.size, 0, none⟩) HBB.out (.slice b8 n8 c8))
         clear h8 hb8 PS v0 v1 v2 v3 f0 f1 f2 f3 x4 y6 hx4 hvl c0 c1 c2 c3
         go_wp2
         go_roundw
         case rel => exact ⟨t + 1, b8, n8, c8, by omega, by go_num, HX9, HC9, HO9, HB9⟩
         case measure => simp [intOf]; omega
     · obtain rfl : t = wn := by omega
       have HCW : Hid (ChK wr cb2 cn2 cc2 (setW (e.base + p) LR (e.deeds.getD p default).2.1 e.chains)) := by
         have := HCR.out
         rw [List.take_of_length_le (by rw [← HWN.out]; exact Nat.le_refl _)] at this
         exact this
       have HEW := hid ((HE2.out.put HX2.out HOF.out).chains HCW.out)
       have HZR := hid (box_off HZ2.out HOF.out (by omega))
       have HDR := hid (box_off HBD.out HOF.out HN9.out)
       have HKR : Hid (∀ (b : Nat) (cs : Array Value) (t : TypeId), Box w b cs t → Box wr b cs t) := fun b cs t h => box_off (h.below HBW2.out) HOF.out (Nat.ne_of_lt h.lt)
       have HBRW := hid HBR.out
       obtain ⟨g, rfl⟩ : ∃ g, sb = some ⟨g, 0, none⟩ := by
         rcases HEW.out.st.2 with ⟨_, h0⟩ | ⟨g, cap, cur, h', _⟩
         · have := HSL.out
           have h1 : e.state.length = 0 := h0
           omega
         · simp only [Value.slice.injEq] at h'
           exact ⟨g, h'.1⟩
       obtain ⟨h, rfl⟩ : ∃ h, eb = some ⟨h, 0, none⟩ := by
         rcases HEW.out.en.2 with ⟨_, h0⟩ | ⟨g, cap, cur, h', _⟩
         · have := HEL.out
           have h1 : e.ends.length = 0 := h0
           omega
         · simp only [Value.slice.injEq] at h'
           exact ⟨g, h'.1⟩
       have hps : (p : Int) < (e.state.length : Int) := by have := HSL.out; omega
       have hpe : (p : Int) < (e.ends.length : Int) := by have := HEL.out; omega
       have HPE : Hid (p < e.ends.length) := by show _ < _; have := HEL.out; omega
       have HWA := hid (fun W hW => wrote_any (W := W) HEW.out rfl rfl HPE.out f r hW)
       obtain ⟨u0, q0⟩ : ∃ u, wr.cell? ⟨g, p, none⟩ = some u := by
         rw [World.ownsRow.cellAt HEW.out.st p (by show p < e.state.length * 1; omega)]
         have := HEW.out.st.1
         exact ⟨_, List.getElem?_eq_getElem (by rw [intsC_length]; show p < e.state.length; omega)⟩
       have hcell : ∀ o, o < e.ends.length * 5 → ∃ u, wr.cell? ⟨h, o, none⟩ = some u := fun o ho => by
         rw [World.ownsRow.cellAt HEW.out.en o ho]
         have := HEW.out.en.1
         exact ⟨_, List.getElem?_eq_getElem (by rw [endCells_length]; exact ho)⟩
       obtain ⟨w0', z0⟩ := hcell (p * 5) (by have := HPE.out; omega)
       obtain ⟨w1', z1⟩ := hcell (p * 5 + 1) (by have := HPE.out; omega)
       obtain ⟨w2', z2⟩ := hcell (p * 5 + 2) (by have := HPE.out; omega)
       obtain ⟨w3', z3⟩ := hcell (p * 5 + 3) (by have := HPE.out; omega)
       obtain ⟨w4', z4⟩ := hcell (p * 5 + 4) (by have := HPE.out; omega)
       have fg := World.ownsRow.frozenAt HEW.out.st p
       have e0 := World.ownsRow.frozenAt HEW.out.en (p * 5)
       have e1 := World.ownsRow.frozenAt HEW.out.en (p * 5 + 1)
       have e2 := World.ownsRow.frozenAt HEW.out.en (p * 5 + 2)
       have e3 := World.ownsRow.frozenAt HEW.out.en (p * 5 + 3)
       have e4 := World.ownsRow.frozenAt HEW.out.en (p * 5 + 4)
       obtain ⟨k0, k1, k2, k3, k4⟩ := HDR.out.cells5
       obtain ⟨x0, x1, x2, x3, x4⟩ := HXR.out.cells5
       have hne1 : w.heap.size ≠ g := own_else HEW.out.st HXR.out (by decide)
       have hne2 : w.heap.size ≠ h := own_else HEW.out.en HXR.out (by decide)
       have hne3 : w1.heap.size ≠ g := own_else HEW.out.st HDR.out (by decide)
       have hne4 : g ≠ h := by
         rcases rows_apart HEW.out.st HEW.out.en (by decide) with h | h
         · cases h
         · exact fun k => h (by rw [k]; rfl)
       have hne1' := Ne.symm hne1
       have hne2' := Ne.symm hne2
       have hne3' := Ne.symm hne3
       have hne4' := Ne.symm hne4
       have hlg := (HEW.out.st.lt g rfl).2
       have hlh := (HEW.out.en.lt h rfl).2
       have hlx := HXR.out.lt
       have hld := HDR.out.lt
       clear hcell HCR HOF HBR HX2 HE2 HS2 HT5 HT6 HT7 HBW2 HCH y1 hd5 HB0 HFIT HFITS HSMX HF82 HVS2 HKS2
       go_wp2
       go_cut [65] (fun _ wx => Hid (EngOwn wx B cb2 cn2 cc2 (.slice (some ⟨b2, o2, none⟩) e.deeds.length dc) (.slice (some ⟨g, 0, none⟩) e.state.length sc) (.slice (some ⟨h, 0, none⟩) e.ends.length ec) ⟨setW (e.base + p) LR (e.deeds.getD p default).2.1 e.chains, e.deeds, e.state.set p 1, e.ends.set p (f, r), e.base⟩) ∧ Hid (∀ (b : Nat) (cs : Array Value) (t : TypeId), Box wr b cs t → t ≠ 3 → t ≠ 83 → Box wx b cs t) ∧ Hid (Below B w wx))
       case first =>
         clear HEW HZR HDR HKR HPE HCW HXR HGE HZ2 HN9 HLR HRD HSL HEL HB2 HBD HGD HN6 HN7 HN8 HWN HVN
         go_region
         all_goals
           go_wp2
           go_meet
         case rel =>
           have k := HWA.out _ (.inl rfl)
           exact ⟨k.1.below (step_drew (Below.refl _ _)), fun b cs t hb n1 n2 => (k.2.1 b cs t hb n1 n2).drew, (k.2.2 w HBRW.out).drew⟩
       case rest =>
         obtain ⟨HEF, HKF, HBF⟩ := hcut
         clear HWA k0 k1 k2 k3 k4 x0 x1 x2 x3 x4 e0 e1 e2 e3 e4 fg z0 z1 z2 z3 z4 q0 hlx hld hlg hlh HEW HDR HBRW HCW hne1 hne2 hne3 hne4 hne1' hne2' hne3' hne4' hps hpe hpi
         have HXF := hid (HKF.out _ _ _ HXR.out (by decide) (by decide))
         have HZF := hid (HKF.out _ _ _ HZR.out (by decide) (by decide))
         obtain ⟨x0, x1, x2, x3, x4⟩ := HXF.out.cells5
         obtain ⟨z0, z1, z2, z3, z4⟩ := HZF.out.cells5
         obtain ⟨f0, f1, f2, f3, f4⟩ := HZF.out.free5
         have hlx := HXF.out.lt
         have hlz := HZF.out.lt
         have HBX5 := hid (put5_box HZF.out (.slice cb2 cn2 cc2) (.slice (some ⟨b2, o2, none⟩) e.deeds.length dc) (.slice (some ⟨g, 0, none⟩) e.state.length sc) (.slice (some ⟨h, 0, none⟩) e.ends.length ec) (.int .i64 e.base))
         have HEX5 := hid (HEF.out.put HZF.out (put5_off _ (w.heap.size + 1) (.slice cb2 cn2 cc2) (.slice (some ⟨b2, o2, none⟩) e.deeds.length dc) (.slice (some ⟨g, 0, none⟩) e.state.length sc) (.slice (some ⟨h, 0, none⟩) e.ends.length ec) (.int .i64 e.base)))
         have HBL5 := hid (put5_below HBF.out (Nat.le_trans HBB.out (Nat.le_succ _)) (.slice cb2 cn2 cc2) (.slice (some ⟨b2, o2, none⟩) e.deeds.length dc) (.slice (some ⟨g, 0, none⟩) e.state.length sc) (.slice (some ⟨h, 0, none⟩) e.ends.length ec) (.int .i64 e.base))
         have HKB : Hid (KeepsB w (put5 wc (w.heap.size + 1) (.slice cb2 cn2 cc2) (.slice (some ⟨b2, o2, none⟩) e.deeds.length dc) (.slice (some ⟨g, 0, none⟩) e.state.length sc) (.slice (some ⟨h, 0, none⟩) e.ends.length ec) (.int .i64 e.base))) := fun b cs y hb _ n2 n3 => put5_far (HKF.out b cs y (HKR.out b cs y hb) n2 n3) (Nat.ne_of_lt (Nat.lt_of_lt_of_le hb.lt (Nat.le_succ _))) _ _ _ _ _
         have HGO : Hid (goE e p = ⟨setW (e.base + p) LR (e.deeds.getD p default).2.1 e.chains, e.deeds, e.state.set p 1, e.ends.set p (f, r), e.base⟩) := by
           show _ = _
           rw [HGE.out, HEND.out]
         unfold put5 at HBX5 HEX5 HBL5 HKB
         clear HEF HKF HBF HXF HXR HZR HKR
         go_wp2
         (try simp only [Exit.inBlock, Exit.then])
         refine bodyPost_ret (runDo_results _ (w.heap.size + 1) _ rfl HBX5.out) rfl ?_
         rw [HGO.out]
         exact ⟨⟨_, _, _, _, _, _, rfl, HEX5.out, HBL5.out⟩, HKB.out⟩
end Go.Proofs.YtlhaeeenkgkdaaaGreatDoor
