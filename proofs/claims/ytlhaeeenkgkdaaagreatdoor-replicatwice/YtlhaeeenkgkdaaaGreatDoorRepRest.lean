/-
  Clear of the program's tidy, walked.
  The program's New, Clear, Go and Seen of replicas.
-/
import Derived.Test.YtlhaeeenkgkdaaaGreatDoorKeep15
import Derived.Test.YtlhaeeenkgkdaaaGreatDoorRepOwn
import Derived.Test.YtlhaeeenkgkdaaaGreatDoorRepCatch
import Derived.Test.YtlhaeeenkgkdaaaGreatDoorPlanAdd
import Derived.Test.YtlhaeeenkgkdaaaGreatDoorRunDo
import Derived.Deep.RegionHeld3
namespace Go.Proofs.YtlhaeeenkgkdaaaGreatDoor
open Go.RowKit

theorem tidyClear_results (tmps : Array Value) (b : Nat) (w : World) {a0 a1 a2 a3 : Option Addr} {n0 n1 n2 n3 c0 c1 c2 c3 : Nat} {z : Int} (h : tmps.getD 2 undef = .pointer (some ⟨b, 0, none⟩)) (hb : Box w b #[.slice a0 n0 c0, .slice a1 n1 c1, .slice a2 n2 c2, .slice a3 n3 c3, .int .i64 z] 33) :
   (results Tryz.f32 tmps).run Tryz.prog w = .ok (.agg #[.slice a0 n0 c0, .slice a1 n1 c1, .slice a2 n2 c2, .slice a3 n3 c3, .int .i64 z]) w := by
 have h' : tmps[2]?.getD undef = .pointer (some ⟨b, 0, none⟩) := by simpa using h
 obtain ⟨k0, k1, k2, k3, k4⟩ := hb.cells5
 simp [results, Tryz.results32, go_sem, h', k0, k1, k2, k3, k4]
theorem fit_none : FitC [] := ⟨List.Pairwise.nil, (fun c hc => by cases hc), (fun c hc => by cases hc), (fun c hc => by cases hc)⟩
theorem chains_none (w : World) : ChainsIn w none 0 0 [] := ⟨rfl, ⟨Nat.le_refl _, Nat.zero_le _, fun _ => rfl⟩, .inl rfl⟩

set_option maxHeartbeats 16000000 in
set_option maxRecDepth 100000 in
theorem tidyClear_calls {r0 : List Row} {D : List Deed3} {m : Nat} {dq : Nat → Bool} {bq : ByteArray → Int} {e : Eng} (G : Good r0 D m dq bq e) (hD : D.length ≤ 1954687338211) (v : Value) (w : World) (hv : EngIn w v e) :
   Calls Tryz.prog 32 #[v] w fun x w' => EngTold w w' (clearE e (markE e)) x := by
 have hv0 := hv
 obtain ⟨cb, cn, cc, db, dn, dc, sb, sn, sc, eb, en, ec, rfl, hl⟩ := hv
 have hle := G.le
 have hz0 : 0 ≤ e.base := by rw [G.base]; omega
 have hz1 : e.base ≤ 1954687338211 := by rw [G.base]; omega
 have hsl : e.state.length ≤ 1954687338211 := by rw [G.slen, G.len]; omega
 have hmk : markE e ≤ e.state.length := markS_le _
 have hnd : markE e ≤ dn := by rw [hl.de.len, ← G.slen]; exact hmk
 have hns : markE e ≤ sn := by rw [Ints.count hl.st]; exact hmk
 have hne : markE e ≤ en := by rw [Ends.count hl.en, G.elen, ← G.slen]; exact hmk
 have hn4 : markE e ≤ 1954687338211 := by omega
 have HFIT := hid (G.fit hD)
 have HBX := hid (Box.new w #[.slice cb cn cc, .slice db dn dc, .slice sb sn sc, .slice eb en ec, .int .i64 e.base] 33)
 have HB0 := hid (grew w (.cells #[.slice cb cn cc, .slice db dn dc, .slice sb sn sc, .slice eb en ec, .int .i64 e.base] 33))
 have HBZ := hid (Box.new (w.alloc (.cells #[.slice cb cn cc, .slice db dn dc, .slice sb sn sc, .slice eb en ec, .int .i64 e.base] 33)) #[.slice none 0 0, .slice none 0 0, .slice none 0 0, .slice none 0 0, .int .i64 0] 33)
 have HB1 := hid (grew (w.alloc (.cells #[.slice cb cn cc, .slice db dn dc, .slice sb sn sc, .slice eb en ec, .int .i64 e.base] 33)) (.cells #[.slice none 0 0, .slice none 0 0, .slice none 0 0, .slice none 0 0, .int .i64 0] 33))
 rw [World.size_alloc] at HBZ
 have HX := hid (HBX.out.below HB1.out)
 have HBW := hid (below_deep HB0.out HB1.out)
 have HL := hid (hl.below HBW.out)
 have PM := hid (tidyMark_calls e _ _ (hv0.below HBW.out) hsl G.slen G.elen)
 have HCE : Hid (clearE e (markE e) = ⟨clearC (e.base + markE e) e.chains, e.deeds.drop (markE e), e.state.drop (markE e), e.ends.drop (markE e), e.base + markE e⟩) := rfl
 have POW : Hid (∀ v W, EngIn W v ⟨[], e.deeds.drop (markE e), e.state.drop (markE e), e.ends.drop (markE e), e.base + markE e⟩ → Calls Tryz.prog 33 #[v] W fun x w' => EngTold W w' ⟨[], e.deeds.drop (markE e), e.state.drop (markE e), e.ends.drop (markE e), e.base + markE e⟩ x) := fun v W hv => by
   have h1 := G.len
   have h2 := G.slen
   have h3 := G.elen
   refine (planOwnF_calls fit_none ?_ ?_ ?_ ?_ v W hv).mono fun x w' h => own_engTold h
   · show (List.drop _ _).length ≤ _
     rw [List.length_drop]; omega
   · show (List.drop _ _).length ≤ _
     rw [List.length_drop]; omega
   · show (List.drop _ _).length ≤ _
     rw [List.length_drop]; omega
   · intro d hd
     have hd' := List.mem_of_mem_drop hd
     rw [G.deeds] at hd'
     exact G.right d (List.mem_of_mem_drop hd')
 clear G hD hl hle HBX HB0 HB1 hv0 hsl hmk
 generalize markE e = n at *
 go_enter Tryz.func32, Tryz.ntmps32
 go_upto_region 1 with fail
 generalize (w.alloc (.cells #[.slice cb cn cc, .slice db dn dc, .slice sb sn sc, .slice eb en ec, .int .i64 e.base] 33)).alloc (.cells #[.slice none 0 0, .slice none 0 0, .slice none 0 0, .slice none 0 0, .int .i64 0] 33) = A at *
 obtain ⟨x0, x1, x2, x3, x4⟩ := HX.out.cells5
 have hxl : w.heap.size < A.heap.size := HX.out.lt
 go_wp2_with fail
 refine PM.out.mono ?_
 rintro x W ⟨rfl, hb1⟩
 have HX1 := hid (HX.out.below hb1)
 have HZ1 := hid (HBZ.out.below hb1)
 have HL1 := hid (HL.out.below hb1)
 have HBW1 := hid (below_deep HBW.out hb1)
 have hsum : IntKind.i64.wrap (e.base + (n : Int)) = e.base + n := by rw [IntKind.wrap_i64]; omega
 clear x0 x1 x2 x3 x4 hxl hb1 PM HX HBZ HL HBW
 go_upto_region 2 with fail
 obtain ⟨x0, x1, x2, x3, x4⟩ := HX1.out.cells5
 have hxl : w.heap.size < W.heap.size := HX1.out.lt
 have hs1 := slice_run (t := 24) Tryz.underlying24 Tryz.sizeOf44 db dn dc n hnd
 have hs2 := slice_run (t := 23) Tryz.underlying23 Tryz.sizeOf3 sb sn sc n hns
 have hs3 := slice_run (t := 31) Tryz.underlying31 Tryz.sizeOf83 eb en ec n hne
 have HCD := hid (deeds_cut HL1.out.de hnd)
 have HCS := hid (ints_cut HL1.out.st hns)
 have HCN := hid (ends_cut HL1.out.en hne)
 have HKD := hid (kind_cut (c := dc) (k := n) (sz := 3) HL1.out.dk)
 have HKS := hid (kind_cut (c := sc) (k := n) (sz := 1) HL1.out.sk)
 have HKN := hid (kind_cut (c := ec) (k := n) (sz := 5) HL1.out.ek)
 generalize cutB db dc n 3 = db' at *
 generalize cutB sb sc n 1 = sb' at *
 generalize cutB eb ec n 5 = eb' at *
 generalize dn - n = dn' at *
 generalize dc - n = dc' at *
 generalize sn - n = sn' at *
 generalize sc - n = sc' at *
 generalize en - n = en' at *
 generalize ec - n = ec' at *
 have HEW : Hid (∀ w', Below W.heap.size W w' → EngIn w' (.agg #[.slice none 0 0, .slice db' dn' dc', .slice sb' sn' sc', .slice eb' en' ec', .int .i64 (e.base + n)]) ⟨[], e.deeds.drop n, e.state.drop n, e.ends.drop n, e.base + n⟩) := fun w' hb =>
   ⟨_, _, _, _, _, _, _, _, _, _, _, _, rfl, EngLies.below ⟨chains_none W, HCD.out, HCS.out, HCN.out, HKD.out, HKS.out, HKN.out⟩ hb⟩
 go_cut [4] (fun pv wx => ∃ blk cb2 cn2 cc2 db2 dn2 dc2 sb2 sn2 sc2 eb2 en2 ec2, pv = .pointer (some ⟨blk, 0, none⟩) ∧ W.heap.size ≤ blk ∧ Hid (Box wx blk #[.slice cb2 cn2 cc2, .slice db2 dn2 dc2, .slice sb2 sn2 sc2, .slice eb2 en2 ec2, .int .i64 (e.base + n)] 33) ∧ Hid (EngLies wx cb2 cn2 cc2 db2 dn2 dc2 sb2 sn2 sc2 eb2 en2 ec2 ⟨[], e.deeds.drop n, e.state.drop n, e.ends.drop n, e.base + n⟩) ∧ Hid (Below W.heap.size W wx))
 case first =>
   have HN0 : Hid (Box (W.alloc (.cells #[.slice none 0 0, .slice none 0 0, .slice none 0 0, .slice none 0 0, .int .i64 0] 33)).drew W.heap.size #[.slice none 0 0, .slice none 0 0, .slice none 0 0, .slice none 0 0, .int .i64 0] 33) := Box.new W _ _
   have HK : Hid (∀ w', Below W.heap.size W w' → (w'.cell? ⟨w.heap.size, 1, none⟩ = some (.slice db dn dc) ∧ w'.cell? ⟨w.heap.size, 2, none⟩ = some (.slice sb sn sc) ∧ w'.cell? ⟨w.heap.size, 3, none⟩ = some (.slice eb en ec) ∧ w'.cell? ⟨w.heap.size, 4, none⟩ = some (.int .i64 e.base) ∧ Below W.heap.size W w')) := fun w' hb => ⟨(HX1.out.below hb).cell 1 _ rfl, (HX1.out.below hb).cell 2 _ rfl, (HX1.out.below hb).cell 3 _ rfl, (HX1.out.below hb).cell 4 _ rfl, hb⟩
   have HD0 := hid (step_drew (Below.refl W.heap.size W))
   have HD1 := hid (step_drew (step_box (Below.refl W.heap.size W) (.cells #[.slice none 0 0, .slice none 0 0, .slice none 0 0, .slice none 0 0, .int .i64 0] 33)))
   clear HCD HCS HCN HKD HKS HKN x0 x1 x2 x3 x4
   go_region_held3 (fun w' => w'.cell? ⟨w.heap.size, 1, none⟩ = some (.slice db dn dc) ∧ w'.cell? ⟨w.heap.size, 2, none⟩ = some (.slice sb sn sc) ∧ w'.cell? ⟨w.heap.size, 3, none⟩ = some (.slice eb en ec) ∧ w'.cell? ⟨w.heap.size, 4, none⟩ = some (.int .i64 e.base) ∧ Below W.heap.size W w')
     (first
       | with_reducible exact HK.out _ HD0.out
       | with_reducible exact HK.out _ hb2'
       | with_reducible exact HK.out _ (five5_below hb2' (by omega))
       | with_reducible exact HK.out _ (step_box hb2' _)
       | with_reducible exact HK.out _ HD1.out)
     (first
       | (go_at_call 33; refine (POW.out _ _ ?_).mono ?_; (first | with_reducible exact HEW.out _ HD0.out | with_reducible exact HEW.out _ HD1.out); rintro x w2 ⟨v2, rfl, ⟨cb2, cn2, cc2, db2, dn2, dc2, sb2, sn2, sc2, eb2, en2, ec2, rfl, hl2⟩, hb2⟩; have hb2' : Below W.heap.size W w2 := (by first | with_reducible exact below_deep HD0.out hb2 | with_reducible exact below_deep HD1.out hb2); have hsz2 := hb2'.size; have HL2 := hid hl2; clear hl2; (first | (have BX : Box w2 W.heap.size #[.slice none 0 0, .slice none 0 0, .slice none 0 0, .slice none 0 0, .int .i64 0] 33 := (by with_reducible exact HN0.out.below hb2); obtain ⟨g0, g1, g2, g3, g4⟩ := BX.cells5; obtain ⟨f0, f1, f2, f3, f4⟩ := BX.free5; have hbl : W.heap.size < w2.heap.size := BX.lt) | skip)))
   all_goals
     have HB2 := hid hb2'
     clear hb2 hb2' POW
     go_wp2
     go_meet
   case rel => exact ⟨_, _, _, _, _, _, _, _, _, _, _, _, _, rfl, hsz2, Box.new w2 _ _, HL2.out.below (grew _ _), step_box HB2.out _⟩
   case rel => exact ⟨_, _, _, _, _, _, _, _, _, _, _, _, _, rfl, Nat.le_refl _, put5_box BX _ _ _ _ _, HL2.out.put BX (put5_off _ _ _ _ _ _ _), put5_below HB2.out (Nat.le_refl _) _ _ _ _ _⟩
 case rest =>
   obtain ⟨blk, cb2, cn2, cc2, db2, dn2, dc2, sb2, sn2, sc2, eb2, en2, ec2, rfl, hblk, HXB, HLB, HBA2⟩ := hcut
   have HX2 := hid (HX1.out.below HBA2.out)
   have HZ2 := hid (HZ1.out.below HBA2.out)
   have HC2 := hid (HL1.out.below HBA2.out).ch
   have HBW2 := hid (below_deep HBW1.out HBA2.out)
   have hbz : w.heap.size + 1 ≠ blk := by have := HZ1.out.lt; omega
   have hbw : w.heap.size ≤ blk := by have := HX1.out.lt; omega
   clear x0 x1 x2 x3 x4 hxl hs1 hs2 hs3 HCD HCS HCN HKD HKS HKN HEW POW HX1 HZ1 HL1 HBW1 HBA2 hblk
   obtain ⟨x0, x1, x2, x3, x4⟩ := HX2.out.cells5
   obtain ⟨y0, y1, y2, y3, y4⟩ := HXB.out.cells5
   have hxl : w.heap.size < wc.heap.size := HX2.out.lt
   have hyl : blk < wc.heap.size := HXB.out.lt
   have PC := hid (clearC_calls e.chains cb cn cc (e.base + n) wc HFIT.out HC2.out)
   go_wp2_with fail
   refine PC.out.mono ?_
   rintro x w4 ⟨b4, n4, c4, rfl, h4, hb4⟩
   have HXB4 := hid (HXB.out.below hb4)
   have HZ4 := hid (HZ2.out.below hb4)
   have HLB4 := hid (HLB.out.below hb4)
   have HBW4 := hid (below_deep HBW2.out hb4)
   have HLC : Hid (EngLies w4 b4 n4 c4 db2 dn2 dc2 sb2 sn2 sc2 eb2 en2 ec2 (clearE e n)) := ⟨h4, HLB4.out.de, HLB4.out.st, HLB4.out.en, HLB4.out.dk, HLB4.out.sk, HLB4.out.ek⟩
   have HXB5 := hid (HXB4.out.set 0 (.slice b4 n4 c4))
   have HZ5 := hid (HZ4.out.far ⟨blk, 0, none⟩ hbz (.slice b4 n4 c4))
   have HL5 := hid (HLC.out.put HXB4.out (Off.set w4 blk 0 (.slice b4 n4 c4)))
   have HBW5 := hid (HBW4.out.setCell (p := ⟨blk, 0, none⟩) hbw (.slice b4 n4 c4))
   have g0 := HXB4.out.cells5.1
   have q0 := HXB4.out.free 0
   have hyl4 : blk < w4.heap.size := HXB4.out.lt
   clear h4 hb4 PC x0 x1 x2 x3 x4 y0 y1 y2 y3 y4 hxl hyl HXB HLB HLB4 HLC HX2 HZ2 HC2 HBW2
   go_upto_region 4 with fail
   generalize w4.setCell ⟨blk, 0, none⟩ (.slice b4 n4 c4) = W5 at *
   clear g0 q0 hyl4 HXB4 HZ4 HBW4
   obtain ⟨y0, y1, y2, y3, y4⟩ := HXB5.out.cells5
   obtain ⟨z0, z1, z2, z3, z4⟩ := HZ5.out.cells5
   obtain ⟨f0, f1, f2, f3, f4⟩ := HZ5.out.free5
   have hyl5 : blk < W5.heap.size := HXB5.out.lt
   have hzl5 : w.heap.size + 1 < W5.heap.size := HZ5.out.lt
   have HBF := hid (put5_box HZ5.out (.slice b4 n4 c4) (.slice db2 dn2 dc2) (.slice sb2 sn2 sc2) (.slice eb2 en2 ec2) (.int .i64 (e.base + n)))
   have HBE := hid (put5_below HBW5.out (Nat.le_succ _) (.slice b4 n4 c4) (.slice db2 dn2 dc2) (.slice sb2 sn2 sc2) (.slice eb2 en2 ec2) (.int .i64 (e.base + n)))
   have HLF := hid (HL5.out.put HZ5.out (put5_off W5 (w.heap.size + 1) (.slice b4 n4 c4) (.slice db2 dn2 dc2) (.slice sb2 sn2 sc2) (.slice eb2 en2 ec2) (.int .i64 (e.base + n))))
   unfold put5 at HBF HBE HLF
   go_wp2
   (try simp only [Exit.inBlock, Exit.then])
   refine bodyPost_ret (tidyClear_results _ (w.heap.size + 1) _ rfl HBF.out) rfl ?_
   exact ⟨_, rfl, ⟨_, _, _, _, _, _, _, _, _, _, _, _, rfl, HLF.out⟩, HBE.out⟩
end Go.Proofs.YtlhaeeenkgkdaaaGreatDoor

namespace Go.Proofs.YtlhaeeenkgkdaaaGreatDoor
open Go.RowKit

def RepToldAt (w0 w w' : World) (r : Rep) (x : Ending) : Prop := ∃ v, x = .returned v ∧ RepAt w0 w' v r ∧ Below w.heap.size w w'
def goR (r : Rep) (n : Int) : Rep × Int := if 0 ≤ n ∧ n < (readyE r.eng).length then (⟨goE r.eng ((readyE r.eng).getD n.toNat 0), r.next, r.early⟩, 0) else (r, 6)

theorem newP_results (tmps : Array Value) (b : Nat) (w : World) {a0 a1 a2 a3 a6 : Option Addr} {n0 n1 n2 n3 n6 c0 c1 c2 c3 c6 : Nat} {z y : Int} (h : tmps.getD 0 undef = .pointer (some ⟨b, 0, none⟩)) (hb : Box w b (repA a0 n0 c0 a1 n1 c1 a2 n2 c2 a3 n3 c3 z y a6 n6 c6) 35) :
   (results Tryz.f10 tmps).run Tryz.prog w = .ok (.agg (repA a0 n0 c0 a1 n1 c1 a2 n2 c2 a3 n3 c3 z y a6 n6 c6)) w := by
 have h' : tmps[0]?.getD undef = .pointer (some ⟨b, 0, none⟩) := by simpa using h
 obtain ⟨k0, k1, k2, k3, k4, k5, k6⟩ := hb.cells7
 simp [results, Tryz.results10, go_sem, h', k0, k1, k2, k3, k4, k5, k6]

set_option maxHeartbeats 4000000 in
set_option maxRecDepth 100000 in
theorem newP_calls (w0 w : World) : Calls Tryz.prog 10 #[] w fun x w' => RepToldAt w0 w w' newR x := by
 have HZ0 := hid (Box.new w nilR 35)
 have HG0 := hid (grew w (.cells nilR 35))
 go_enter Tryz.func10, Tryz.ntmps10
 go_upto_region 1 with fail
 generalize w.alloc (.cells nilR 35) = A at *
 have PN := hid (planNew_calls [] none 0 0 A right_nil (fun _ h => by cases h) (nil_holds A))
 have hl0 : w.heap.size < A.heap.size := HZ0.out.lt
 go_wp2_with fail
 refine PN.out.mono ?_
 rintro _ w1 ⟨v1, rfl, ⟨cb, cn, cc, db, dn, dc, sb, sn, sc, eb, en, ec, rfl, hl1⟩, hb1⟩
 have HB1 := hid (below_deep HG0.out hb1)
 have HZ1 := hid (HZ0.out.below hb1)
 have HP1 : Hid (RepParts w0 w1 cb cn cc db dn dc sb sn sc eb en ec none 0 0 [] newR) := ⟨hl1, Lies.none _ _, ESlotsAt.nil _ _, Kind.none _ _⟩
 have hb0 : (newE []).base = 0 := rfl
 rw [hb0]
 clear hb1 hl1 PN HZ0 HG0 hl0 hb0
 obtain ⟨z0, z1, z2, z3, z4, z5, z6⟩ := HZ1.out.cells7
 obtain ⟨g0, g1, g2, g3, g4, g5, g6⟩ := HZ1.out.free7
 have hl0 : w.heap.size < w1.heap.size := HZ1.out.lt
 have HBF := hid (put7_box HZ1.out (.slice cb cn cc) (.slice db dn dc) (.slice sb sn sc) (.slice eb en ec) (.int .i64 0) (.int .i64 0) (.slice none 0 0))
 have HBL := hid (put7_below HB1.out (Nat.le_refl w.heap.size) (.slice cb cn cc) (.slice db dn dc) (.slice sb sn sc) (.slice eb en ec) (.int .i64 0) (.int .i64 0) (.slice none 0 0))
 have HRL := hid (HP1.out.put HZ1.out (put7_off w1 w.heap.size (.slice cb cn cc) (.slice db dn dc) (.slice sb sn sc) (.slice eb en ec) (.int .i64 0) (.int .i64 0) (.slice none 0 0)))
 go_wp2
 refine bodyPost_ret (newP_results _ w.heap.size _ rfl HBF.out) rfl ?_
 exact ⟨_, rfl, ⟨_, _, _, _, _, _, _, _, _, _, _, _, _, _, _, _, rfl, HRL.out⟩, HBL.out⟩

theorem clearP_results (tmps : Array Value) (b : Nat) (w : World) {a0 a1 a2 a3 a6 : Option Addr} {n0 n1 n2 n3 n6 c0 c1 c2 c3 c6 : Nat} {z y : Int} (h : tmps.getD 2 undef = .pointer (some ⟨b, 0, none⟩)) (hb : Box w b (repA a0 n0 c0 a1 n1 c1 a2 n2 c2 a3 n3 c3 z y a6 n6 c6) 35) :
   (results Tryz.f13 tmps).run Tryz.prog w = .ok (.agg (repA a0 n0 c0 a1 n1 c1 a2 n2 c2 a3 n3 c3 z y a6 n6 c6)) w := by
 have h' : tmps[2]?.getD undef = .pointer (some ⟨b, 0, none⟩) := by simpa using h
 obtain ⟨k0, k1, k2, k3, k4, k5, k6⟩ := hb.cells7
 simp [results, Tryz.results13, go_sem, h', k0, k1, k2, k3, k4, k5, k6]

set_option maxHeartbeats 8000000 in
set_option maxRecDepth 100000 in
theorem clearP_calls {es : List Ent} {m : Nat} {dq : Nat → Bool} {bq : ByteArray → Int} {r : Rep} (h : GoodR es m dq bq r) (rv : Value) (w0 w : World) (hr : RepIn w rv r) :
   Calls Tryz.prog 13 #[rv] w fun x w' => RepToldAt w0 w w' ⟨clearE r.eng (markE r.eng), r.next, r.early⟩ x := by
 obtain ⟨cb, cn, cc, db, dn, dc, sb, sn, sc, eb, en, ec, ab, an, ac, rfl, hl⟩ := hr
 have hfew : (deedsOf es).length ≤ 1954687338211 := Nat.le_trans h.few (by decide)
 have han : an ≤ 1048576 := by rw [hl.early.len]; exact Nat.le_trans h.four (by decide)
 have PE := hid (fun W hv => tidyClear_calls h.eng hfew (.agg (engA cb cn cc db dn dc sb sn sc eb en ec r.eng.base)) W hv)
 generalize clearE r.eng (markE r.eng) = E at *
 have PW := hid (fun cb2 cn2 cc2 db2 dn2 dc2 sb2 sn2 sc2 eb2 en2 ec2 W hv => withR_calls cb cn cc db dn dc sb sn sc eb en ec r.eng.base r.next ab an ac cb2 cn2 cc2 db2 dn2 dc2 sb2 sn2 sc2 eb2 en2 ec2 E.base r.early W hv han h.early)
 have HL := hid hl
 have HX0 := hid (Box.new w (repA cb cn cc db dn dc sb sn sc eb en ec r.eng.base r.next ab an ac) 35)
 have HG0 := hid (grew w (.cells (repA cb cn cc db dn dc sb sn sc eb en ec r.eng.base r.next ab an ac) 35))
 have HZ0 := hid (Box.new (w.alloc (.cells (repA cb cn cc db dn dc sb sn sc eb en ec r.eng.base r.next ab an ac) 35)) nilR 35)
 have HG1 := hid (grew (w.alloc (.cells (repA cb cn cc db dn dc sb sn sc eb en ec r.eng.base r.next ab an ac) 35)) (.cells nilR 35))
 rw [World.size_alloc] at HZ0
 have HXA := hid (HX0.out.below HG1.out)
 have HBA := hid (below_deep HG0.out HG1.out)
 clear h hl HX0 HG0 HG1 hfew han
 go_enter Tryz.func13, Tryz.ntmps13
 go_upto_region 1 with fail
 generalize (w.alloc (.cells (repA cb cn cc db dn dc sb sn sc eb en ec r.eng.base r.next ab an ac) 35)).alloc (.cells nilR 35) = A at *
 have hl0 : w.heap.size < A.heap.size := HXA.out.lt
 have hl1 : w.heap.size + 1 < A.heap.size := HZ0.out.lt
 have B0 := hid (step_drew (Below.refl A.heap.size A))
 obtain ⟨x0, x1, x2, x3, x4, x5, x6⟩ := HXA.out.cells7
 go_region_with (first
   | (go_at_call 32; refine (PE.out _ ⟨_, _, _, _, _, _, _, _, _, _, _, _, rfl, HL.out.eng.below (below_deep HBA.out B0.out)⟩).mono ?_; rintro _ w5 ⟨v5, rfl, ⟨cb2, cn2, cc2, db2, dn2, dc2, sb2, sn2, sc2, eb2, en2, ec2, rfl, hl5⟩, hb5⟩; have hb5' : Below A.heap.size A w5 := (by with_reducible exact below_deep B0.out hb5); obtain ⟨x0', x1', x2', x3', x4', x5', x6'⟩ := (HXA.out.below hb5').cells7; have hl0' := Nat.lt_of_lt_of_le hl0 hb5'.size)
   | (go_at_call 29; refine (PW.out _ _ _ _ _ _ _ _ _ _ _ _ w5 (HL.out.early.below (below_deep HBA.out hb5'))).mono ?_; rintro _ w6 ⟨ab2, ac2, S2, rfl, ho6, hb6⟩; have hb6' : Below A.heap.size A w6 := (by with_reducible exact below_deep hb5' hb6); have HZ6 := hid (HZ0.out.below hb6'); obtain ⟨z0, z1, z2, z3, z4, z5, z6⟩ := HZ6.out.cells7; obtain ⟨f0, f1, f2, f3, f4, f5, f6⟩ := HZ6.out.free7; have hl1' := Nat.lt_of_lt_of_le hl1 hb6'.size))
 all_goals
   have HBF := hid (put7_box HZ6.out (.slice cb2 cn2 cc2) (.slice db2 dn2 dc2) (.slice sb2 sn2 sc2) (.slice eb2 en2 ec2) (.int .i64 E.base) (.int .i64 r.next) (.slice ab2 an ac2))
   have HBL := hid (put7_below (below_deep HBA.out hb6') (Nat.le_succ _) (.slice cb2 cn2 cc2) (.slice db2 dn2 dc2) (.slice sb2 sn2 sc2) (.slice eb2 en2 ec2) (.int .i64 E.base) (.int .i64 r.next) (.slice ab2 an ac2))
   have HRL := hid ((ho6.parts (w0 := w0) (r := ⟨E, r.next, r.early⟩) (hl5.below hb6)).put HZ6.out (put7_off w6 (w.heap.size + 1) (.slice cb2 cn2 cc2) (.slice db2 dn2 dc2) (.slice sb2 sn2 sc2) (.slice eb2 en2 ec2) (.int .i64 E.base) (.int .i64 r.next) (.slice ab2 an ac2)))
   clear hl5 hb5 ho6 hb6 PE PW
   go_wp2
   refine bodyPost_ret (clearP_results _ (w.heap.size + 1) _ rfl HBF.out) rfl ?_
   exact ⟨_, rfl, ⟨_, _, _, _, _, _, _, _, _, _, _, _, _, _, _, _, rfl, HRL.out⟩, HBL.out⟩

theorem seven_keep {A w1 w2 : World} {b : Nat} {x0 x1 x2 x3 x4 : Value} (h : w1.cell? ⟨b, 0, none⟩ = some x0 ∧ w1.cell? ⟨b, 1, none⟩ = some x1 ∧ w1.cell? ⟨b, 2, none⟩ = some x2 ∧ w1.cell? ⟨b, 3, none⟩ = some x3 ∧ w1.cell? ⟨b, 4, none⟩ = some x4 ∧ Below A.heap.size A w1) (hb : Below w1.heap.size w1 w2) :
   w2.cell? ⟨b, 0, none⟩ = some x0 ∧ w2.cell? ⟨b, 1, none⟩ = some x1 ∧ w2.cell? ⟨b, 2, none⟩ = some x2 ∧ w2.cell? ⟨b, 3, none⟩ = some x3 ∧ w2.cell? ⟨b, 4, none⟩ = some x4 ∧ Below A.heap.size A w2 := by
 obtain ⟨h0, h1, h2, h3, h4, hz⟩ := h
 exact ⟨kept_cell hb h0, kept_cell hb h1, kept_cell hb h2, kept_cell hb h3, kept_cell hb h4, below_deep hz hb⟩
theorem seven_held {p0 p1 p2 p3 p4 : Prop} {B : Nat} {A w' : World} (h : p0 ∧ p1 ∧ p2 ∧ p3 ∧ p4 ∧ Below B A w') : Below B A w' := h.2.2.2.2.2

set_option maxHeartbeats 8000000 in
set_option maxRecDepth 100000 in
theorem seenP_calls {D : List Deed3} {m : Nat} {dq : Nat → Bool} {bq : ByteArray → Int} {r : Rep} (h : Good [] D m dq bq r.eng) (hfew : D.length ≤ 1954687338211) (rv : Value) (w : World) (hr : RepIn w rv r) :
   Calls Tryz.prog 12 #[rv] w fun x w' => ∃ b n c, x = .returned (.slice b n c) ∧ Holds w' b n c (seenTo r.eng (markE r.eng)).1 ∧ Below w.heap.size w w' := by
 obtain ⟨cb, cn, cc, db, dn, dc, sb, sn, sc, eb, en, ec, ab, an, ac, rfl, hl⟩ := hr
 have hst : r.eng.state.length ≤ 1954687338211 := by rw [h.slen, h.len]; omega
 have PM := hid (fun W hv => tidyMark_calls r.eng (.agg (engA cb cn cc db dn dc sb sn sc eb en ec r.eng.base)) W hv hst h.slen h.elen)
 have PS := hid (fun W hv => tidySeen_calls h hfew (markE r.eng) (.agg (engA cb cn cc db dn dc sb sn sc eb en ec r.eng.base)) W hv)
 unfold SeenTold at PS
 generalize seenTo r.eng (markE r.eng) = sr at *
 obtain ⟨srl, srq⟩ := sr
 generalize ((markE r.eng : Nat) : Int) = mk at *
 have HL := hid hl.eng
 have HX0 := hid (Box.new w (repA cb cn cc db dn dc sb sn sc eb en ec r.eng.base r.next ab an ac) 35)
 have HG0 := hid (grew w (.cells (repA cb cn cc db dn dc sb sn sc eb en ec r.eng.base r.next ab an ac) 35))
 clear h hl hfew hst
 go_enter Tryz.func12, Tryz.ntmps12
 go_upto_region 1 with fail
 generalize w.alloc (.cells (repA cb cn cc db dn dc sb sn sc eb en ec r.eng.base r.next ab an ac) 35) = A at *
 have hl0 : w.heap.size < A.heap.size := HX0.out.lt
 have B0 := hid (step_drew (Below.refl A.heap.size A))
 obtain ⟨x0, x1, x2, x3, x4, x5, x6⟩ := HX0.out.cells7
 have HIN : Hid (∀ W, Below A.heap.size A W → EngIn W (.agg (engA cb cn cc db dn dc sb sn sc eb en ec r.eng.base)) r.eng) := fun W hb => ⟨_, _, _, _, _, _, _, _, _, _, _, _, rfl, HL.out.below (below_deep HG0.out hb)⟩
 have HS0 : Hid ((fun w' => w'.cell? ⟨w.heap.size, 0, none⟩ = some (.slice cb cn cc) ∧ w'.cell? ⟨w.heap.size, 1, none⟩ = some (.slice db dn dc) ∧ w'.cell? ⟨w.heap.size, 2, none⟩ = some (.slice sb sn sc) ∧ w'.cell? ⟨w.heap.size, 3, none⟩ = some (.slice eb en ec) ∧ w'.cell? ⟨w.heap.size, 4, none⟩ = some (.int .i64 r.eng.base) ∧ Below A.heap.size A w') A.drew) :=
   ⟨kept_cell B0.out x0, kept_cell B0.out x1, kept_cell B0.out x2, kept_cell B0.out x3, kept_cell B0.out x4, B0.out⟩
 go_region_held3 (fun w' => w'.cell? ⟨w.heap.size, 0, none⟩ = some (.slice cb cn cc) ∧ w'.cell? ⟨w.heap.size, 1, none⟩ = some (.slice db dn dc) ∧ w'.cell? ⟨w.heap.size, 2, none⟩ = some (.slice sb sn sc) ∧ w'.cell? ⟨w.heap.size, 3, none⟩ = some (.slice eb en ec) ∧ w'.cell? ⟨w.heap.size, 4, none⟩ = some (.int .i64 r.eng.base) ∧ Below A.heap.size A w')
   (first
     | with_reducible exact HS0.out
     | with_reducible exact seven_keep (by assumption) (by assumption))
   (first
     | (go_at_call 31; refine (PM.out _ ?_).mono ?_; exact HIN.out _ (seven_held (by assumption)); rintro _ w5 ⟨rfl, hb5⟩)
     | (go_at_call 30; refine (PS.out _ ?_).mono ?_; exact HIN.out _ (seven_held (by assumption)); rintro _ w6 ⟨sb6, sn6, sc6, rfl, hh6, hb6⟩))
 have HBF := hid (below_deep HG0.out (below_deep (below_deep B0.out hb5) hb6))
 have HH6 := hid hh6
 clear hh6 hb5 hb6
 go_wp2
 go_ret
 exact ⟨_, _, _, rfl, HH6.out, HBF.out⟩
end Go.Proofs.YtlhaeeenkgkdaaaGreatDoor
