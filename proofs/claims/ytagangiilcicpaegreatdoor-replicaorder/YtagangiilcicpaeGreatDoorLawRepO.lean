/-
  The walk of the statement ReplicaOrder: the call returns true and changes nothing that was there.
-/
import Derived.Test.YtagangiilcicpaeGreatDoorRepComeP
import Derived.Test.YtagangiilcicpaeGreatDoorRepRest
import Derived.Test.YtagangiilcicpaeGreatDoorRepHold
import Derived.Test.YtagangiilcicpaeGreatDoorRefSameR
import Derived.Test.YtagangiilcicpaeGreatDoorPlanLib
import Derived.Test.YtagangiilcicpaeGreatDoorRepFinds
import Derived.Deep.DeepCutAuto
namespace Go.Proofs.YtagangiilcicpaeGreatDoor
open Go.RowKit

def GoodAny (r : Rep) : Prop := ∃ es m dn bq, GoodR es m dn bq r
theorem GoodAny.come {r : Rep} (h : GoodAny r) {e : Ent} (he : RightEnt e) : GoodAny (comeR r e).1 := by
  obtain ⟨es, m, dn, bq, h⟩ := h
  obtain ⟨more, -, hg, -⟩ := come_good h he
  exact ⟨_, _, _, _, hg⟩
/-- Two replicas, each in a block of its own. -/
structure TwoR (w W : World) (ba bb : Nat) (ra rb : Rep) : Prop where
  la : w.heap.size ≤ ba
  lb : w.heap.size ≤ bb
  ne : ba ≠ bb
  ha : HoldR w W ba ra
  hb : HoldR w W bb rb
  ga : GoodAny ra
  gb : GoodAny rb
  below : Below w.heap.size w W
theorem TwoR.later {w W W' : World} {ba bb : Nat} {ra rb : Rep} (h : TwoR w W ba bb ra rb) (hb : Below W.heap.size W W') : TwoR w W' ba bb ra rb := ⟨h.la, h.lb, h.ne, h.ha.below hb, h.hb.below hb, h.ga, h.gb, below_deep h.below hb⟩
theorem TwoR.swap {w W : World} {ba bb : Nat} {ra rb : Rep} (h : TwoR w W ba bb ra rb) : TwoR w W bb ba rb ra := ⟨h.lb, h.la, Ne.symm h.ne, h.hb, h.ha, h.gb, h.ga, h.below⟩
theorem TwoR.put {w W : World} {ba bb : Nat} {ra rb r : Rep} (h : TwoR w W ba bb ra rb) (hg : GoodAny r) {cb : Option Addr} {cn cc : Nat} {db : Option Addr} {dn dc : Nat} {sb : Option Addr} {sn sc : Nat} {eb : Option Addr} {en ec : Nat} {ab : Option Addr} {an ac : Nat} {S : List ESlot} (hp : RepParts w W cb cn cc db dn dc sb sn sc eb en ec ab an ac S r) :
    TwoR w (put7 W ba (.slice cb cn cc) (.slice db dn dc) (.slice sb sn sc) (.slice eb en ec) (.int .i64 r.eng.base) (.int .i64 r.next) (.slice ab an ac)) ba bb r rb := by
  obtain ⟨cb1, cn1, cc1, db1, dn1, dc1, sb1, sn1, sc1, eb1, en1, ec1, ab1, an1, ac1, S1, hx, hp1⟩ := h.ha
  obtain ⟨cb2, cn2, cc2, db2, dn2, dc2, sb2, sn2, sc2, eb2, en2, ec2, ab2, an2, ac2, S2, hx2, hp2⟩ := h.hb
  exact ⟨h.la, h.lb, h.ne, holdR (put7_box hx _ _ _ _ _ _ _) (hp.put hx (put7_off _ _ _ _ _ _ _ _ _)), holdR (put7_far hx2 (Ne.symm h.ne) _ _ _ _ _ _ _) (hp2.put hx (put7_off _ _ _ _ _ _ _ _ _)), hg, h.gb, put7_below h.below h.la _ _ _ _ _ _ _⟩
theorem comeAll_snoc (r : Rep) (l : List Ent) (e : Ent) : comeAll r (l ++ [e]) = (comeR (comeAll r l) e).1 := by simp [comeAll]
theorem comeAll_next {r : Rep} {l : List Ent} {j : Nat} (h : j < l.length) : comeAll r (l.take (j + 1)) = (comeR (comeAll r (l.take j)) (l.getD j default)).1 := by rw [take_snoc_getD h, comeAll_snoc]
theorem fold_next {l : List Ent} {r : Rep} {o : List Int} {j : Nat} (h : j < o.length) : (o.take (j + 1)).foldl (comeAt l) r = comeAt l ((o.take j).foldl (comeAt l) r) (o.getD j default) := by rw [take_snoc_getD h, List.foldl_append]; rfl
/-- How Come ends, where a replica is told by its parts. -/
theorem come_in {w W : World} {r : Rep} (hg : GoodAny r) {e : Ent} (he : RightEnt e) {rv ev : Value} (hr : RepIn W rv r) (hev : EntV W ev e) :
    Calls Tryz.prog 16 #[rv, ev] W fun x w' => ∃ cb cn cc db dn dc sb sn sc eb en ec ab an ac S q, x = .returned (.tuple #[.agg (repA cb cn cc db dn dc sb sn sc eb en ec (comeR r e).1.eng.base (comeR r e).1.next ab an ac), .int .i64 q]) ∧ RepParts w w' cb cn cc db dn dc sb sn sc eb en ec ab an ac S (comeR r e).1 ∧ Below W.heap.size W w' := by
  obtain ⟨es, m, dn, bq, h⟩ := hg
  refine (comeP_calls h e he rv ev w W hr hev).mono ?_
  rintro x w' ⟨v, rfl, ⟨cb, cn, cc, db, dl, dc, sb, sn, sc, eb, en, ec, ab, an, ac, S, rfl, hp⟩, hb⟩
  exact ⟨cb, cn, cc, db, dl, dc, sb, sn, sc, eb, en, ec, ab, an, ac, S, _, rfl, hp, hb⟩

set_option maxHeartbeats 16000000 in
set_option maxRecDepth 100000 in
theorem order_calls (L : List Ent) (OL : List Int) (lb : Option Addr) (ln lc : Nat) (ob : Option Addr) (on oc : Nat) (w : World)
    (hA : ∀ W, Below w.heap.size w W → Calls Tryz.prog 14 #[] W fun x w' => x = .returned (.bool true) ∧ Below W.heap.size W w') (hL : EntsIn w lb ln lc L) (hO : Ints w ob on oc OL) :
    Calls Tryz.prog 5 #[.slice lb ln lc, .slice ob on oc] w fun x w' => x = .returned (.bool true) ∧ Below w.heap.size w w' := by
  have PA := hid (hA w (Below.refl _ _))
  have HL := hid hL
  have HO := hid hO
  have HLN := hid hL.len
  have HON := hid (Ints.count hO)
  have hlm := Nat.le_trans hL.hdr.le hL.hdr.max
  have hom := Nat.le_trans hO.hdr.le hO.hdr.max
  unfold maxLen at hlm hom
  clear hA hL hO
  go_enter Tryz.func5, Tryz.ntmps5
  go_wp2_with fail
  refine PA.out.mono ?_
  rintro x w1 ⟨rfl, hb1⟩
  have HB1 := hid hb1
  clear hb1 PA
  by_cases h4 : ln ≤ 4
  · have h4' : ¬ (ln : Int) > 4 := by omega
    have hl4 : L.length ≤ 4 := by rw [← HLN.out]; exact h4
    have HL4 := hid hl4
    go_wp2
    go_loopw [22] (fun iv wr => ∃ j : Nat, iv = .int .i64 j ∧ j ≤ ln ∧ Hid (∀ t, t < j → RightEnt (L.getD t default) ∧ (L.getD t default).1 = t) ∧ Hid (Below w.heap.size w wr)) (fun iv _ => ln - (intOf iv).toNat)
    case atStart => exact ⟨0, rfl, Nat.zero_le _, fun t h => absurd h (Nat.not_lt_zero _), HB1⟩
    case round =>
      clear HB1
      obtain ⟨j, rfl, hj, HT, HBR⟩ := hrel
      by_cases hlt : j < ln
      · have hjl : j < L.length := by rw [← HLN.out]; exact hlt
        have j1 : (j : Int) < (ln : Int) := by omega
        have j2 : (0 : Int) ≤ (j : Int) := by omega
        rcases (HL.out.below HBR.out).run with h | ⟨b1, o1, rfl, hrun⟩
        · omega
        obtain ⟨db, dn, dc, k0, k1, hdi⟩ := hrun j hlt
        have hb1 : b1 < wr.heap.size := by simpa using World.block_lt_of_cell? _ _ k0
        clear hrun
        have HG := hid (grew wr (.cells #[.int .i64 (L.getD j default).1, .slice db dn dc] 24))
        have HY := hid (Box.new wr #[.int .i64 (L.getD j default).1, .slice db dn dc] 24)
        have HEV : Hid (EntV wr (.agg #[.int .i64 (L.getD j default).1, .slice db dn dc]) (L.getD j default)) := ⟨db, dn, dc, rfl, hdi⟩
        have PW := hid (refWrongE_calls (L.getD j default) (.agg #[.int .i64 (L.getD j default).1, .slice db dn dc]) _ (HEV.out.below HG.out))
        have HRJ : Hid (wrongE (L.getD j default) = 0 → (L.getD j default).1 = (j : Int) → ∀ t, t < j + 1 → RightEnt (L.getD t default) ∧ (L.getD t default).1 = t) := fun h1 h2 t ht => by
          by_cases e : t = j
          · subst e; exact ⟨wrongE_right.1 h1, h2⟩
          · exact HT.out t (by omega)
        clear hdi
        generalize wrongE (L.getD j default) = q at *
        generalize (L.getD j default).1 = z at *
        have y0 := HY.out.cell 0 _ rfl
        have y1 := HY.out.cell 1 _ rfl
        go_wp2_with fail
        refine PW.out.mono ?_
        rintro x w2 ⟨rfl, hb2⟩
        have HB2 := hid (below_deep HBR.out (below_deep HG.out hb2))
        have z0 := kept_cell hb2 y0
        have z1 := kept_cell hb2 y1
        have hzl : wr.heap.size < w2.heap.size := by simpa using World.block_lt_of_cell? _ _ z0
        clear hb2 PW y0 y1
        by_cases hq : q = 0
        · subst hq
          by_cases hz : z = (j : Int)
          · subst hz
            have HTN := hid (HRJ.out rfl rfl)
            go_wp2
            go_roundw
            case rel => exact ⟨j + 1, by go_num, hlt, HTN.out, HB2⟩
            case measure => simp [intOf]; omega
          · have tz : (z == (j : Int)) = false := by simpa using hz
            go_wp2
            go_ret
            exact ⟨rfl, HB2.out⟩
        · have tq : (q == 0) = false := by simpa using hq
          go_wp2
          go_ret
          exact ⟨rfl, HB2.out⟩
      · obtain rfl : ln = j := by omega
        have HRT : Hid (∀ t, t < L.length → RightEnt (L.getD t default) ∧ (L.getD t default).1 = t) := fun t ht => HT.out t (by rw [HLN.out]; exact ht)
        clear HT
        have PN := hid (newP_calls w wr)
        unfold RepToldAt at PN
        go_wp2_with fail
        refine PN.out.mono ?_
        rintro _ w2 ⟨va, rfl, hva, hb2⟩
        have HB2 := hid (below_deep HBR.out hb2)
        have HVA := hid hva
        have PN := hid (newP_calls w w2)
        unfold RepToldAt at PN
        clear hb2 hva
        go_wp2_with fail
        refine PN.out.mono ?_
        rintro _ w3 ⟨vb, rfl, ⟨cb4, cn4, cc4, db4, dl4, dc4, sb4, sn4, sc4, eb4, en4, ec4, ab4, an4, ac4, S4, rfl, hp4⟩, hb3⟩
        obtain ⟨cb3, cn3, cc3, db3, dl3, dc3, sb3, sn3, sc3, eb3, en3, ec3, ab3, an3, ac3, S3, rfl, hp3⟩ := HVA.out.below hb3
        have HB3 := hid (below_deep HB2.out hb3)
        have HG1 := hid (grew w3 (.cells (repA cb3 cn3 cc3 db3 dl3 dc3 sb3 sn3 sc3 eb3 en3 ec3 newR.eng.base newR.next ab3 an3 ac3) 42))
        have HG2 := hid (grew (w3.alloc (.cells (repA cb3 cn3 cc3 db3 dl3 dc3 sb3 sn3 sc3 eb3 en3 ec3 newR.eng.base newR.next ab3 an3 ac3) 42)) (.cells (repA cb4 cn4 cc4 db4 dl4 dc4 sb4 sn4 sc4 eb4 en4 ec4 newR.eng.base newR.next ab4 an4 ac4) 42))
        have HTW : Hid (TwoR w ((w3.alloc (.cells (repA cb3 cn3 cc3 db3 dl3 dc3 sb3 sn3 sc3 eb3 en3 ec3 newR.eng.base newR.next ab3 an3 ac3) 42)).alloc (.cells (repA cb4 cn4 cc4 db4 dl4 dc4 sb4 sn4 sc4 eb4 en4 ec4 newR.eng.base newR.next ab4 an4 ac4) 42)) w3.heap.size (w3.heap.size + 1) newR newR) := by
          have hx := Box.new (w3.alloc (.cells (repA cb3 cn3 cc3 db3 dl3 dc3 sb3 sn3 sc3 eb3 en3 ec3 newR.eng.base newR.next ab3 an3 ac3) 42)) (repA cb4 cn4 cc4 db4 dl4 dc4 sb4 sn4 sc4 eb4 en4 ec4 newR.eng.base newR.next ab4 an4 ac4) 42
          rw [World.size_alloc] at hx
          exact ⟨HB3.out.size, Nat.le_succ_of_le HB3.out.size, by omega, holdR ((Box.new w3 _ _).below HG2.out) (hp3.below (below_deep HG1.out HG2.out)), holdR hx (hp4.below (below_deep HG1.out HG2.out)), ⟨_, _, _, _, GoodR.new⟩, ⟨_, _, _, _, GoodR.new⟩, below_deep HB3.out (below_deep HG1.out HG2.out)⟩
        clear hp3 hp4 hb3 PN HVA HB2 HB3 HG1 HG2 HBR
        generalize newR.eng.base = bs0 at *
        generalize newR.next = nx0 at *
        go_upto_region 12 with fail
        generalize (w3.alloc (.cells (repA cb3 cn3 cc3 db3 dl3 dc3 sb3 sn3 sc3 eb3 en3 ec3 bs0 nx0 ab3 an3 ac3) 42)).alloc (.cells (repA cb4 cn4 cc4 db4 dl4 dc4 sb4 sn4 sc4 eb4 en4 ec4 bs0 nx0 ab4 an4 ac4) 42) = A3 at *
        generalize w3.heap.size = ba at *
        clear hlt hj
        go_wp2
        go_loopw [41] (fun iv wr => ∃ j : Nat, iv = .int .i64 j ∧ j ≤ ln ∧ Hid (TwoR w wr ba (ba + 1) (comeAll newR (L.take j)) newR)) (fun iv _ => ln - (intOf iv).toNat)
        case atStart => exact ⟨0, rfl, Nat.zero_le _, HTW⟩
        case round =>
          clear HTW
          obtain ⟨j, rfl, hj, HT⟩ := hrel
          by_cases hlt : j < ln
          · have hjl : j < L.length := by rw [← HLN.out]; exact hlt
            have j1 : (j : Int) < (ln : Int) := by omega
            have j2 : (0 : Int) ≤ (j : Int) := by omega
            have HNX := hid (comeAll_next (r := newR) hjl)
            have HRE := hid (HRT.out j hjl).1
            rcases (HL.out.below HT.out.below).run with h | ⟨b1, o1, rfl, hrun⟩
            · omega
            obtain ⟨db, dn, dc, k0, k1, hdi⟩ := hrun j hlt
            have hb1 : b1 < wr.heap.size := by simpa using World.block_lt_of_cell? _ _ k0
            clear hrun hjl
            generalize comeAll newR (L.take j) = ra at *
            generalize L.getD j default = e at *
            obtain ⟨cb5, cn5, cc5, db5, dl5, dc5, sb5, sn5, sc5, eb5, en5, ec5, ab5, an5, ac5, S5, hx5, hp5⟩ := HT.out.ha
            have HX5 := hid hx5
            have HG := hid (grew wr (.cells #[.int .i64 e.1, .slice db dn dc] 24))
            have HY := hid (Box.new wr #[.int .i64 e.1, .slice db dn dc] 24)
            have PC := hid (come_in (w := w) HT.out.ga HRE.out (rv := .agg (repA cb5 cn5 cc5 db5 dl5 dc5 sb5 sn5 sc5 eb5 en5 ec5 ra.eng.base ra.next ab5 an5 ac5)) (ev := .agg #[.int .i64 e.1, .slice db dn dc]) (RepIn.below ⟨_, _, _, _, _, _, _, _, _, _, _, _, _, _, _, rfl, hp5.lies HT.out.below⟩ HG.out) (EntV.below ⟨_, _, _, rfl, hdi⟩ HG.out))
            have HGC := hid (HT.out.ga.come HRE.out)
            generalize e.1 = en at *
            obtain ⟨x0, x1, x2, x3, x4, x5, x6⟩ := HX5.out.cells7
            have hal : ba < wr.heap.size := HX5.out.lt
            clear hx5 hp5 hdi
            generalize (comeR ra e).1 = rn at *
            go_wp2_with fail
            refine PC.out.mono ?_
            rintro _ w2 ⟨cb2, cn2, cc2, db2, dl2, dc2, sb2, sn2, sc2, eb2, en2, ec2, ab2, an2, ac2, S2, q2, rfl, hp2, hb2⟩
            have HT2 := hid ((HT.out.later (below_deep HG.out hb2)).put HGC.out hp2)
            have HX2 := hid (HX5.out.below (below_deep HG.out hb2))
            clear hp2 hb2 PC x0 x1 x2 x3 x4 x5 x6 hal k0 k1 HT HY HX5 HG
            obtain ⟨x0, x1, x2, x3, x4, x5, x6⟩ := HX2.out.cells7
            obtain ⟨g0, g1, g2, g3, g4, g5, g6⟩ := HX2.out.free7
            have hal : ba < w2.heap.size := HX2.out.lt
            unfold put7 at HT2
            go_wp2
            go_roundw
            case rel => exact ⟨j + 1, by go_num, hlt, by rw [HNX.out]; exact HT2⟩
            case measure => simp [intOf]; omega
          · obtain rfl : j = ln := by omega
            have HN0 : Hid (∀ i, i < L.length → (L.getD i default).1 = i) := fun i hi => (HRT.out i hi).2
            have HF1 : Hid (comeAll newR (L.take j) = ⟨addAll (newE []) (deedsOf L), (j : Int), []⟩) := by
              show _ = _
              rw [List.take_of_length_le (by rw [← HLN.out]; exact Nat.le_refl _), all_come HN0.out HL4.out (RepL.new L), HLN.out]
            rw [HF1.out] at HT
            obtain ⟨E, hE⟩ : ∃ E, addAll (newE []) (deedsOf L) = E := ⟨_, rfl⟩
            rw [hE] at HT
            have HE := hid hE
            clear hE HF1 hlt hj
            generalize hra : (⟨E, (j : Int), []⟩ : Rep) = RA at *
            have HRA := hid hra
            clear hra
            go_wp2
            go_loopw [54] (fun iv wr => ∃ k : Nat, iv = .int .i64 k ∧ k ≤ on ∧ Hid (TwoR w wr ba (ba + 1) RA ((OL.take k).foldl (comeAt L) newR))) (fun iv _ => on - (intOf iv).toNat)
            case atStart => exact ⟨0, rfl, Nat.zero_le _, HT⟩
            case round =>
              clear HT
              obtain ⟨k, rfl, hk, HT⟩ := hrel
              by_cases hlt : k < on
              · have hkl : k < OL.length := by rw [← HON.out]; exact hlt
                have j1 : (k : Int) < (on : Int) := by omega
                have j2 : (0 : Int) ≤ (k : Int) := by omega
                have HNX := hid (fold_next (l := L) (r := newR) hkl)
                obtain ⟨b2, o2, rfl, c0⟩ : ∃ b2 o2, ob = some ⟨b2, o2, none⟩ ∧ wr.cell? ⟨b2, o2 + k, none⟩ = some (.int .i64 (OL.getD k 0)) := by
                  rcases (HO.out.below (by decide) HT.out.below).run with h | ⟨b2, o2, e2, hr2⟩
                  · omega
                  · exact ⟨b2, o2, e2, hr2 k _ (intsC_at hkl)⟩
                have hd0 : OL.getD k default = OL.getD k 0 := rfl
                rw [hd0] at HNX
                have hb2 : b2 < wr.heap.size := by simpa using World.block_lt_of_cell? _ _ c0
                clear hd0 hkl
                generalize OL.getD k 0 = z at *
                generalize (OL.take k).foldl (comeAt L) newR = rb at *
                by_cases hz : 0 ≤ z ∧ z < j
                · obtain ⟨q, rfl⟩ : ∃ q : Nat, z = (q : Int) := ⟨z.toNat, by omega⟩
                  have hqn : q < j := by omega
                  have dq1 : decide ((q : Int) < (j : Int)) = true := by simpa using hqn
                  have hqi : (q : Int) < (j : Int) := by omega
                  have hq0 : (0 : Int) ≤ (q : Int) := by omega
                  have hql : q < L.length := by rw [← HLN.out]; exact hqn
                  have HRE := hid (HRT.out q hql).1
                  have HCA : Hid (comeAt L rb (q : Int) = (comeR rb (L.getD q default)).1) := by
                    show _ = _
                    unfold comeAt
                    rw [if_pos ⟨hq0, by omega⟩, Int.toNat_natCast]
                  rw [HCA.out] at HNX
                  rcases (HL.out.below HT.out.below).run with h | ⟨b1, o1, rfl, hrun⟩
                  · omega
                  obtain ⟨db, dn, dc, k0, k1, hdi⟩ := hrun q hqn
                  have hb1 : b1 < wr.heap.size := by simpa using World.block_lt_of_cell? _ _ k0
                  clear hrun hql HCA hz
                  generalize L.getD q default = e at *
                  obtain ⟨cb5, cn5, cc5, db5, dl5, dc5, sb5, sn5, sc5, eb5, en5, ec5, ab5, an5, ac5, S5, hx5, hp5⟩ := HT.out.hb
                  have HX5 := hid hx5
                  have HDR := hid (step_drew (Below.refl wr.heap.size wr))
                  have PC := hid (come_in (w := w) (W := wr.drew) HT.out.gb HRE.out (rv := .agg (repA cb5 cn5 cc5 db5 dl5 dc5 sb5 sn5 sc5 eb5 en5 ec5 rb.eng.base rb.next ab5 an5 ac5)) (ev := .agg #[.int .i64 e.1, .slice db dn dc]) (RepIn.below ⟨_, _, _, _, _, _, _, _, _, _, _, _, _, _, _, rfl, hp5.lies HT.out.below⟩ HDR.out) (EntV.below ⟨_, _, _, rfl, hdi⟩ HDR.out))
                  have HGC := hid (HT.out.gb.come HRE.out)
                  generalize e.1 = en at *
                  obtain ⟨x0, x1, x2, x3, x4, x5, x6⟩ := HX5.out.cells7
                  have hal : ba + 1 < wr.heap.size := HX5.out.lt
                  clear hx5 hp5 hdi
                  generalize (comeR rb e).1 = rn at *
                  go_upto_region 21 with fail
                  go_region_with ((go_at_call 16; refine PC.out.mono ?_; rintro _ w2 ⟨cb2, cn2, cc2, db2, dl2, dc2, sb2, sn2, sc2, eb2, en2, ec2, ab2, an2, ac2, S2, q2, rfl, hp2, hb2⟩; have HX2 := hid (HX5.out.below (below_deep HDR.out hb2)); obtain ⟨x0', x1', x2', x3', x4', x5', x6'⟩ := HX2.out.cells7; obtain ⟨g0, g1, g2, g3, g4, g5, g6⟩ := HX2.out.free7; have hal' : ba + 1 < w2.heap.size := HX2.out.lt))
                  all_goals
                    have HT2 := hid (((HT.out.later (below_deep HDR.out hb2)).swap.put HGC.out hp2).swap)
                    clear hp2 hb2
                    unfold put7 at HT2
                    go_wp2
                    go_roundw
                    case rel => exact ⟨k + 1, by go_num, hlt, by rw [HNX.out]; exact HT2⟩
                    case measure => simp [intOf]; omega
                · have HCA : Hid (comeAt L rb z = rb) := by
                    show _ = _
                    unfold comeAt
                    rw [if_neg (by rw [← HLN.out]; exact hz)]
                  rw [HCA.out] at HNX
                  by_cases hneg : 0 ≤ z
                  · have dq2 : ¬ (z < (j : Int)) := fun h => hz ⟨hneg, h⟩
                    have dq1 : decide (z < (j : Int)) = false := by simpa using dq2
                    go_wp2
                    go_roundw
                    case rel => exact ⟨k + 1, by go_num, hlt, by rw [HNX.out]; exact HT⟩
                    case measure => simp [intOf]; omega
                  · have dq0 : decide (0 ≤ z) = false := by simpa using hneg
                    go_wp2
                    go_roundw
                    case rel => exact ⟨k + 1, by go_num, hlt, by rw [HNX.out]; exact HT⟩
                    case measure => simp [intOf]; omega
              · obtain rfl : k = on := by omega
                have HR0 : Hid (RepL L ((OL.take k).foldl (comeAt L) newR)) := comeAt_rep HN0.out HL4.out _ (RepL.new L)
                clear hlt hk
                generalize (OL.take k).foldl (comeAt L) newR = R0 at *
                go_wp2
                go_loopw [78] (fun iv wr => ∃ t : Nat, iv = .int .i64 t ∧ t ≤ j ∧ Hid (TwoR w wr ba (ba + 1) RA (comeAll R0 (L.take t)))) (fun iv _ => j - (intOf iv).toNat)
                case atStart => exact ⟨0, rfl, Nat.zero_le _, HT⟩
                case round =>
                  clear HT
                  obtain ⟨t, rfl, ht, HT⟩ := hrel
                  by_cases hlt : t < j
                  · have hjl : t < L.length := by rw [← HLN.out]; exact hlt
                    have j1 : (t : Int) < (j : Int) := by omega
                    have j2 : (0 : Int) ≤ (t : Int) := by omega
                    have HNX := hid (comeAll_next (r := R0) hjl)
                    have HRE := hid (HRT.out t hjl).1
                    rcases (HL.out.below HT.out.below).run with h | ⟨b1, o1, rfl, hrun⟩
                    · omega
                    obtain ⟨db, dn, dc, k0, k1, hdi⟩ := hrun t hlt
                    have hb1 : b1 < wr.heap.size := by simpa using World.block_lt_of_cell? _ _ k0
                    clear hrun hjl
                    generalize comeAll R0 (L.take t) = rb at *
                    generalize L.getD t default = e at *
                    obtain ⟨cb5, cn5, cc5, db5, dl5, dc5, sb5, sn5, sc5, eb5, en5, ec5, ab5, an5, ac5, S5, hx5, hp5⟩ := HT.out.hb
                    have HX5 := hid hx5
                    have HG := hid (grew wr (.cells #[.int .i64 e.1, .slice db dn dc] 24))
                    have HY := hid (Box.new wr #[.int .i64 e.1, .slice db dn dc] 24)
                    have PC := hid (come_in (w := w) HT.out.gb HRE.out (rv := .agg (repA cb5 cn5 cc5 db5 dl5 dc5 sb5 sn5 sc5 eb5 en5 ec5 rb.eng.base rb.next ab5 an5 ac5)) (ev := .agg #[.int .i64 e.1, .slice db dn dc]) (RepIn.below ⟨_, _, _, _, _, _, _, _, _, _, _, _, _, _, _, rfl, hp5.lies HT.out.below⟩ HG.out) (EntV.below ⟨_, _, _, rfl, hdi⟩ HG.out))
                    have HGC := hid (HT.out.gb.come HRE.out)
                    generalize e.1 = en at *
                    obtain ⟨x0, x1, x2, x3, x4, x5, x6⟩ := HX5.out.cells7
                    have hal : ba + 1 < wr.heap.size := HX5.out.lt
                    clear hx5 hp5 hdi
                    generalize (comeR rb e).1 = rn at *
                    go_wp2_with fail
                    refine PC.out.mono ?_
                    rintro _ w2 ⟨cb2, cn2, cc2, db2, dl2, dc2, sb2, sn2, sc2, eb2, en2, ec2, ab2, an2, ac2, S2, q2, rfl, hp2, hb2⟩
                    have HT2 := hid (((HT.out.later (below_deep HG.out hb2)).swap.put HGC.out hp2).swap)
                    have HX2 := hid (HX5.out.below (below_deep HG.out hb2))
                    clear hp2 hb2 PC x0 x1 x2 x3 x4 x5 x6 hal k0 k1 HT HY HX5 HG
                    obtain ⟨x0, x1, x2, x3, x4, x5, x6⟩ := HX2.out.cells7
                    obtain ⟨g0, g1, g2, g3, g4, g5, g6⟩ := HX2.out.free7
                    have hal : ba + 1 < w2.heap.size := HX2.out.lt
                    unfold put7 at HT2
                    go_wp2
                    go_roundw
                    case rel => exact ⟨t + 1, by go_num, hlt, by rw [HNX.out]; exact HT2⟩
                    case measure => simp [intOf]; omega
                  · obtain rfl : t = j := by omega
                    have HF2 : Hid (comeAll R0 (L.take t) = RA) := by
                      show _ = _
                      rw [List.take_of_length_le (by rw [← HLN.out]; exact Nat.le_refl _), all_come HN0.out HL4.out HR0.out, ← HRA.out, HLN.out, HE.out]
                    rw [HF2.out] at HT
                    obtain ⟨cb5, cn5, cc5, db5, dl5, dc5, sb5, sn5, sc5, eb5, en5, ec5, ab5, an5, ac5, S5, hx5, hp5⟩ := HT.out.ha
                    obtain ⟨cb6, cn6, cc6, db6, dl6, dc6, sb6, sn6, sc6, eb6, en6, ec6, ab6, an6, ac6, S6, hx6, hp6⟩ := HT.out.hb
                    have PS := hid (sameRep_calls RA (.agg (repA cb5 cn5 cc5 db5 dl5 dc5 sb5 sn5 sc5 eb5 en5 ec5 RA.eng.base RA.next ab5 an5 ac5)) (.agg (repA cb6 cn6 cc6 db6 dl6 dc6 sb6 sn6 sc6 eb6 en6 ec6 RA.eng.base RA.next ab6 an6 ac6)) wr ⟨_, _, _, _, _, _, _, _, _, _, _, _, _, _, _, rfl, hp5.lies HT.out.below⟩ ⟨_, _, _, _, _, _, _, _, _, _, _, _, _, _, _, rfl, hp6.lies HT.out.below⟩)
                    have HBW := hid HT.out.below
                    have hnx : RA.next = (t : Int) := by rw [← HRA.out]
                    rw [hnx] at hx5 hx6 PS
                    generalize RA.eng.base = bs at *
                    obtain ⟨x0, x1, x2, x3, x4, x5, x6⟩ := hx5.cells7
                    obtain ⟨y0, y1, y2, y3, y4, y5, y6⟩ := hx6.cells7
                    have hal : ba < wr.heap.size := hx5.lt
                    have hbl : ba + 1 < wr.heap.size := hx6.lt
                    have tt : ((t : Int) == (t : Int)) = true := by simp
                    clear hx5 hx6 hp5 hp6 HT hnx hlt ht
                    go_wp2_with fail
                    refine PS.out.mono ?_
                    rintro _ w9 ⟨rfl, hb9⟩
                    have HBF := hid (below_deep HBW.out hb9)
                    clear hb9 PS
                    go_wp2
                    go_ret
                    exact ⟨rfl, HBF.out⟩
  · have h4' : (ln : Int) > 4 := by omega
    go_wp2
    go_ret
    exact ⟨rfl, HB1.out⟩
end Go.Proofs.YtagangiilcicpaeGreatDoor
