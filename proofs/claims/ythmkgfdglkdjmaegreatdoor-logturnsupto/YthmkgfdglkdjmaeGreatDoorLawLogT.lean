/-
  The statement LogTurns of the program is true of any entry and any bytes.
-/
import Derived.Test.YthmkgfdglkdjmaeGreatDoorLawLogB
import Derived.Test.YthmkgfdglkdjmaeGreatDoorRefSameEnt
import Derived.Deep.RegionLaw
import Derived.Deep.DeepCutAuto
namespace Go.Proofs.YthmkgfdglkdjmaeGreatDoor
open Go.RowKit

set_option maxRecDepth 100000 in
set_option maxHeartbeats 16000000 in
theorem logTurns_calls (x : Ent) (v : Value) (l : T) (b : Option Addr) (n c : Nat) (w : World) (hG : Ground w) (hv : EntV w v x) (hn : n ≤ 1048576) (hb : BytesIn w b n c l) :
    Calls Tryz.prog 3 #[v, .slice b n c] w fun e w' => e = .returned (.bool true) ∧ Below w.heap.size w w' := by
  have HEV := hid hv
  have HBI := hid hb
  obtain ⟨db, dn, dc, rfl, hd⟩ := hv
  have HBA := hid (grew w (.cells #[.int .i64 x.1, .slice db dn dc] 24))
  have HBX := hid (Box.new w #[.int .i64 x.1, .slice db dn dc] 24)
  have HGW := hid hG
  have HG := hid (hG.below HBA.out)
  have HEA := hid (HEV.out.below HBA.out)
  have HXE : Hid (∀ W, Below w.heap.size w W → EntsIn (W.alloc (.cells #[.int .i64 x.1, .slice db dn dc] 24)) (some ⟨W.heap.size, 0, none⟩) 1 1 [x]) := fun W hW => ents_one W 24 x db dn dc (hd.below hW)
  clear hd hG hb
  have HLV := hid (llive_calls _ HG.out)
  go_enter Tryz.func3, Tryz.ntmps3
  go_upto_region 1 with fail
  generalize w.alloc (.cells #[.int .i64 x.1, .slice db dn dc] 24) = A at *
  go_wp2_with fail
  refine HLV.out.mono ?_
  rintro e w1 ⟨rfl, hb1⟩
  have HB1 := hid hb1
  have HW := hid (refWrongE_calls x _ w1 (HEA.out.below hb1))
  have HX1 := hid (HBX.out.below hb1)
  obtain ⟨y0, y1, yl, -, -⟩ := box2 HX1.out
  have HRT := hid (wrongE_right (e := x))
  generalize wrongE x = p at *
  clear hb1 HLV HBX
  go_wp2_with fail
  refine HW.out.mono ?_
  rintro e w2 ⟨rfl, hb2⟩
  have HB2 := hid (below_deep HB1.out hb2)
  have HX2 := hid (HX1.out.below hb2)
  have HBW2 := hid (below_deep HBA.out HB2.out)
  clear hb2 HW y0 y1 yl HX1
  go_upto_if 13 with fail
  go_cut [5, 6] (fun _ _ wx => Hid (Below w.heap.size w wx))
  case first =>
    by_cases hp : p = 0
    case neg =>
      have t := ne_true hp
      clear HRT
      go_wp2
      go_meet
      case rel => exact HBW2.out
    case pos =>
      have hr := HRT.out.1 hp
      subst hp
      have HBY := hid (logBytes_calls x _ w2 (HG.out.below HB2.out) (HEA.out.below HB2.out) hr)
      obtain ⟨y0, y1, yl, -, -⟩ := box2 HX2.out
      have hfew := bytesE_few hr
      have HRB := hid (read_bytes hr)
      clear hr HRT
      go_wp2_with fail
      refine HBY.out.mono ?_
      rintro e w3 ⟨b3, n3, c3, rfl, -, hby, hb3⟩
      have hn3 := BytesIn.count hby
      have HB3 := hid (below_deep HBW2.out hb3)
      have HX3 := hid (HX2.out.below hb3)
      have HPA := hid (logParse_calls (bytesE x) _ n3 c3 w3 (HGW.out.below HB3.out) (by omega) hby)
      rw [HRB.out] at HPA
      clear hby hb3 HBY y0 y1 yl hn3 HX2
      go_wp2_with fail
      refine HPA.out.mono ?_
      rintro e w4 ⟨db', dn', dc', rfl, hd4, hb4⟩
      have HD4 := hid hd4
      have HB4 := hid (below_deep HB3.out hb4)
      have HX4 := hid (HX3.out.below hb4)
      have HBX5 := hid (Box.new w4 #[.int .i64 x.1, .slice db' dn' dc'] 24)
      have HG5 := hid (grew w4 (.cells #[.int .i64 x.1, .slice db' dn' dc'] 24))
      clear hd4 hb4 HPA HX3
      go_upto_region 5 with fail
      have HB5 := hid (below_deep HB4.out HG5.out)
      have HX5 := hid (HX4.out.below HG5.out)
      have HD5 := hid (HD4.out.below HG5.out)
      clear HX4 HD4 HB4 HG5
      generalize w4.alloc (.cells #[.int .i64 x.1, .slice db' dn' dc'] 24) = A5 at *
      generalize w4.heap.size = b5 at *
      have HGa := hid (grew A5 (.cells #[.int .i64 x.1, .slice db dn dc] 24))
      have HGb := hid (grew (A5.alloc (.cells #[.int .i64 x.1, .slice db dn dc] 24)) (.cells #[.int .i64 x.1, .slice db' dn' dc'] 24))
      have E1 := hid ((HXE.out A5 HB5.out).below HGb.out)
      have E2 := hid (ents_one (A5.alloc (.cells #[.int .i64 x.1, .slice db dn dc] 24)) 24 x db' dn' dc' (HD5.out.below HGa.out))
      rw [World.size_alloc] at E2
      have HSE := hid (sameEnts_calls [x] _ 1 1 _ 1 1 _ E1.out E2.out)
      have HB6 := hid (below_deep HB5.out (below_deep HGa.out HGb.out))
      obtain ⟨x0, x1, xl, -, -⟩ := box2 HX5.out
      obtain ⟨y0, y1, yl, -, -⟩ := box2 HBX5.out
      have y0' := box_past (.cells #[.int .i64 x.1, .slice db dn dc] 24) y0
      have y1' := box_past (.cells #[.int .i64 x.1, .slice db dn dc] 24) y1
      go_wp2_with fail
      refine HSE.out.mono ?_
      rintro e w7 ⟨rfl, hb7⟩
      have HB7 := hid (below_deep HB6.out hb7)
      clear hb7
      go_wp2
      go_meet
      case rel => exact HB7.out
  case rest =>
    have HBC := hid hcut.out
    have HPB := hid (logParse_calls l b n c wc (HGW.out.below hcut.out) hn (HBI.out.below (by decide) hcut.out))
    have HBR := hid (fun z (h : readE l = (0, z)) => bytes_read (b := l) (x := z) h)
    clear hcut HX2 HRT
    generalize readE l = r at *
    obtain ⟨q, z⟩ := r
    go_wp2_with fail
    refine HPB.out.mono ?_
    rintro e w5 ⟨db', dn', dc', rfl, hd5, hb5⟩
    have HD5 := hid hd5
    have HB5 := hid (below_deep HBC.out hb5)
    have HBX6 := hid (Box.new w5 #[.int .i64 z.1, .slice db' dn' dc'] 24)
    have HG6 := hid (grew w5 (.cells #[.int .i64 z.1, .slice db' dn' dc'] 24))
    clear hd5 hb5 HPB
    simp only at HD5 ⊢
    go_upto_region 8 with fail
    have HB6 := hid (below_deep HB5.out HG6.out)
    have HD6 := hid (HD5.out.below HG6.out)
    clear HD5 HB5 HG6
    generalize w5.alloc (.cells #[.int .i64 z.1, .slice db' dn' dc'] 24) = A6 at *
    generalize w5.heap.size = b6 at *
    obtain ⟨x0, x1, xl, -, -⟩ := box2 HBX6.out
    by_cases hq : q = 0
    · subst hq
      have hbr := HBR.out z rfl
      have HKE := hid (And.intro x0 x1)
      have HCV : Hid (∀ W, Below w.heap.size w W → (convert 25 9 (.slice b n c)).run Tryz.prog W = .ok (.string (ofT l)) W) := fun W hW => bytes_text (HBI.out.below (by decide) hW) 25 9 5 Tryz.underlying25 Tryz.underlying5 Tryz.underlying9
      have HLW : Hid (∀ W, Below A6.heap.size A6 W → Calls Tryz.prog 10 #[.agg #[.int .i64 z.1, .slice db' dn' dc']] W fun e w' => e = .returned (.int .i64 0) ∧ Below W.heap.size W w') := fun W hW => by
        have := logWrong_calls z (.agg #[.int .i64 z.1, .slice db' dn' dc']) W ⟨db', dn', dc', rfl, HD6.out.below hW⟩
        rw [wrongE_right.2 hbr.1] at this
        exact this
      have HBY : Hid (∀ W, Below A6.heap.size A6 W → Calls Tryz.prog 8 #[.agg #[.int .i64 z.1, .slice db' dn' dc']] W fun e w' => BytesTold W w' l e) := fun W hW => by
        have := logBytes_calls z (.agg #[.int .i64 z.1, .slice db' dn' dc']) W (HGW.out.below (below_deep HB6.out hW)) ⟨db', dn', dc', rfl, HD6.out.below hW⟩ hbr.1
        rw [hbr.2] at this
        exact this
      clear hbr HBR
      have tt : ((ofT l).toList == (ofT l).toList) = true := by simp
      have HDr := hid (step_drew (Below.refl A6.heap.size A6))
      go_region_law (first
        | (go_simp; go_at_call 10; refine (HLW.out _ HDr.out).mono ?_; rintro e w8 ⟨rfl, hb8⟩; have hb8' : Below A6.heap.size A6 w8 := (below_deep HDr.out hb8); have z0 := kept_cell hb8' HKE.out.1; have z1 := kept_cell hb8' HKE.out.2; have zl := Nat.lt_of_lt_of_le xl hb8'.size; have hcv8 := HCV.out w8 (below_deep HB6.out hb8'))
        | (go_simp; go_at_call 8; refine (HBY.out _ hb8').mono ?_; rintro e w9 ⟨b9, n9, c9, rfl, -, hby9, hb9⟩; have hb9' : Below A6.heap.size A6 w9 := (below_deep hb8' hb9); have hcv9 := HCV.out w9 (below_deep HB6.out hb9'); have hconv9 := bytes_text hby9 25 9 5 Tryz.underlying25 Tryz.underlying5 Tryz.underlying9))
      all_goals
        have HB9 := hid (below_deep HB6.out hb9')
        clear hby9 hb9 hb9' hcv9 hconv9
        go_wp2
        go_ret
        first
          | exact ⟨rfl, HB9.out⟩
          | exact ⟨ret_bool tt, HB9.out⟩
    · have t := ne_true hq
      go_quiet (fail)
      go_wp2
      go_ret
      exact ⟨rfl, below_drewN HB6.out _⟩
end Go.Proofs.YthmkgfdglkdjmaeGreatDoor
