/-
  The statement LogTells of the program is true of any entry, any entries and any bytes.
-/
import Derived.Test.YthmkgfdglkdjmadGreatDoorRefSameEnt
import Derived.Test.YthmkgfdglkdjmadGreatDoorRefReadE
import Derived.Test.YthmkgfdglkdjmadGreatDoorLogOwn
import Derived.Deep.RegionHeld3
import Derived.Deep.RegionLaw
import Derived.Deep.DeepCutAuto
namespace Go.Proofs.YthmkgfdglkdjmadGreatDoor
open Go.RowKit

theorem bytes_conv {w : World} {b : Option Addr} {n c : Nat} {l : T} (h : BytesIn w b n c l) : (convert 63 9 (.slice b n c)).run Tryz.prog w = .ok (.string (ofT l)) w :=
  bytes_text h 63 9 5 Tryz.underlying63 Tryz.underlying5 Tryz.underlying9
theorem held3t {a b c : Prop} (h : a ∧ b ∧ c) : c := h.2.2
set_option maxRecDepth 100000 in
set_option maxHeartbeats 16000000 in
theorem logTells_calls (x : Ent) (v : Value) (L : List Ent) (eb : Option Addr) (en ec : Nat) (l : T) (b : Option Addr) (n c : Nat) (w : World) (hG : Ground w) (hv : EntV w v x) (hle : en ≤ 1048576) (hfw : FewE 1048576 L) (hL : EntsIn w eb en ec L) (hn : n ≤ 1048576) (hb : BytesIn w b n c l) :
    Calls Tryz.prog 5 #[v, .slice eb en ec, .slice b n c] w fun e w' => e = .returned (.bool true) ∧ Below w.heap.size w w' := by
  have HEV := hid hv
  have HBI := hid hb
  have HLI := hid hL
  have HFW := hid hfw
  obtain ⟨db, dn, dc, rfl, hd⟩ := hv
  have HBA := hid (grew w (.cells #[.int .i64 x.1, .slice db dn dc] 61))
  have HBX := hid (Box.new w #[.int .i64 x.1, .slice db dn dc] 61)
  have HGW := hid hG
  clear hd hG hb hL hfw
  go_enter Tryz.func5, Tryz.ntmps5
  go_upto_region 1 with fail
  generalize w.alloc (.cells #[.int .i64 x.1, .slice db dn dc] 61) = A at *
  have HEA := hid (HEV.out.below HBA.out)
  have HWD := hid (fun W (h : Below A.heap.size A W) => logWrong_calls x _ W (HEA.out.below h))
  have HRD := hid (fun W (h : Below A.heap.size A W) => refWrongE_calls x _ W (HEA.out.below h))
  have HLS : Hid (∀ W, Below A.heap.size A W → Calls Tryz.prog 22 #[.slice b n c] W fun e w' => e = .returned (.int .i64 (sumT l)) ∧ Below W.heap.size W w') := fun W h => (logSum_calls l b n c W (HBI.out.below (by decide) (below_deep HBA.out h))).mono fun e w' ⟨h1, h2⟩ => ⟨h1, by rw [h2]; exact Below.refl _ _⟩
  have HRS : Hid (∀ W, Below A.heap.size A W → Calls Tryz.prog 23 #[.slice b n c] W fun e w' => e = .returned (.int .i64 (sumT l)) ∧ Below W.heap.size W w') := fun W h => (refSum_calls l b n c W (HBI.out.below (by decide) (below_deep HBA.out h))).mono fun e w' ⟨h1, h2⟩ => ⟨h1, by rw [h2]; exact Below.refl _ _⟩
  have HOW := hid (fun W (h : Below A.heap.size A W) => logOwn_calls L eb en ec W hle HFW.out (HLI.out.below (below_deep HBA.out h)))
  have HLB := hid (fun W (h : Below A.heap.size A W) => HLI.out.below (below_deep HBA.out h))
  have HRT := hid (wrongE_right (e := x))
  generalize hpx : wrongE x = p at *
  generalize sumT l = t at *
  have tp : (p != p) = false := by simp
  have tt : ((t : Int) != (t : Int)) = false := by simp
  obtain ⟨x0, x1, xl, -, -⟩ := box2 HBX.out
  have HS0 : Hid ((fun w' => w'.cell? ⟨w.heap.size, 0, none⟩ = some (.int .i64 x.1) ∧ w'.cell? ⟨w.heap.size, 1, none⟩ = some (.slice db dn dc) ∧ Below A.heap.size A w') A.drew) := ⟨x0, x1, step_drew (Below.refl _ _)⟩
  go_region_held3 (fun w' => w'.cell? ⟨w.heap.size, 0, none⟩ = some (.int .i64 x.1) ∧ w'.cell? ⟨w.heap.size, 1, none⟩ = some (.slice db dn dc) ∧ Below A.heap.size A w')
    (first
      | exact HS0.out
      | exact two_keep (by assumption) (by assumption))
    (first
      | (go_at_call 20; refine (HWD.out _ (held3t (by assumption))).mono ?_; rintro e w2 ⟨rfl, hb2⟩)
      | (go_at_call 21; refine (HRD.out _ (held3t (by assumption))).mono ?_; rintro e w3 ⟨rfl, hb3⟩)
      | (go_at_call 22; refine (HLS.out _ (held3t (by assumption))).mono ?_; rintro e w4 ⟨rfl, hb4⟩)
      | (go_at_call 23; refine (HRS.out _ (held3t (by assumption))).mono ?_; rintro e w5 ⟨rfl, hb5⟩)
      | (go_at_call 25; refine (HOW.out _ (held3t (by assumption))).mono ?_; rintro e w6 ⟨ob, oc, rfl, ho6, hb6⟩)
      | (go_at_call 24; refine (sameEnts_calls L ob en oc eb en ec _ ho6 (HLB.out _ (held3t (by assumption)))).mono ?_; rintro e w7 ⟨rfl, hb7⟩))
  have hbB := below_deep (below_deep (below_deep (below_deep (below_deep (below_deep (step_drew (Below.refl A.heap.size A)) hb2) hb3) hb4) hb5) hb6) hb7
  have HB7 := hid (below_deep HBA.out hbB)
  have HX7 := hid (HBX.out.below hbB)
  have HEW := hid (fun W (h : Below w.heap.size w W) => HEV.out.below h)
  clear hb2 hb3 hb4 hb5 hb6 hb7 ho6 hbB HWD HRD HLS HRS HOW HLB HS0 x0 x1 xl HBX HBA HEA tp tt
  generalize A.heap.size = sA at *
  go_upto_region 3 with fail
  have HRW := hid (fun W (h : Below w7.heap.size w7 W) => refWrongE_calls x _ W (HEW.out W (below_deep HB7.out h)))
  have HDr := hid (step_drew (Below.refl w7.heap.size w7))
  have HXW := hid (fun W (h : Below w7.heap.size w7 W) => box2 (HX7.out.below h))
  go_cut [41] (fun cv wx => cv = .bool false ∧ Hid (Below w.heap.size w wx))
  case first =>
    obtain ⟨x0, x1, xl, -, -⟩ := box2 HX7.out
    by_cases hp : p = 0
    case neg =>
      have t : (p == 0) = false := by simpa using hp
      have HRP : Hid (∀ W, Below w7.heap.size w7 W → Calls Tryz.prog 21 #[.agg #[.int .i64 x.1, .slice db dn dc]] W fun e w' => e = .returned (.int .i64 (wrongE x)) ∧ Below W.heap.size W w') := HRW.out
      rw [hpx] at HRP
      clear HRW
      go_region_law (first
        | (go_simp; go_at_call 21; refine (HRP.out _ HDr.out).mono ?_; rintro e w8 ⟨rfl, hb8⟩))
      all_goals
        have HB8 := hid (below_deep HB7.out (below_deep HDr.out hb8))
        clear hb8
        go_wp2
        go_meet
        exact ⟨rfl, HB8.out⟩
    case pos =>
      have hr := HRT.out.1 hp
      rw [hp] at hpx
      clear HRT hp
      have HRI := hid hr
      have HYA : Hid (∀ W, Below w7.heap.size w7 W → Calls Tryz.prog 26 #[.agg #[.int .i64 x.1, .slice db dn dc]] W fun e w' => BytesTold W w' (bytesE x) e) := fun W h => logBytes_calls x _ W (HGW.out.below (below_deep HB7.out h)) (HEW.out W (below_deep HB7.out h)) hr
      have HYB : Hid (∀ W, Below w7.heap.size w7 W → Calls Tryz.prog 27 #[.agg #[.int .i64 x.1, .slice db dn dc]] W fun e w' => BytesTold W w' (bytesE x) e) := fun W h => refBytes_calls x _ W (HGW.out.below (below_deep HB7.out h)) (HEW.out W (below_deep HB7.out h)) hr
      have HRP : Hid (∀ W, Below w7.heap.size w7 W → Calls Tryz.prog 21 #[.agg #[.int .i64 x.1, .slice db dn dc]] W fun e w' => e = .returned (.int .i64 (wrongE x)) ∧ Below W.heap.size W w') := HRW.out
      rw [hpx] at HRP
      have tb : ((ofT (bytesE x)).toList != (ofT (bytesE x)).toList) = false := by simp
      clear HRW hr
      generalize bytesE x = B at *
      go_region_law (first
        | (go_simp; go_at_call 21; refine (HRP.out _ HDr.out).mono ?_; rintro e w8 ⟨rfl, hb8⟩; have hd8 : Below w7.heap.size w7 w8 := (below_deep HDr.out hb8); obtain ⟨a0, a1, al, -, -⟩ := HXW.out w8 hd8)
        | (go_simp; go_at_call 26; refine (HYA.out _ hdB).mono ?_; rintro e wA ⟨bA, nA, cA, rfl, -, hyA, hbA⟩; have hdA : Below w7.heap.size w7 wA := (below_deep hdB hbA); obtain ⟨e0, e1, el, -, -⟩ := HXW.out wA hdA; have kA := bytes_conv hyA; have kA2 := bytes_conv (Lies.below (by decide) hyB hbA))
        | (go_simp; go_at_call 27; refine (HYB.out _ hdA).mono ?_; rintro e wB ⟨bB, nB, cB, rfl, -, hyB, hbB⟩; have hdB : Below w7.heap.size w7 wB := (below_deep hdA hbB); obtain ⟨g0, g1, gl, -, -⟩ := HXW.out wB hdB; have kB := bytes_conv hyB; have kB2 := bytes_conv (Lies.below (by decide) hyA hbB))
        | (go_simp; go_at_call 26; refine (HYA.out _ hd8).mono ?_; rintro e wA ⟨bA, nA, cA, rfl, -, hyA, hbA⟩; have hdA : Below w7.heap.size w7 wA := (below_deep hd8 hbA); obtain ⟨e0, e1, el, -, -⟩ := HXW.out wA hdA; have kA := bytes_conv hyA)
        | (go_simp; go_at_call 27; refine (HYB.out _ hd8).mono ?_; rintro e wB ⟨bB, nB, cB, rfl, -, hyB, hbB⟩; have hdB : Below w7.heap.size w7 wB := (below_deep hd8 hbB); obtain ⟨g0, g1, gl, -, -⟩ := HXW.out wB hdB; have kB := bytes_conv hyB))
      all_goals
        clear hyA hyB hbA hbB
        go_wp2
        go_meet
        first
          | exact ⟨rfl, below_deep HB7.out hdB⟩
          | exact ⟨rfl, below_deep HB7.out hdA⟩
          | exact ⟨congrArg Value.bool tb, below_deep HB7.out hdB⟩
          | exact ⟨congrArg Value.bool tb, below_deep HB7.out hdA⟩
  case rest =>
    obtain ⟨rfl, HBC⟩ := hcut
    clear HX7 HB7
    have HPA := hid (logParse_calls l b n c wc (HGW.out.below HBC.out) hn (HBI.out.below (by decide) HBC.out))
    go_wp2_with fail
    refine HPA.out.mono ?_
    rintro e w8 ⟨pb, pn, pc, rfl, hd8, hb8⟩
    have HD8 := hid hd8
    have HB8 := hid (below_deep HBC.out hb8)
    have HBX8 := hid (Box.new w8 #[.int .i64 (readE l).2.1, .slice pb pn pc] 61)
    have HG8 := hid (grew w8 (.cells #[.int .i64 (readE l).2.1, .slice pb pn pc] 61))
    clear hd8 hb8 HPA
    go_upto_region 6 with fail
    have HB9 := hid (below_deep HB8.out HG8.out)
    have HD9 := hid (HD8.out.below HG8.out)
    clear HB8 HD8 HG8
    generalize w8.alloc (.cells #[.int .i64 (readE l).2.1, .slice pb pn pc] 61) = A9 at *
    generalize w8.heap.size = b9 at *
    have HPR := hid (refReadE_calls l b n c A9 (HGW.out.below HB9.out).num hn (HBI.out.below (by decide) HB9.out))
    generalize readE l = r at *
    obtain ⟨q, z⟩ := r
    simp only at HBX8 HD9 ⊢
    go_wp2_with fail
    refine HPR.out.mono ?_
    rintro e w10 ⟨rb, rn, rc, rfl, hd10, hb10⟩
    have HD10 := hid hd10
    have HDP := hid (HD9.out.below hb10)
    have HXP := hid (HBX8.out.below hb10)
    have HB10 := hid (below_deep HB9.out hb10)
    have HBXR := hid (Box.new w10 #[.int .i64 z.1, .slice rb rn rc] 61)
    have HGR := hid (grew w10 (.cells #[.int .i64 z.1, .slice rb rn rc] 61))
    clear hd10 hb10 HPR HD9 HBX8 HB9
    simp only at HD10 ⊢
    go_upto_region 7 with fail
    have HB11 := hid (below_deep HB10.out HGR.out)
    have HD11 := hid (HD10.out.below HGR.out)
    have HDQ := hid (HDP.out.below HGR.out)
    have HXQ := hid (HXP.out.below HGR.out)
    clear HB10 HD10 HDP HXP HGR
    generalize w10.alloc (.cells #[.int .i64 z.1, .slice rb rn rc] 61) = A11 at *
    generalize w10.heap.size = b11 at *
    have tq : (q == q) = true := by simp
    have HGa := hid (grew A11 (.cells #[.int .i64 z.1, .slice pb pn pc] 61))
    have HGb := hid (grew (A11.alloc (.cells #[.int .i64 z.1, .slice pb pn pc] 61)) (.cells #[.int .i64 z.1, .slice rb rn rc] 61))
    have E1 := hid ((ents_one A11 61 z pb pn pc HDQ.out).below HGb.out)
    have E2 := hid (ents_one (A11.alloc (.cells #[.int .i64 z.1, .slice pb pn pc] 61)) 61 z rb rn rc (HD11.out.below HGa.out))
    rw [World.size_alloc] at E2
    have HSE := hid (sameEnts_calls [z] _ 1 1 _ 1 1 _ E1.out E2.out)
    have HB12 := hid (below_deep HB11.out (below_deep HGa.out HGb.out))
    obtain ⟨x0, x1, xl, -, -⟩ := box2 HXQ.out
    obtain ⟨y0, y1, yl, -, -⟩ := box2 HBXR.out
    have y0' := box_past (.cells #[.int .i64 z.1, .slice pb pn pc] 61) y0
    have y1' := box_past (.cells #[.int .i64 z.1, .slice pb pn pc] 61) y1
    go_wp2_with fail
    refine HSE.out.mono ?_
    rintro e w12 ⟨rfl, hb12⟩
    have HB13 := hid (below_deep HB12.out hb12)
    clear hb12
    go_wp2
    go_ret
    exact ⟨rfl, HB13.out⟩
end Go.Proofs.YthmkgfdglkdjmadGreatDoor
