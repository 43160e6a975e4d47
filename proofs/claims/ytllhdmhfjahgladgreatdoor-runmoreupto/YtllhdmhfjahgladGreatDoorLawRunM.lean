/-
  The walk of the statement RunMore: the call returns true and changes nothing that was there.
-/
import Derived.Test.YtllhdmhfjahgladGreatDoorMapN
import Derived.Test.YtllhdmhfjahgladGreatDoorRefBuild
import Derived.Test.YtllhdmhfjahgladGreatDoorRefBefore
import Derived.Test.YtllhdmhfjahgladGreatDoorPut
import Derived.Deep.QuietTactic
import Derived.BigQuiet
namespace Go.Proofs.YtllhdmhfjahgladGreatDoor
open Go.RowKit

theorem goTo_ready {r0 : List Row} {D : List Deed3} {m : Nat} {dn : Nat → Bool} {b : ByteArray → Int} {e : Eng} (G : Good r0 D m dn b e) {p : Nat} (h : p ∈ readyE e) : goTo e p = (goE e p, 0) := by
  have hp := ready_lt h
  have h1 : hindE e p = 0 := by
    have h2 := hind_ready G hp
    have h3 := (List.mem_filter.1 h).2
    rw [h3] at h2
    exact of_decide_eq_true h2
  rw [goTo_hind, if_pos h1, Int.toNat_natCast]
theorem getD_mem7 {α : Type} [Inhabited α] {l : List α} {i : Nat} (h : i < l.length) : l.getD i default ∈ l := by simp [List.getD, h]
theorem Good.by_lo {r0 : List Row} {D : List Deed3} {m : Nat} {dn : Nat → Bool} {b : ByteArray → Int} {e : Eng} (G : Good r0 D m dn b e) {k : ByteArray} {v : Ver} (h : v ∈ vsOf k e.chains) : -1 ≤ v.by_ := by
  rw [G.vs k] at h
  rcases List.mem_append.1 h with h | h
  · unfold oldV at h
    split at h
    · simp only [List.mem_singleton] at h
      rw [h]
      exact G.lo k
    · cases h
  · obtain ⟨i, _, _, rfl, _⟩ := newsV_by h
    rw [verI_by]; omega
/-- What a chain's version that is made is, ahead of the deed behind its own, when one more is done. -/
theorem more_here {r0 : List Row} {D : List Deed3} {m : Nat} {dn : Nat → Bool} {b : ByteArray → Int} {e : Eng} (G : Good r0 D m dn b e) (hD : D.length ≤ 1954687338211) {p : Nat} (hp : p ∈ readyE e) {q : Nat} (hq : q < e.chains.length) {z : Nat} (hz : z < (e.chains.getD q default).2.length) :
    (-1 ≤ ((e.chains.getD q default).2.getD z default).by_ ∧ ((e.chains.getD q default).2.getD z default).by_ ≤ 1954687338211) ∧ (((e.chains.getD q default).2.getD z default).made = true → before (goE e p).chains (e.chains.getD q default).1 (((e.chains.getD q default).2.getD z default).by_ + 1) = (e.chains.getD q default).2.getD z default) := by
  have hc : e.chains.getD q default ∈ e.chains := memC hq
  have hv : (e.chains.getD q default).2.getD z default ∈ (e.chains.getD q default).2 := getD_mem7 hz
  have hv2 : (e.chains.getD q default).2.getD z default ∈ vsOf (e.chains.getD q default).1 e.chains := by rw [vsOf_own G.srt hc]; exact hv
  have h1 := G.by_lo hv2
  have h2 := G.by_lt hv2
  have h3 := G.base
  have h4 := G.len
  have h5 := G.le
  exact ⟨⟨h1, by omega⟩, fun hm => more_made G (ready_at G hp).1 (ready_needs hp) hc hv hm⟩
/-- Who is ready, as the statement keeps it. -/
def nowMap (L : List Int) : Int → Option Value := fun q => if q ∈ L then some (.bool true) else none
theorem nowMap_snoc (L : List Int) (x : Int) : nowMap (L ++ [x]) = fun q => if q = x then some (.bool true) else nowMap L q := by
  funext q
  unfold nowMap
  by_cases h : q = x
  · subst h; simp
  · simp [h]
theorem nowMap_get (L : List Int) (x : Int) : (nowMap L x).getD (.bool false) = .bool (decide (x ∈ L)) := by
  unfold nowMap
  by_cases h : x ∈ L
  · simp [h]
  · simp [h]
theorem inKey_of {x : Int} (h0 : 0 ≤ x) (h1 : x ≤ 9223372036854775807) : InKey x := WalkArith.wf_i64 (by omega)
theorem map_ne {w : World} {b n : Nat} {f : Int → Option Value} (h : MapN w b n f) {k o : Nat} {u : Value} (hc : w.cell? ⟨k, o, none⟩ = some u) : k ≠ b := by
  rintro rfl
  obtain ⟨D, ⟨es, clock, h1, _⟩, _⟩ := h
  rw [World.cell?] at hc
  simp [h1] at hc
theorem ready_ints {r0 : List Row} {D : List Deed3} {m : Nat} {dn : Nat → Bool} {b : ByteArray → Int} {e : Eng} (G : Good r0 D m dn b e) {p q : Nat} (hp : p ∈ readyE e) (hq : q ∈ readyE e) : decide ((q : Int) ∈ ints (readyE (goE e p))) = !decide (q = p) := by
  have h := ready_still G hp hq
  have h1 : (q : Int) ∈ ints (readyE (goE e p)) ↔ q ∈ readyE (goE e p) := by
    unfold ints
    rw [List.mem_map]
    constructor
    · rintro ⟨x, hx, hxe⟩
      have : x = q := by omega
      rw [← this]; exact hx
    · exact fun hx => ⟨q, hx, rfl⟩
  by_cases hqp : q = p
  · have : ¬ ((q : Int) ∈ ints (readyE (goE e p))) := fun hx => (h.1 (h1.1 hx)) hqp
    simp [hqp] at this ⊢
    exact this
  · have : (q : Int) ∈ ints (readyE (goE e p)) := h1.2 (h.2 hqp)
    simp [hqp, this]
/-- What lies in memory behind Go. -/
structure GoLaid (A wx : World) (bx : Nat) (cb : Option Addr) (cn cc : Nat) (db : Option Addr) (dn dc : Nat) (sb : Option Addr) (sn sc : Nat) (eb : Option Addr) (en ec : Nat) (x : Eng) : Prop where
  box : Box wx bx #[.slice cb cn cc, .slice db dn dc, .slice sb sn sc, .slice eb en ec, .int .i64 x.base] 33
  lies : EngLies wx cb cn cc db dn dc sb sn sc eb en ec x
  bel : Below A.heap.size A wx

set_option maxHeartbeats 16000000 in
set_option maxRecDepth 100000 in
theorem runMore_calls (l : List Row) (BS : List (List Deed3)) (Pl : List Int) (at_ : Int) (lb : Option Addr) (ln lc : Nat) (bb : Option Addr) (bn bc : Nat) (pb : Option Addr) (pn pc : Nat) (w : World) (hG : GroundN w)
    (hh : Holds w lb ln lc l) (hsm : Small l) (hbs : BatchesIn w bb bn bc BS) (hp : Ints w pb pn pc Pl) (hN : manyB BS ≤ 1048576) :
    Calls Tryz.prog 4 #[.slice lb ln lc, .slice bb bn bc, .slice pb pn pc, .int .i64 at_] w fun e w' => e = .returned (.bool true) ∧ Below w.heap.size w w' := by
  have HH := hid hh
  have HSM := hid hsm
  have HBS := hid hbs
  have HP := hid hp
  have HN := hid hN
  have HAL := hid (rlive_calls w hG)
  clear hh hsm hbs hp hN hG
  go_enter Tryz.func4, Tryz.ntmps4
  go_wp2_with fail
  refine HAL.out.mono ?_
  rintro x w1 ⟨rfl, hb1⟩
  have HB1 := hid hb1
  have HWR := hid (refWrong_holds l lb ln lc w1 HSM.out (HH.out.below hb1))
  clear hb1 HAL
  go_wp2_with fail
  refine HWR.out.mono ?_
  rintro x w2 ⟨rfl, hb2⟩
  have HB2 := hid (below_deep HB1.out hb2)
  clear hb2 HWR
  by_cases hz : wrong l = 0
  · rw [hz]
    have HR := hid (right_of hz)
    have RB := hid (refBuild_calls l BS Pl lb ln lc bb bn bc pb pn pc w2 HR.out HSM.out (HH.out.below HB2.out) (HBS.out.below HB2.out) (HP.out.below (by decide) HB2.out) (Nat.le_trans HN.out (by decide)))
    clear hz
    go_wp2_with fail
    refine RB.out.mono ?_
    rintro x w5 ⟨v5, D, m, dq, bq, e, rfl, G, hD, hv5, hb5⟩
    obtain ⟨cb, cn, cc, db, dn, dc, sb, sn, sc, eb, en, ec, rfl, hl5⟩ := hv5
    have HGD := hid G
    have HDN : Hid (D.length ≤ 1954687338211) := by
      have h1 := HN.out
      show _ ≤ _
      omega
    have HGE := hid (grew w5 (.cells #[.slice cb cn cc, .slice db dn dc, .slice sb sn sc, .slice eb en ec, .int .i64 e.base] 33))
    have HBE := hid (Box.new w5 #[.slice cb cn cc, .slice db dn dc, .slice sb sn sc, .slice eb en ec, .int .i64 e.base] 33)
    have HLE := hid (hl5.below HGE.out)
    have HB5 := hid (below_deep HB2.out (below_deep hb5 HGE.out))
    clear G hD hl5 hb5 RB HGE HH HSM HBS HP HN HR
    go_upto_region 6 with fail
    generalize w5.alloc (.cells #[.slice cb cn cc, .slice db dn dc, .slice sb sn sc, .slice eb en ec, .int .i64 e.base] 33) = A5 at *
    generalize w5.heap.size = be at *
    obtain ⟨x0, x1, x2, x3, x4⟩ := HBE.out.cells5
    have hel : be < A5.heap.size := HBE.out.lt
    have PY := hid (runReady_calls HGD.out HDN.out _ A5 ⟨_, _, _, _, _, _, _, _, _, _, _, _, rfl, HLE.out⟩)
    go_wp2_with fail
    refine PY.out.mono ?_
    rintro x w6 ⟨qb, qn, qc, rfl, h6, hb6⟩
    have HQ6 := hid h6
    have HQN : Hid (qn = (readyE e).length) := by
      have := Ints.count h6
      rw [ints, List.length_map] at this
      exact this
    have hqm := Nat.le_trans h6.hdr.le h6.hdr.max
    unfold maxLen at hqm
    have HE6 := hid (HBE.out.below hb6)
    have HL6 := hid (HLE.out.below hb6)
    have HB6 := hid (below_deep HB5.out hb6)
    clear h6 hb6 PY x0 x1 x2 x3 x4 hel HBE HLE
    by_cases hneg : at_ < 0
    · have t1 : decide (at_ < 0) = true := by simpa using hneg
      clear hneg
      go_wp2
      go_ret
      exact ⟨rfl, HB6.out⟩
    obtain ⟨k, rfl⟩ : ∃ k : Nat, at_ = (k : Int) := ⟨at_.toNat, by omega⟩
    have t1 : decide ((k : Int) < 0) = false := by simp
    by_cases hbig : qn ≤ k
    · have t2 : decide ((qn : Int) ≤ (k : Int)) = true := by simp; omega
      have t3 : decide (qn ≤ k) = true := by simp; omega
      clear hneg
      go_wp2
      go_ret
      exact ⟨rfl, HB6.out⟩
    have t2 : decide ((qn : Int) ≤ (k : Int)) = false := by simp; omega
    have t3 : decide (qn ≤ k) = false := by simp; omega
    have hkq : k < qn := by omega
    have hki : (k : Int) < (qn : Int) := by omega
    clear hneg hbig
    obtain ⟨b1, o1, rfl, hr1⟩ : ∃ b1 o1, qb = some ⟨b1, o1, none⟩ ∧ Run w6 b1 o1 (intsC (ints (readyE e))) := by
      rcases HQ6.out.run with h | h
      · omega
      · exact h
    have HAT : Hid (∀ j : Nat, j < qn → w6.cell? ⟨b1, o1 + j, none⟩ = some (.int .i64 ((readyE e).getD j 0 : Nat)) ∧ (readyE e).getD j 0 ∈ readyE e) := fun j hj => by
      have hj' : j < (readyE e).length := by rw [← HQN.out]; exact hj
      obtain ⟨h1, h2⟩ := ready_of_at hj'
      have := hr1 j _ (intsC_at (by rw [ints, List.length_map]; exact hj'))
      rw [h2] at this
      exact ⟨this, h1⟩
    obtain ⟨k0, HPR⟩ : w6.cell? ⟨b1, o1 + k, none⟩ = some (.int .i64 ((readyE e).getD k 0 : Nat)) ∧ Hid ((readyE e).getD k 0 ∈ readyE e) := HAT.out k hkq
    have HPE : Hid ((readyE e).getD k 0 = (readyE e).getD k 0) := rfl
    generalize (readyE e).getD k 0 = p at *
    have hb1 : b1 < w6.heap.size := by simpa using World.block_lt_of_cell? _ _ k0
    have HK0 := hid k0
    have HGT := hid (goTo_ready HGD.out HPR.out)
    have PGO : Hid (∀ W, EngLies W cb cn cc db dn dc sb sn sc eb en ec e → Calls Tryz.prog 16 #[.agg #[.slice cb cn cc, .slice db dn dc, .slice sb sn sc, .slice eb en ec, .int .i64 e.base], .int .i64 (p : Int)] W fun x w' => ∃ v, x = .returned (.tuple #[v, .int .i64 0]) ∧ EngIn w' v (goE e p) ∧ Below W.heap.size W w') := fun W hl => by
      have := runGo_calls HGD.out HDN.out (p : Int) _ W ⟨_, _, _, _, _, _, _, _, _, _, _, _, rfl, hl⟩
      unfold GoTold at this
      rw [HGT.out] at this
      exact this
    clear hr1
    go_wp2
    obtain ⟨x0, x1, x2, x3, x4⟩ := HE6.out.cells5
    have hel : be < w6.heap.size := HE6.out.lt
    go_cut [11, 12] (fun px vw wx => ∃ bx cb7 cn7 cc7 db7 dn7 dc7 sb7 sn7 sc7 eb7 en7 ec7, px = .pointer (some ⟨bx, 0, none⟩) ∧ vw = .int .i64 0 ∧ Hid (GoLaid w6 wx bx cb7 cn7 cc7 db7 dn7 dc7 sb7 sn7 sc7 eb7 en7 ec7 (goE e p)))
    case first =>
      have HDr := hid (step_drew (Below.refl w6.heap.size w6))
      clear HAT HPE HQ6 HQN HPR HGT HK0
      have HDa := hid (step_drew (step_box (Below.refl w6.heap.size w6) (.cells zeroA 33)))
      have HZA : Hid (Box (w6.alloc (.cells zeroA 33)).drew w6.heap.size zeroA 33) := (Box.new w6 _ _).drew
      have HK : Hid (∀ w', Below w6.heap.size w6 w' → (w'.cell? ⟨be, 0, none⟩ = some (.slice cb cn cc) ∧ w'.cell? ⟨be, 1, none⟩ = some (.slice db dn dc) ∧ w'.cell? ⟨be, 2, none⟩ = some (.slice sb sn sc) ∧ w'.cell? ⟨be, 3, none⟩ = some (.slice eb en ec) ∧ w'.cell? ⟨be, 4, none⟩ = some (.int .i64 e.base) ∧ w'.cell? ⟨b1, o1 + k, none⟩ = some (.int .i64 (p : Int)) ∧ Below w6.heap.size w6 w')) := fun w' hb => ⟨(HE6.out.below hb).cell 0 _ rfl, (HE6.out.below hb).cell 1 _ rfl, (HE6.out.below hb).cell 2 _ rfl, (HE6.out.below hb).cell 3 _ rfl, (HE6.out.below hb).cell 4 _ rfl, kept_cell hb k0, hb⟩
      go_region_held3 (fun w' => w'.cell? ⟨be, 0, none⟩ = some (.slice cb cn cc) ∧ w'.cell? ⟨be, 1, none⟩ = some (.slice db dn dc) ∧ w'.cell? ⟨be, 2, none⟩ = some (.slice sb sn sc) ∧ w'.cell? ⟨be, 3, none⟩ = some (.slice eb en ec) ∧ w'.cell? ⟨be, 4, none⟩ = some (.int .i64 e.base) ∧ w'.cell? ⟨b1, o1 + k, none⟩ = some (.int .i64 (p : Int)) ∧ Below w6.heap.size w6 w')
        (first
          | with_reducible exact HK.out _ HDr.out
          | with_reducible exact HK.out _ hb67
          | with_reducible exact HK.out _ (five5_below hb67 (Nat.le_refl _))
          | with_reducible exact HK.out _ (step_box hb67 _)
          | with_reducible exact HK.out _ HDa.out)
        (first | (go_at_call 16; refine (PGO.out _ ?_).mono ?_; (first | with_reducible exact HL6.out.below HDr.out | with_reducible exact HL6.out.below HDa.out); rintro x w7 ⟨v7, hx7, hv7, hb7⟩; obtain ⟨cb7, cn7, cc7, db7, dn7, dc7, sb7, sn7, sc7, eb7, en7, ec7, hv, hl7⟩ := hv7; subst hv; subst hx7; have hb67 : Below w6.heap.size w6 w7 := (by first | with_reducible exact below_deep HDr.out hb7 | with_reducible exact below_deep HDa.out hb7); (first | (have BX : Box w7 w6.heap.size zeroA 33 := (by with_reducible exact HZA.out.below hb7); obtain ⟨g0, g1, g2, g3, g4⟩ := BX.cells5; obtain ⟨f0, f1, f2, f3, f4⟩ := BX.free5; have hbl : w6.heap.size < w7.heap.size := BX.lt) | skip)))
      all_goals
        have HL7 := hid hl7
        have HB67 := hid hb67
        clear hl7 hb7 hb67 PGO
        go_wp2
        go_meet
      case rel => exact ⟨_, _, _, _, _, _, _, _, _, _, _, _, _, rfl, rfl, ⟨Box.new w7 _ _, HL7.out.below (grew _ _), step_box HB67.out _⟩⟩
      case rel => exact ⟨_, _, _, _, _, _, _, _, _, _, _, _, _, rfl, rfl, ⟨put5_box BX _ _ _ _ _, HL7.out.put BX (put5_off _ _ _ _ _ _ _), put5_below HB67.out (Nat.le_refl _) _ _ _ _ _⟩⟩
    case rest =>
      obtain ⟨bx, cb7, cn7, cc7, db7, dn7, dc7, sb7, sn7, sc7, eb7, en7, ec7, rfl, rfl, HGL⟩ := hcut
      have HE7 := hid (HE6.out.below HGL.out.bel)
      have HL7 := hid (HL6.out.below HGL.out.bel)
      have HX7 := hid HGL.out.box
      have HM7 := hid HGL.out.lies
      have HB7 := hid (below_deep HB6.out HGL.out.bel)
      have HBQ := hid HGL.out.bel
      have HRA := hid (ready_at HGD.out HPR.out)
      have HGN := hid (HGD.out.go HRA.out.1 (ready_needs HPR.out))
      clear HE6 HL6 HB6 HGL PGO x0 x1 x2 x3 x4 hel k0 hb1
      have HSE : Hid (sn7 = sn) := by
        have h1 := Ints.count HM7.out.st
        have h2 := Ints.count HL7.out.st
        have h3 : (goE e p).state.length = e.state.length := by show (e.state.set p 1).length = _; rw [List.length_set]
        show _ = _
        omega
      obtain rfl : sn7 = sn := HSE.out
      have PSD := hid (sameDeeds_calls e.deeds db7 dn7 dc7 db dn dc wc HM7.out.de HL7.out.de)
      obtain ⟨x0, x1, x2, x3, x4⟩ := HX7.out.cells5
      obtain ⟨y0, y1, y2, y3, y4⟩ := HE7.out.cells5
      have hxl : bx < wc.heap.size := HX7.out.lt
      have hel : be < wc.heap.size := HE7.out.lt
      go_wp2_with fail
      refine PSD.out.mono ?_
      rintro x w8 ⟨rfl, hb8⟩
      have HE8 := hid (HE7.out.below hb8)
      have HL8 := hid (HL7.out.below hb8)
      have HX8 := hid (HX7.out.below hb8)
      have HM8 := hid (HM7.out.below hb8)
      have HB8 := hid (below_deep HB7.out hb8)
      have HBQ8 := hid (below_deep HBQ.out hb8)
      have HK8 := hid (kept_cell HBQ8.out HK0.out)
      have HSC := hid (Ints.count HL7.out.st)
      have HEC := hid (Ends.count HL7.out.en)
      have HEL := hid HGD.out.elen
      have HSL := hid HGD.out.slen
      have hsm := Nat.le_trans HL7.out.st.hdr.le HL7.out.st.hdr.max
      unfold maxLen at hsm
      clear hb8 PSD x0 x1 x2 x3 x4 y0 y1 y2 y3 y4 hxl hel HE7 HL7 HX7 HM7 HB7 HBQ HSE
      have harr := regsEq
      obtain ⟨x0, x1, x2, x3, x4⟩ := HX8.out.cells5
      obtain ⟨y0, y1, y2, y3, y4⟩ := HE8.out.cells5
      have hxl : bx < w8.heap.size := HX8.out.lt
      have hel : be < w8.heap.size := HE8.out.lt
      go_wp2
      clear x0 x1 x2 x3 x4 y0 y1 y2 y3 y4 hxl hel
      go_loopw [73] (fun i wr => ∃ j : Nat, j ≤ sn7 ∧ i = .int .i64 j ∧ Hid (Below w8.heap.size w8 wr)) (fun i _ => sn7 - (intOf i).toNat)
      case atStart => exact ⟨0, Nat.zero_le _, rfl, Below.refl _ _⟩
      case round =>
        obtain ⟨j, hj, rfl, HBR⟩ := hrel
        obtain ⟨x0, x1, x2, x3, x4⟩ := (HX8.out.below HBR.out).cells5
        obtain ⟨y0, y1, y2, y3, y4⟩ := (HE8.out.below HBR.out).cells5
        have hxl : bx < wr.heap.size := (HX8.out.below HBR.out).lt
        have hel : be < wr.heap.size := (HE8.out.below HBR.out).lt
        have k0 := kept_cell HBR.out HK8.out
        have hb1 : b1 < wr.heap.size := by simpa using World.block_lt_of_cell? _ _ k0
        by_cases hlt : j < sn7
        · have hi : (j : Int) < (sn7 : Int) := by omega
          by_cases hjp : j = p
          · subst hjp
            have t : ((j : Int) != (j : Int)) = false := by simp
            go_wp2
            go_quiet (fail)
            go_wp2
            go_roundw
            case rel => exact ⟨j + 1, by omega, by go_num, below_drewN HBR.out _⟩
            case measure => simp [intOf]; omega
          · have t : ((j : Int) == (p : Int)) = false := by simp; omega
            have tn : (j == p) = false := by simpa using hjp
            have t' : ((j : Int) != (p : Int)) = true := by simp; omega
            have hjs : j < e.state.length := by rw [← HSC.out]; exact hlt
            have hje : j < e.ends.length := by have := HEL.out; have := HSL.out; omega
            have hjs7 : j < (goE e p).state.length := by show j < (e.state.set p 1).length; rw [List.length_set]; exact hjs
            have hje7 : j < (goE e p).ends.length := by show j < (e.ends.set p _).length; rw [List.length_set]; exact hje
            have e1 : (goE e p).state.getD j 0 = e.state.getD j 0 := go_state hjp
            have e2 : (goE e p).ends.getD j default = e.ends.getD j default := go_ends hjp
            obtain ⟨s1, a1, rfl, hr1⟩ : ∃ s1 a1, sb = some ⟨s1, a1, none⟩ ∧ Run wr s1 a1 (intsC e.state) := by
              rcases (HL8.out.below HBR.out).st.run with h | h
              · omega
              · exact h
            obtain ⟨s7, a7, rfl, hr7⟩ : ∃ s1 a1, sb7 = some ⟨s1, a1, none⟩ ∧ Run wr s1 a1 (intsC (goE e p).state) := by
              rcases (HM8.out.below HBR.out).st.run with h | h
              · omega
              · exact h
            obtain ⟨f1, g1, rfl, hn1⟩ : ∃ s1 a1, eb = some ⟨s1, a1, none⟩ ∧ Run wr s1 a1 (endCells e.ends) := by
              rcases (HL8.out.below HBR.out).en.run with h | h
              · have := HEC.out; omega
              · exact h
            obtain ⟨f7, g7, rfl, hn7⟩ : ∃ s1 a1, eb7 = some ⟨s1, a1, none⟩ ∧ Run wr s1 a1 (endCells (goE e p).ends) := by
              rcases (HM8.out.below HBR.out).en.run with h | h
              · have := Ends.count (HM8.out.below HBR.out).en; omega
              · exact h
            have c1 := hr1 j _ (intsC_at hjs)
            have c7 := hr7 j _ (intsC_at hjs7)
            have d1 := Ends.cells hn1 hje
            have d7 := Ends.cells hn7 hje7
            rw [e1] at c7
            rw [e2] at d7
            have hen : (j : Int) < (en : Int) := by have := HEC.out; omega
            have hen7 : (j : Int) < (en7 : Int) := by have := Ends.count (HM8.out.below HBR.out).en; omega
            generalize e.state.getD j 0 = sv at *
            generalize e.ends.getD j default = ev at *
            obtain ⟨d10, d11, d12, d13, d14⟩ := d1
            obtain ⟨d70, d71, d72, d73, d74⟩ := d7
            have hs1 : s1 < wr.heap.size := by simpa using World.block_lt_of_cell? _ _ c1
            have hs7 : s7 < wr.heap.size := by simpa using World.block_lt_of_cell? _ _ c7
            have hf1 : f1 < wr.heap.size := by simpa using World.block_lt_of_cell? _ _ d10
            have hf7 : f7 < wr.heap.size := by simpa using World.block_lt_of_cell? _ _ d70
            clear hr1 hr7 hn1 hn7 e1 e2 hjs hje hjs7 hje7 hjp
            go_wp2
            go_quiet (fail)
            go_wp2
            go_roundw
            case rel => exact ⟨j + 1, by omega, by go_num, below_drewN HBR.out _⟩
            case measure => simp [intOf]; omega
        · obtain rfl : j = sn7 := by omega
          generalize wr = wa at *
          have HMH := hid (fun q hq z hz => more_here HGD.out HDN.out HPR.out (q := q) hq (z := z) hz)
          have HCL := hid (HL8.out.below HBR.out).ch.len
          have HFX := hid (HGN.out.fit HDN.out)
          have hcm := Nat.le_trans (HL8.out.below HBR.out).ch.hdr.le (HL8.out.below HBR.out).ch.hdr.max
          unfold maxLen at hcm
          have HFE := hid (HGD.out.fit HDN.out)
          have HBA := hid HBR.out
          clear HBR x1 x2 x3 x4 y1 y2 y3 y4 k0 hb1 hlt hj
          go_wp2
          clear x0 y0 hxl hel
          go_loopw [112] (fun i wr => ∃ q : Nat, q ≤ cn ∧ i = .int .i64 q ∧ Hid (Below wa.heap.size wa wr)) (fun i _ => cn - (intOf i).toNat)
          case atStart => exact ⟨0, Nat.zero_le _, rfl, Below.refl _ _⟩
          case round =>
            obtain ⟨q, hq, rfl, HBR⟩ := hrel
            have HBR8 := hid (below_deep HBA.out HBR.out)
            by_cases hql : q < cn
            · have hi : (q : Int) < (cn : Int) := by omega
              have hqL : q < e.chains.length := by rw [← HCL.out]; exact hql
              obtain ⟨c1, p1, rfl, hrun⟩ : ∃ b o, cb = some ⟨b, o, none⟩ ∧ ∀ i, i < cn → ChainHere wr b (o + i * 2) (e.chains.getD i default) := by
                rcases (HL8.out.below HBR8.out).ch.run with h | h
                · omega
                · exact h
              obtain ⟨vb, vn, vc, g0, g1, hvv, hkz⟩ := hrun q hql
              have hc1 : c1 < wr.heap.size := by simpa using World.block_lt_of_cell? _ _ g0
              have HVN := hid (Vers.count hvv)
              have hvm : vn ≤ 1954687338214 := by rw [Vers.count hvv]; exact HFE.out.few _ (memC hqL)
              have HMQ := hid (HMH.out q hqL)
              generalize (e.chains.getD q default).1 = key at *
              generalize (e.chains.getD q default).2 = vs at *
              have HGC := hid (grew wr (.cells #[.string key, .slice vb vn vc] 54))
              have HBC := hid (Box.new wr #[.string key, .slice vb vn vc] 54)
              have HVV := hid (hvv.below (by decide) HGC.out)
              have HBC8 := hid (below_deep HBR8.out HGC.out)
              have HBCA := hid (below_deep HBR.out HGC.out)
              clear hrun hvv hkz HBR HBR8
              go_upto_region 21 with fail
              clear g0 g1 hc1
              generalize wr.alloc (.cells #[.string key, .slice vb vn vc] 54) = A2 at *
              generalize wr.heap.size = cx at *
              have n1 := HBC.out.cell 1 _ rfl
              have hcl : cx < A2.heap.size := HBC.out.lt
              go_wp2
              clear n1 hcl
              go_loopw [119] (fun i wr => ∃ z : Nat, z ≤ vn ∧ i = .int .i64 z ∧ Hid (Below A2.heap.size A2 wr)) (fun i _ => vn - (intOf i).toNat)
              case atStart => exact ⟨0, Nat.zero_le _, rfl, Below.refl _ _⟩
              case round =>
                obtain ⟨z, hz, rfl, HBZ⟩ := hrel
                by_cases hzl : z < vn
                · have hi2 : (z : Int) < (vn : Int) := by omega
                  have hzV : z < vs.length := by rw [← HVN.out]; exact hzl
                  obtain ⟨u1, w1', rfl, hur⟩ : ∃ b o, vb = some ⟨b, o, none⟩ ∧ Run wr b o (flat verC vs) := by
                    have hv : Vers wr vb vn vc vs := HVV.out.below (by decide) HBZ.out
                    rcases hv.run with h | h
                    · omega
                    · exact h
                  have hvc := Vers.cells hur hzV
                  obtain ⟨⟨hlo, hhi⟩, hbef⟩ := HMQ.out z hzV
                  generalize vs.getD z default = v at *
                  obtain ⟨y, mm, hh, n2⟩ := v
                  obtain ⟨h0, h1, h2, h3⟩ := hvc
                  simp only [Ver.by_, Ver.made, Ver.has_, Ver.n] at h0 h1 h2 h3 hlo hhi hbef
                  have hu1 : u1 < wr.heap.size := by simpa using World.block_lt_of_cell? _ _ h0
                  have HGV := hid (grew wr (.cells #[.int .i64 y, .bool mm, .bool hh, .int .i64 n2] 56))
                  have HBV := hid (Four.box wr y mm hh n2 56)
                  have HB3 := hid (below_deep HBZ.out HGV.out)
                  clear hur
                  go_upto_region 24 with fail
                  clear h0 h1 h2 h3 hu1
                  generalize wr.alloc (.cells #[.int .i64 y, .bool mm, .bool hh, .int .i64 n2] 56) = A3 at *
                  generalize wr.heap.size = vx at *
                  have HX3 := hid (HX8.out.below (below_deep HBC8.out HB3.out))
                  have HM3 := hid (HM8.out.below (below_deep HBC8.out HB3.out))
                  have HC3 := hid (HBC.out.below HB3.out)
                  obtain ⟨v0, v1, v2, v3⟩ := HBV.out
                  have hvl : vx < A3.heap.size := HBV.out.lt
                  cases mm with
                  | false =>
                    clear hbef
                    go_quiet (fail)
                    go_wp2
                    go_roundw
                    case rel => exact ⟨z + 1, by omega, by go_num, below_drewN HB3.out _⟩
                    case measure => simp [intOf]; omega
                  | true =>
                    have HBE := hid (hbef rfl)
                    have hsum : IntKind.i64.wrap (y + 1) = y + 1 := by rw [IntKind.wrap_i64]; omega
                    have PB : Hid (∀ W, Below A3.heap.size A3 W → Calls Tryz.prog 18 #[.slice cb7 cn7 cc7, .string key, .int .i64 (y + 1)] W fun x w' => x = .returned (.agg #[.int .i64 y, .bool true, .bool hh, .int .i64 n2]) ∧ Below W.heap.size W w') := fun W hb => by
                      refine (refBefore_calls (goE e p).chains cb7 cn7 cc7 key (y + 1) W HFX.out.srt (HM3.out.below hb).ch).mono ?_
                      rintro x w' ⟨y', m', h', x', hv, rfl, hb'⟩
                      rw [HBE.out] at hv
                      simp only [Prod.mk.injEq] at hv
                      obtain ⟨rfl, rfl, rfl, rfl⟩ := hv
                      exact ⟨rfl, hb'⟩
                    have HDr := hid (step_drew (Below.refl A3.heap.size A3))
                    have HK : Hid (∀ w', Below A3.heap.size A3 w' → (w'.cell? ⟨bx, 0, none⟩ = some (.slice cb7 cn7 cc7) ∧ w'.cell? ⟨cx, 0, none⟩ = some (.string key) ∧ w'.cell? ⟨vx, 0, none⟩ = some (.int .i64 y) ∧ w'.cell? ⟨vx, 1, none⟩ = some (.bool true) ∧ w'.cell? ⟨vx, 2, none⟩ = some (.bool hh) ∧ w'.cell? ⟨vx, 3, none⟩ = some (.int .i64 n2) ∧ Below A3.heap.size A3 w')) := fun w' hb => ⟨(HX3.out.below hb).cell 0 _ rfl, (HC3.out.below hb).cell 0 _ rfl, kept_cell hb v0, kept_cell hb v1, kept_cell hb v2, kept_cell hb v3, hb⟩
                    have hxl : bx < A3.heap.size := HX3.out.lt
                    have hcl : cx < A3.heap.size := HC3.out.lt
                    clear hbef hlo hhi
                    go_region_held3 (fun w' => w'.cell? ⟨bx, 0, none⟩ = some (.slice cb7 cn7 cc7) ∧ w'.cell? ⟨cx, 0, none⟩ = some (.string key) ∧ w'.cell? ⟨vx, 0, none⟩ = some (.int .i64 y) ∧ w'.cell? ⟨vx, 1, none⟩ = some (.bool true) ∧ w'.cell? ⟨vx, 2, none⟩ = some (.bool hh) ∧ w'.cell? ⟨vx, 3, none⟩ = some (.int .i64 n2) ∧ Below A3.heap.size A3 w')
                      (first
                        | with_reducible exact HK.out _ HDr.out
                        | with_reducible exact HK.out _ hb93)
                      (first
                        | (go_at_call 18; refine (PB.out _ ?_).mono ?_; with_reducible exact HDr.out; rintro x w9 ⟨rfl, hb9⟩; have hb93 : Below A3.heap.size A3 w9 := (by with_reducible exact below_deep HDr.out hb9)))
                    all_goals
                      have HB9 := hid (below_deep HB3.out hb93)
                      clear hb9 hb93 PB HK
                      go_wp2
                      go_roundw
                    case rel => exact ⟨z + 1, by omega, by go_num, HB9⟩
                    case measure => simp [intOf]; omega
                · obtain rfl : z = vn := by omega
                  go_wp2
                  go_roundw
                  case rel => exact ⟨q + 1, by omega, by go_num, below_deep HBCA.out HBZ.out⟩
                  case measure => simp [intOf]; omega
            · obtain rfl : q = cn := by omega
              generalize wr = wb at *
              have HX9 := hid (HX8.out.below HBR8.out)
              have HM9 := hid (HM8.out.below HBR8.out)
              have HK9 := hid (kept_cell HBR8.out HK8.out)
              have HB9 := hid (below_deep HB8.out HBR8.out)
              have HAT9 : Hid (∀ j : Nat, j < qn → wb.cell? ⟨b1, o1 + j, none⟩ = some (.int .i64 ((readyE e).getD j 0 : Nat)) ∧ (readyE e).getD j 0 ∈ readyE e) := fun j hj => ⟨kept_cell HBR8.out (kept_cell HBQ8.out (HAT.out j hj).1), (HAT.out j hj).2⟩
              have hmm := @run_makeMap Tryz.prog
              have HMI := hid (MapN.made wb)
              have HGM := hid (grew wb (.map #[] 0))
              have HXM := hid (HX9.out.below HGM.out)
              have HBM := hid (below_deep HB9.out HGM.out)
              have PX := hid (runReady_calls HGN.out HDN.out _ (wb.alloc (.map #[] 0)) ⟨_, _, _, _, _, _, _, _, _, _, _, _, rfl, HM9.out.below HGM.out⟩)
              obtain ⟨x0, x1, x2, x3, x4⟩ := HX9.out.cells5
              have hxl : bx < wb.heap.size := HX9.out.lt
              clear HBR HBR8 HMH HFX HFE HBA HCL hql hq hcm HX8 HM8 HK8 HB8 HBQ8 HE8 HL8 HAT HK0
              go_wp2_with fail
              refine PX.out.mono ?_
              rintro x w10 ⟨rb, rn, rc, rfl, h10, hb10⟩
              have HI10 := hid h10
              have HM10 := hid (HMI.out.below hb10 HMI.out.lt)
              have HB10 := hid (below_deep HBM.out hb10)
              have HAT10 : Hid (∀ j : Nat, j < qn → w10.cell? ⟨b1, o1 + j, none⟩ = some (.int .i64 ((readyE e).getD j 0 : Nat)) ∧ (readyE e).getD j 0 ∈ readyE e) := fun j hj => ⟨kept_cell hb10 (kept_cell HGM.out (HAT9.out j hj).1), (HAT9.out j hj).2⟩
              have HK10 := hid (kept_cell hb10 (kept_cell HGM.out HK9.out))
              have hrm := Nat.le_trans h10.hdr.le h10.hdr.max
              unfold maxLen at hrm
              have HRC := hid (Ints.count h10)
              have HRL : Hid (rn ≤ 1954687338211) := by
                have h1 : (readyE (goE e p)).length ≤ (goE e p).deeds.length := by
                  have := List.length_filter_le (fun q => decide ((goE e p).state.getD q 0 = 0) && (needsE (goE e p) q).isEmpty) (List.range (goE e p).deeds.length)
                  rw [List.length_range] at this
                  exact this
                have h2 := HGN.out.len
                have h3 := Ints.count h10
                rw [ints, List.length_map] at h3
                have h4 := HDN.out
                show _ ≤ _
                omega
              have HMW : Hid (w.heap.size ≤ wb.heap.size) := HB9.out.size
              have HMB : Hid (wb.heap.size ≤ w10.heap.size) := by
                have := hb10.size
                rw [World.size_alloc] at this
                show _ ≤ _
                omega
              have HSM2 : Hid (∀ x ∈ ints (readyE (goE e p)), 0 ≤ x ∧ x ≤ 9223372036854775807) := fun x hx => by
                unfold ints at hx
                obtain ⟨q, hq, rfl⟩ := List.mem_map.1 hx
                have h1 := ready_lt hq
                have h2 := HGN.out.len
                have h4 := HDN.out
                omega
              clear h10 hb10 PX x0 x1 x2 x3 x4 hxl HAT9 HK9 HX9 HM9 HGM HXM HBM HMI
              generalize wb.heap.size = mb at *
              have HRE := hid (fun q hq => ready_ints HGD.out HPR.out (q := q) hq)
              generalize ints (readyE (goE e p)) = RL at *
              go_wp2
              go_loopw [143] (fun i wr => ∃ j : Nat, j ≤ rn ∧ i = .int .i64 j ∧ Hid (MapN wr mb j (nowMap (RL.take j))) ∧ Hid (Off mb w10 wr) ∧ Hid (Below w.heap.size w wr)) (fun i _ => rn - (intOf i).toNat)
              case atStart => exact ⟨0, Nat.zero_le _, rfl, HM10.out.ext (fun _ => by simp [nowMap]), Off.refl _ _, HB10⟩
              case round =>
                obtain ⟨j, hj, rfl, HMJ, HOJ, HBJ⟩ := hrel
                by_cases hlt : j < rn
                · have hi : (j : Int) < (rn : Int) := by omega
                  have hjl : j < RL.length := by rw [← HRC.out]; exact hlt
                  obtain ⟨r1, t1', rfl, hr1⟩ : ∃ b o, rb = some ⟨b, o, none⟩ ∧ Run w10 b o (intsC RL) := by
                    rcases HI10.out.run with h | h
                    · omega
                    · exact h
                  have k1 := HOJ.out.cell (map_ne HM10.out (hr1 j _ (intsC_at hjl))) (hr1 j _ (intsC_at hjl))
                  have hr1l : r1 < wr.heap.size := by simpa using World.block_lt_of_cell? _ _ k1
                  have HKS : Hid (InKey (RL.getD j 0)) := by
                    have := HSM2.out (RL.getD j 0) (by simp [List.getD, hjl])
                    exact inKey_of this.1 this.2
                  have HTK : Hid (nowMap (RL.take (j + 1)) = fun q => if q = RL.getD j 0 then some (.bool true) else nowMap (RL.take j) q) := by
                    show _ = _
                    rw [← nowMap_snoc]
                    congr 1
                    rw [List.take_succ_eq_append_getElem hjl]
                    simp [List.getD, hjl]
                  have HQ : Hid (j < maxLen) := by show _ < _; have := HRL.out; unfold maxLen; omega
                  generalize RL.getD j 0 = key at *
                  clear hr1
                  go_wp2_with (at_mapUpdate; refine wpList_putN _ rfl _ _ _ 58 rfl 4 Tryz.underlying58 mb j (nowMap (RL.take j)) rfl HMJ.out HQ.out key HKS.out (.bool true) rfl rfl ?_)
                  intro w11 hm11 hg11
                  have HM11 : Hid (MapN w11 mb (j + 1) (nowMap (RL.take (j + 1)))) := by
                    show MapN _ _ _ _
                    rw [HTK.out]; exact hm11
                  have HO11 := hid (HOJ.out.trans (Off.grown hg11))
                  have HB11 := hid (HBJ.out.grown hg11 HBJ.out.size (fun a ha => by cases ha; exact HMW.out))
                  clear hm11 hg11
                  go_wp2
                  go_roundw
                  case rel => exact ⟨j + 1, by omega, by go_num, HM11, HO11, HB11⟩
                  case measure => simp [intOf]; omega
                · obtain rfl : j = rn := by omega
                  generalize wr = wd at *
                  have HMD : Hid (MapN wd mb j (nowMap RL)) := by
                    have := HMJ.out
                    rw [List.take_of_length_le (by rw [← HRC.out]; exact Nat.le_refl _)] at this
                    exact this
                  have HATD : Hid (∀ j : Nat, j < qn → wd.cell? ⟨b1, o1 + j, none⟩ = some (.int .i64 ((readyE e).getD j 0 : Nat)) ∧ (readyE e).getD j 0 ∈ readyE e) := fun j hj => ⟨HOJ.out.cell (map_ne HM10.out (HAT10.out j hj).1) (HAT10.out j hj).1, (HAT10.out j hj).2⟩
                  have HKD := hid (HOJ.out.cell (map_ne HM10.out HK10.out) HK10.out)
                  have HBD := hid HBJ.out
                  clear HMJ HOJ HBJ HAT10 HK10 HM10 HI10 HB10 HSM2 HRC HRL hrm hlt hj
                  go_wp2
                  go_loopw [152] (fun i wr => ∃ z : Nat, z ≤ qn ∧ i = .int .i64 z ∧ Hid (Below wd.heap.size wd wr)) (fun i _ => qn - (intOf i).toNat)
                  case atStart => exact ⟨0, Nat.zero_le _, rfl, Below.refl _ _⟩
                  case round =>
                    obtain ⟨z, hz, rfl, HBZ⟩ := hrel
                    by_cases hzl : z < qn
                    · have hi : (z : Int) < (qn : Int) := by omega
                      have k1 := kept_cell HBZ.out (HATD.out z hzl).1
                      have k0 := kept_cell HBZ.out HKD.out
                      have hb1 : b1 < wr.heap.size := by simpa using World.block_lt_of_cell? _ _ k0
                      have HRZ := hid (HRE.out _ (HATD.out z hzl).2)
                      have HPL : Hid ((readyE e).getD z 0 < e.deeds.length) := ready_lt (HATD.out z hzl).2
                      have HKY : Hid (InKey ((readyE e).getD z 0 : Nat)) := inKey_of (by omega) (by have h1 := HPL.out; have h2 := HGD.out.len; have h3 := HDN.out; omega)
                      have HMZ := hid (HMD.out.below HBZ.out HMD.out.lt)
                      generalize (readyE e).getD z 0 = p' at *
                      have hget : ∀ nq, (Instr.lookup 58 (.map (some mb)) (.int .i64 (p' : Int)) false).run Tryz.prog (wr.drewN nq) = .ok (.bool (!decide (p' = p))) (wr.drewN nq) := fun nq => by
                        have := (HMZ.out.block (w' := wr.drewN nq) rfl).get Tryz.underlying58 (boolZero (wr.drewN nq)) (p' : Int) HKY.out
                        rw [nowMap_get, HRZ.out] at this
                        exact this
                      have hget1 : (Instr.lookup 58 (.map (some mb)) (.int .i64 (p' : Int)) false).run Tryz.prog wr.drew = .ok (.bool (!decide (p' = p))) wr.drew := by
                        have := (HMZ.out.block (w' := wr.drew) rfl).get Tryz.underlying58 (boolZero wr.drew) (p' : Int) HKY.out
                        rw [nowMap_get, HRZ.out] at this
                        exact this
                      by_cases hpp : p' = p
                      · subst hpp
                        simp only [decide_true, Bool.not_true] at hget hget1
                        go_wp2
                        go_quiet (fail)
                        go_wp2
                        go_roundw
                        case rel => exact ⟨z + 1, by omega, by go_num, below_drewN HBZ.out _⟩
                        case measure => simp [intOf]; omega
                      · have hd : decide (p' = p) = false := decide_eq_false hpp
                        have t : ((p' : Int) == (p : Int)) = false := by simp; omega
                        have t' : (p' == p) = false := by simpa using hpp
                        rw [hd] at hget1
                        simp only [hd] at hget
                        simp only [Bool.not_false] at hget hget1
                        clear hpp hd
                        go_wp2
                        go_quiet (fail)
                        go_wp2
                        go_roundw
                        case rel => exact ⟨z + 1, by omega, by go_num, below_drewN HBZ.out _⟩
                        case measure => simp [intOf]; omega
                    · obtain rfl : z = qn := by omega
                      go_wp2
                      go_ret
                      exact ⟨rfl, below_deep HBD.out HBZ.out⟩
  · have t := ne_true hz
    clear hz
    generalize wrong l = q at *
    go_wp2
    go_ret
    exact ⟨rfl, HB2.out⟩
end Go.Proofs.YtllhdmhfjahgladGreatDoor
