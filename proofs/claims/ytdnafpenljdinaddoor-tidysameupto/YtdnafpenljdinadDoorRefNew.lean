/-
  Blocks of five cells that hold an engine, and rows that a call owns beside them.
  The document's own New, walked.
-/
import Derived.Test.YtdnafpenljdinadDoorEngIn
import Derived.Test.YtdnafpenljdinadDoorChainOld
import Derived.Test.YtdnafpenljdinadDoorRefAddC
import Derived.Test.YtdnafpenljdinadDoorInsert
namespace Go.Proofs.YtdnafpenljdinadDoor
open Go.RowKit

theorem Box.cells5 {w : World} {b : Nat} {t : TypeId} {v0 v1 v2 v3 v4 : Value} (h : Box w b #[v0, v1, v2, v3, v4] t) :
    w.cell? ⟨b, 0, none⟩ = some v0 ∧ w.cell? ⟨b, 1, none⟩ = some v1 ∧ w.cell? ⟨b, 2, none⟩ = some v2 ∧ w.cell? ⟨b, 3, none⟩ = some v3 ∧ w.cell? ⟨b, 4, none⟩ = some v4 :=
  ⟨h.cell 0 _ rfl, h.cell 1 _ rfl, h.cell 2 _ rfl, h.cell 3 _ rfl, h.cell 4 _ rfl⟩
theorem Box.free5 {w : World} {b : Nat} {t : TypeId} {cs : Array Value} (h : Box w b cs t) :
    w.frozen? ⟨b, 0, none⟩ = false ∧ w.frozen? ⟨b, 1, none⟩ = false ∧ w.frozen? ⟨b, 2, none⟩ = false ∧ w.frozen? ⟨b, 3, none⟩ = false ∧ w.frozen? ⟨b, 4, none⟩ = false :=
  ⟨h.free 0, h.free 1, h.free 2, h.free 3, h.free 4⟩
def put5 (w : World) (b : Nat) (v0 v1 v2 v3 v4 : Value) : World :=
  ((((w.setCell ⟨b, 0, none⟩ v0).setCell ⟨b, 1, none⟩ v1).setCell ⟨b, 2, none⟩ v2).setCell ⟨b, 3, none⟩ v3).setCell ⟨b, 4, none⟩ v4
theorem put5_off (w : World) (b : Nat) (v0 v1 v2 v3 v4 : Value) : Off b w (put5 w b v0 v1 v2 v3 v4) :=
  ((((Off.set _ _ _ _).trans (Off.set _ _ _ _)).trans (Off.set _ _ _ _)).trans (Off.set _ _ _ _)).trans (Off.set _ _ _ _)
theorem put5_box {w : World} {b : Nat} {t : TypeId} {u0 u1 u2 u3 u4 : Value} (h : Box w b #[u0, u1, u2, u3, u4] t) (v0 v1 v2 v3 v4 : Value) : Box (put5 w b v0 v1 v2 v3 v4) b #[v0, v1, v2, v3, v4] t := by
  have := ((((h.set 0 v0).set 1 v1).set 2 v2).set 3 v3).set 4 v4
  exact this
theorem put5_below {w0 w : World} {B b : Nat} (h : Below B w0 w) (hb : B ≤ b) (v0 v1 v2 v3 v4 : Value) : Below B w0 (put5 w b v0 v1 v2 v3 v4) :=
  ((((h.setCell (p := ⟨b, 0, none⟩) hb _).setCell (p := ⟨b, 1, none⟩) hb _).setCell (p := ⟨b, 2, none⟩) hb _).setCell (p := ⟨b, 3, none⟩) hb _).setCell (p := ⟨b, 4, none⟩) hb _
theorem put5_far {w : World} {b b' : Nat} {cs : Array Value} {t : TypeId} (h : Box w b' cs t) (hne : b' ≠ b) (v0 v1 v2 v3 v4 : Value) : Box (put5 w b v0 v1 v2 v3 v4) b' cs t :=
  ((((h.far ⟨b, 0, none⟩ hne _).far ⟨b, 1, none⟩ hne _).far ⟨b, 2, none⟩ hne _).far ⟨b, 3, none⟩ hne _).far ⟨b, 4, none⟩ hne _
theorem put5_size (w : World) (b : Nat) (v0 v1 v2 v3 v4 : Value) : (put5 w b v0 v1 v2 v3 v4).heap.size = w.heap.size := by simp [put5]
theorem box_off {w w' : World} {b b' : Nat} {cs : Array Value} {t : TypeId} (h : Box w b' cs t) (ho : Off b w w') (hne : b' ≠ b) : Box w' b' cs t := (ho.block b' h.lt hne).trans h
/-- A row that a call owns is apart from what is written in another block. -/
theorem owns_off {w w' : World} {b B e s n : Nat} {v : Value} {xs : List Value} (h : w.ownsRow B e s v n xs) (ho : Off b w w') (hne : some b ≠ v.ownBlock) : w'.ownsRow B e s v n xs := by
  refine ⟨h.1, h.2.imp id ?_⟩
  rintro ⟨g, cap, cur, rfl, hb, hg, rest⟩
  refine ⟨g, cap, cur, rfl, hb, ?_, rest⟩
  exact (ho.block g (Array.getElem?_eq_some_iff.1 hg).1 (fun e => hne (by rw [← e]; rfl))).trans hg
theorem own_ne {w : World} {b B e s n : Nat} {v : Value} {xs : List Value} {cs : Array Value} {t : TypeId} (h : w.ownsRow B e s v n xs) (hb : Box w b cs t) (hne : t ≠ e) : some b ≠ v.ownBlock :=
  own_apart h (.inr ⟨cs, _, hb⟩) hne
/-- A row of chains that a call owns, their versions in versions' own memory. -/
def OwnCh (w : World) (B : Nat) (v : Value) (L : List Chn) : Prop := ∃ S, w.ownsRow B 59 2 v L.length (flat slotC S) ∧ SlotsAre w 0 68 S L
theorem OwnCh.nil (w : World) (B : Nat) : OwnCh w B (.slice none 0 0) [] := ⟨[], World.ownsRow_nil _ _ _ _, SlotsAre.nil _ _ _⟩
theorem OwnCh.below {w w' : World} {B : Nat} {v : Value} {L : List Chn} (h : OwnCh w B v L) (hb : Below w.heap.size w w') : OwnCh w' B v L := by
  obtain ⟨S, h1, h2⟩ := h
  exact ⟨S, owns_keep h1 hb, h2.below hb⟩
theorem SlotsAre.off0 {w w' : World} {b : Nat} {cs : Array Value} {t : TypeId} {S : List Slot} {L : List Chn} (h : SlotsAre w 0 68 S L) (hb : Box w b cs t) (h2 : 68 ≠ t) (ho : Off b w w') : SlotsAre w' 0 68 S L := by
  refine ⟨h.1, fun i hi => ?_⟩
  obtain ⟨e1, e2, e3, e4⟩ := h.2 i hi
  rcases e3 with e3 | e3 | e3
  · exact ⟨e1, Lies.off e2 ho (.inl e3), .inl e3, e4⟩
  · refine ⟨e1, Lies.off e2 ho (.inr fun a ha => absurd (e3 a ha) (Nat.not_lt_zero _)), .inr (.inl e3), e4⟩
  · exact ⟨e1, Lies.off e2 ho (.inr (kind_ne hb e3 h2)), .inr (.inr (e3.off ho (kind_ne hb e3 h2))), e4⟩
theorem OwnCh.off {w w' : World} {b B : Nat} {cs : Array Value} {t : TypeId} {v : Value} {L : List Chn} (h : OwnCh w B v L) (hb : Box w b cs t) (h1 : t ≠ 59) (h2 : 68 ≠ t) (ho : Off b w w') : OwnCh w' B v L := by
  obtain ⟨S, k1, k2⟩ := h
  exact ⟨S, owns_off k1 ho (own_ne k1 hb h1), k2.off0 hb h2 ho⟩
theorem OwnCh.ne {w : World} {b B : Nat} {cs : Array Value} {t : TypeId} {v : Value} {L : List Chn} (h : OwnCh w B v L) (hb : Box w b cs t) (h1 : t ≠ 59) : some b ≠ v.ownBlock := by
  obtain ⟨S, k1, _⟩ := h
  exact own_ne k1 hb h1
theorem OwnCh.chK {w : World} {B : Nat} {v : Value} {L : List Chn} (h : OwnCh w B v L) : ∃ base c, v = .slice base L.length c ∧ ChK w base L.length c L := by
  obtain ⟨S, h1, h2⟩ := h
  exact chK_owned h1 h2
/-! ### A field of the call's own engine is made anew -/
theorem put_deeds {w wr w2 : World} {B b0 b1 : Nat} {cb : Option Addr} {cn cc : Nat} {db : Option Addr} {dn dc : Nat} {sb : Option Addr} {sn sc : Nat} {eb : Option Addr} {en ec : Nat} {bs : Int} {e : Eng} {zs : Array Value} {zt : TypeId} {T : List DSlot} {s : DSlot} {d : Deed3} {vb : Option Addr} {n vc : Nat} (HX : Box wr b0 #[.slice cb cn cc, .slice db dn dc, .slice sb sn sc, .slice eb en ec, .int .i64 bs] 33) (HL : EngLies wr cb cn cc db dn dc sb sn sc eb en ec e) (HZ : Box wr b1 zs zt) (hne : b1 ≠ b0) (HB : Below B w wr) (hB : B ≤ b0) (hb : Below wr.heap.size wr w2)
    (HT : DSlotsAre wr T e.deeds) (HS : DSlotIs wr s d) (ho : w2.ownsRow wr.heap.size 51 3 (.slice vb n vc) n (flat dslotC T ++ dslotC s)) :
    Box (w2.setCell ⟨b0, 1, none⟩ (.slice vb n vc)) b0 #[.slice cb cn cc, .slice vb n vc, .slice sb sn sc, .slice eb en ec, .int .i64 bs] 33 ∧ EngLies (w2.setCell ⟨b0, 1, none⟩ (.slice vb n vc)) cb cn cc vb n vc sb sn sc eb en ec ⟨e.chains, e.deeds ++ [d], e.state, e.ends, e.base⟩ ∧ Box (w2.setCell ⟨b0, 1, none⟩ (.slice vb n vc)) b1 zs zt ∧ Below B w (w2.setCell ⟨b0, 1, none⟩ (.slice vb n vc)) := by
  have hl : Lies w2 3 vb n vc (flat dslotC (T ++ [s])) := by
    rw [flat_snoc]
    obtain ⟨b', c', e', h⟩ := Lies.owned ho
    simp only [Value.slice.injEq, true_and] at e'
    obtain ⟨e1, e2⟩ := e'
    rw [e1, e2]; exact h
  have hL := HL.below hb
  have h2 : EngLies w2 cb cn cc vb n vc sb sn sc eb en ec ⟨e.chains, e.deeds ++ [d], e.state, e.ends, e.base⟩ :=
    ⟨hL.ch, deeds_of_slots hl ((HT.below hb).snoc (HS.below hb)), hL.st, hL.en, Kind.owned ho, hL.sk, hL.ek⟩
  exact ⟨(HX.below hb).set 1 _, h2.put (HX.below hb) (Off.set _ _ _ _), (HZ.below hb).far ⟨b0, 1, none⟩ hne _, (HB.trans (hb.mono (Nat.le_trans hB (Nat.le_of_lt HX.lt)))).setCell (p := ⟨b0, 1, none⟩) hB _⟩
theorem put_state {w wr w2 : World} {B b0 b1 : Nat} {cb : Option Addr} {cn cc : Nat} {db : Option Addr} {dn dc : Nat} {sb : Option Addr} {sn sc : Nat} {eb : Option Addr} {en ec : Nat} {bs : Int} {e : Eng} {zs : Array Value} {zt : TypeId} {S : List Int} {vb : Option Addr} {n vc : Nat} (HX : Box wr b0 #[.slice cb cn cc, .slice db dn dc, .slice sb sn sc, .slice eb en ec, .int .i64 bs] 33) (HL : EngLies wr cb cn cc db dn dc sb sn sc eb en ec e) (HZ : Box wr b1 zs zt) (hne : b1 ≠ b0) (HB : Below B w wr) (hB : B ≤ b0) (hb : Below wr.heap.size wr w2)
    (ho : w2.ownsRow wr.heap.size 3 1 (.slice vb n vc) n (intsC S)) :
    Box (w2.setCell ⟨b0, 2, none⟩ (.slice vb n vc)) b0 #[.slice cb cn cc, .slice db dn dc, .slice vb n vc, .slice eb en ec, .int .i64 bs] 33 ∧ EngLies (w2.setCell ⟨b0, 2, none⟩ (.slice vb n vc)) cb cn cc db dn dc vb n vc eb en ec ⟨e.chains, e.deeds, S, e.ends, e.base⟩ ∧ Box (w2.setCell ⟨b0, 2, none⟩ (.slice vb n vc)) b1 zs zt ∧ Below B w (w2.setCell ⟨b0, 2, none⟩ (.slice vb n vc)) := by
  have hl : Ints w2 vb n vc S := by
    obtain ⟨b', c', e', h⟩ := Lies.owned ho
    simp only [Value.slice.injEq, true_and] at e'
    obtain ⟨e1, e2⟩ := e'
    rw [e1, e2]; exact h
  have hL := HL.below hb
  have h2 : EngLies w2 cb cn cc db dn dc vb n vc eb en ec ⟨e.chains, e.deeds, S, e.ends, e.base⟩ :=
    ⟨hL.ch, hL.de, hl, hL.en, hL.dk, Kind.owned ho, hL.ek⟩
  exact ⟨(HX.below hb).set 2 _, h2.put (HX.below hb) (Off.set _ _ _ _), (HZ.below hb).far ⟨b0, 2, none⟩ hne _, (HB.trans (hb.mono (Nat.le_trans hB (Nat.le_of_lt HX.lt)))).setCell (p := ⟨b0, 2, none⟩) hB _⟩
theorem put_ends {w wr w2 : World} {B b0 b1 : Nat} {cb : Option Addr} {cn cc : Nat} {db : Option Addr} {dn dc : Nat} {sb : Option Addr} {sn sc : Nat} {eb : Option Addr} {en ec : Nat} {bs : Int} {e : Eng} {zs : Array Value} {zt : TypeId} {E : List End3} {vb : Option Addr} {n vc : Nat} (HX : Box wr b0 #[.slice cb cn cc, .slice db dn dc, .slice sb sn sc, .slice eb en ec, .int .i64 bs] 33) (HL : EngLies wr cb cn cc db dn dc sb sn sc eb en ec e) (HZ : Box wr b1 zs zt) (hne : b1 ≠ b0) (HB : Below B w wr) (hB : B ≤ b0) (hb : Below wr.heap.size wr w2)
    (ho : w2.ownsRow wr.heap.size 64 5 (.slice vb n vc) n (endCells E)) :
    Box (w2.setCell ⟨b0, 3, none⟩ (.slice vb n vc)) b0 #[.slice cb cn cc, .slice db dn dc, .slice sb sn sc, .slice vb n vc, .int .i64 bs] 33 ∧ EngLies (w2.setCell ⟨b0, 3, none⟩ (.slice vb n vc)) cb cn cc db dn dc sb sn sc vb n vc ⟨e.chains, e.deeds, e.state, E, e.base⟩ ∧ Box (w2.setCell ⟨b0, 3, none⟩ (.slice vb n vc)) b1 zs zt ∧ Below B w (w2.setCell ⟨b0, 3, none⟩ (.slice vb n vc)) := by
  have hl : Ends w2 vb n vc E := by
    obtain ⟨b', c', e', h⟩ := Lies.owned ho
    simp only [Value.slice.injEq, true_and] at e'
    obtain ⟨e1, e2⟩ := e'
    rw [e1, e2]; exact h
  have hL := HL.below hb
  have h2 : EngLies w2 cb cn cc db dn dc sb sn sc vb n vc ⟨e.chains, e.deeds, e.state, E, e.base⟩ :=
    ⟨hL.ch, hL.de, hL.st, hl, hL.dk, hL.sk, Kind.owned ho⟩
  exact ⟨(HX.below hb).set 3 _, h2.put (HX.below hb) (Off.set _ _ _ _), (HZ.below hb).far ⟨b0, 3, none⟩ hne _, (HB.trans (hb.mono (Nat.le_trans hB (Nat.le_of_lt HX.lt)))).setCell (p := ⟨b0, 3, none⟩) hB _⟩
end Go.Proofs.YtdnafpenljdinadDoor

namespace Go.Proofs.YtdnafpenljdinadDoor
open Go.RowKit

/-- How an engine is told. -/
def EngTold (w w' : World) (e : Eng) (x : Ending) : Prop := ∃ v, x = .returned v ∧ EngIn w' v e ∧ Below w.heap.size w w'
theorem refNew_results (tmps : Array Value) (b : Nat) (w : World) {a0 a1 a2 a3 : Option Addr} {n0 n1 n2 n3 c0 c1 c2 c3 : Nat} {z : Int} (h : tmps.getD 2 undef = .pointer (some ⟨b, 0, none⟩)) (hb : Box w b #[.slice a0 n0 c0, .slice a1 n1 c1, .slice a2 n2 c2, .slice a3 n3 c3, .int .i64 z] 33) :
    (results Tryd.f18 tmps).run Tryd.prog w = .ok (.agg #[.slice a0 n0 c0, .slice a1 n1 c1, .slice a2 n2 c2, .slice a3 n3 c3, .int .i64 z]) w := by
  have h' : tmps[2]?.getD undef = .pointer (some ⟨b, 0, none⟩) := by simpa using h
  obtain ⟨k0, k1, k2, k3, k4⟩ := hb.cells5
  simp [results, Tryd.results18, go_sem, h', k0, k1, k2, k3, k4]

set_option maxHeartbeats 8000000 in
set_option maxRecDepth 100000 in
theorem refNew_calls (l : List Row) (base : Option Addr) (n c : Nat) (w : World) (hr : Right l) (hsm : Small l) (ha : Holds w base n c l) :
    Calls Tryd.prog 18 #[.slice base n c] w fun x w' => EngTold w w' (newE l) x := by
  have hcn : n ≤ 387420489 := by rw [ha.len]; exact right_few hr
  have HA := hid ha
  have HLN := hid ha.len
  have HSM := hid hsm
  have HX0 := hid (Box.new w #[.slice none 0 0, .slice none 0 0, .slice none 0 0, .slice none 0 0, .int .i64 0] 33)
  have HX1 := hid (Box.new (w.alloc (.cells #[.slice none 0 0, .slice none 0 0, .slice none 0 0, .slice none 0 0, .int .i64 0] 33)) #[.slice none 0 0, .slice none 0 0, .slice none 0 0, .slice none 0 0, .int .i64 0] 33)
  have HB0 := hid (grew w (.cells #[.slice none 0 0, .slice none 0 0, .slice none 0 0, .slice none 0 0, .int .i64 0] 33))
  have HB1 := hid (grew (w.alloc (.cells #[.slice none 0 0, .slice none 0 0, .slice none 0 0, .slice none 0 0, .int .i64 0] 33)) (.cells #[.slice none 0 0, .slice none 0 0, .slice none 0 0, .slice none 0 0, .int .i64 0] 33))
  have HX0' := hid (HX0.out.below HB1.out)
  rw [World.size_alloc] at HX1
  have HBW := hid (below_deep HB0.out HB1.out)
  clear ha hr hsm HX0 HB0 HB1
  go_enter Tryd.func18, Tryd.ntmps18
  go_wp2
  go_loopw [9] (fun i wr => ∃ (j : Nat) (v : Value), j ≤ n ∧ i = .int .i64 j ∧ Hid (Box wr w.heap.size #[.slice none 0 0, .slice none 0 0, .slice none 0 0, .slice none 0 0, .int .i64 0] 33) ∧ Hid (Box wr (w.heap.size + 1) #[v, .slice none 0 0, .slice none 0 0, .slice none 0 0, .int .i64 0] 33) ∧ Hid (OwnCh wr w.heap.size v (ofRows (l.take j))) ∧ Hid (Below w.heap.size w wr)) (fun i _ => n - (intOf i).toNat)
  case atStart => exact ⟨0, .slice none 0 0, Nat.zero_le _, rfl, HX0', HX1, OwnCh.nil _ _, HBW⟩
  case round =>
    obtain ⟨j, v, hj, rfl, HX, HY, HO, HBR⟩ := hrel
    obtain ⟨vb, vc, hve, hchk⟩ := HO.out.chK
    have hlj : (ofRows (l.take j)).length = j := by unfold ofRows; rw [List.length_map, List.length_take, ← HLN.out]; omega
    rw [hlj] at hve hchk
    subst hve
    have HCK := hid hchk
    clear hchk
    by_cases hlt : j < n
    · have hjl : j < l.length := by rw [← HLN.out]; exact hlt
      have hi : (j : Int) < (n : Int) := by omega
      obtain ⟨b, o, rfl, hc⟩ : ∃ b o, base = some ⟨b, o, none⟩ ∧ Cells wr b o l := by
        rcases (HA.out.below HBR.out).seg with h | h
        · rw [h] at hjl; cases hjl
        · exact h
      obtain ⟨p0, p1⟩ := hc j hjl
      have hbw : b < wr.heap.size := by simpa using World.block_lt_of_cell? _ _ p0
      have HKZ := hid (small_getD HSM.out hjl)
      have HTK : Hid (ofRows (l.take (j + 1)) = ofRows (l.take j) ++ [((l.getD j default).1, [(-1, true, true, (l.getD j default).2)])]) := by
        show _ = _
        rw [take_snoc_getD hjl, ofRows_snoc]
      clear hc
      generalize (l.getD j default).1 = k at *
      generalize (l.getD j default).2 = x at *
      obtain ⟨y0, y1, y2, y3, y4⟩ := HY.out.cells5
      have hyl : w.heap.size + 1 < wr.heap.size := HY.out.lt
      have HG1 := hid (grew wr (.cells #[.string k, .int .i64 x] 47))
      have HG2 := hid (grew (wr.alloc (.cells #[.string k, .int .i64 x] 47)) (.cells #[.int .i64 (-1), .bool true, .bool true, .int .i64 x] 68))
      have HSL := hid (one_slot (wr.alloc (.cells #[.string k, .int .i64 x] 47)) 0 HKZ.out (-1) true true x)
      rw [World.size_alloc] at HSL
      have HB2 := hid (below_deep HG1.out HG2.out)
      have HG3 := hid (grew ((wr.alloc (.cells #[.string k, .int .i64 x] 47)).alloc (.cells #[.int .i64 (-1), .bool true, .bool true, .int .i64 x] 68)) (.cells #[.string k, .slice (some ⟨wr.heap.size + 1, 0, none⟩) 1 1] 59))
      have HLO := hid (lies_one ((wr.alloc (.cells #[.string k, .int .i64 x] 47)).alloc (.cells #[.int .i64 (-1), .bool true, .bool true, .int .i64 x] 68)) #[.string k, .slice (some ⟨wr.heap.size + 1, 0, none⟩) 1 1] 59 2 rfl)
      rw [World.size_alloc, World.size_alloc] at HLO
      have HB3 := hid (below_deep HB2.out HG3.out)
      obtain ⟨S, ho, hs⟩ := HO.out
      rw [hlj] at ho
      have HO3 := hid (owns_keep ho HB3.out)
      have HS3 := hid ((hs.below HB3.out).snoc (HSL.out.below HG3.out))
      have HY3 := hid (HY.out.below HB3.out)
      have HX3 := hid (HX.out.below HB3.out)
      have HSE := hid (slotC_one (k, some ⟨wr.heap.size + 1, 0, none⟩, 1, 1))
      have HBY : Hid ((j + 1) * 40 ≤ 140737488355328) := by show _ ≤ _; omega
      have HBW3 := hid (below_deep HBR.out HB3.out)
      have HSZ := hid HBW3.out.size
      clear ho hs HG1 HG2 HG3 HB2
      go_wp2_with (at_builtin; refine wpList_onto _ rfl _ _ 29 59 2 40 _ Tryd.underlying29 chnInfo rfl (by decide) (by decide) rfl w.heap.size _ j (flat slotC S) rfl HO3.out _ 1 _ _ rfl HLO.out HSE.out HBY.out HSZ.out ?_)
      intro v4 w4 hown4 hg4
      have HX4 := hid (HX3.out.grown hg4 (own_ne HO3.out HX3.out (by decide)))
      have HY4 := hid (HY3.out.grown hg4 (own_ne HO3.out HY3.out (by decide)))
      have HO4 : Hid (OwnCh w4 w.heap.size v4 (ofRows (l.take (j + 1)))) := by
        refine ⟨S ++ [(k, some ⟨wr.heap.size + 1, 0, none⟩, 1, 1)], ?_, ?_⟩
        · rw [flat_snoc, HTK.out, List.length_append, hlj]; exact hown4
        · rw [HTK.out]; exact HS3.out.grown (owns_lower HO3.out (Nat.zero_le _)) (by decide) hg4
      have HB4 := hid (HBW3.out.grown hg4 HSZ.out (fun a h => (HO3.out.lt a h).1))
      obtain ⟨b4, c4, rfl, hl4⟩ := Lies.owned hown4
      have z0 := HY4.out.cells5.1
      have f0 := HY4.out.free 0
      have hzl : w.heap.size + 1 < w4.heap.size := HY4.out.lt
      have HX5 := hid (HX4.out.far ⟨w.heap.size + 1, 0, none⟩ (by simp) (.slice b4 (j + 1) c4))
      have HY5 := hid (HY4.out.set 0 (.slice b4 (j + 1) c4))
      have HO5 := hid (HO4.out.off HY4.out (by decide) (by decide) (Off.set w4 (w.heap.size + 1) 0 (.slice b4 (j + 1) c4)))
      have HB5 := hid (HB4.out.setCell (p := ⟨w.heap.size + 1, 0, none⟩) (Nat.le_succ _) (.slice b4 (j + 1) c4))
      clear hown4 hg4 hl4
      go_wp2
      go_roundw
      case rel => exact ⟨j + 1, .slice b4 (j + 1) c4, by omega, by go_num, HX5, HY5, HO5, HB5⟩
      case measure => simp [intOf]; omega
    · obtain rfl : j = n := by omega
      have htk : l.take j = l := List.take_of_length_le (by rw [← HLN.out]; exact Nat.le_refl _)
      rw [htk] at HO HCK
      obtain ⟨y0, y1, y2, y3, y4⟩ := HY.out.cells5
      obtain ⟨x0, x1, x2, x3, x4⟩ := HX.out.cells5
      obtain ⟨f0, f1, f2, f3, f4⟩ := HX.out.free5
      have hyl : w.heap.size + 1 < wr.heap.size := HY.out.lt
      have hxl : w.heap.size < wr.heap.size := HX.out.lt
      have HLI : Hid (EngLies wr vb j vc none 0 0 none 0 0 none 0 0 (newE l)) :=
        ⟨HCK.out.chains, ⟨rfl, ⟨Nat.le_refl _, Nat.zero_le _, fun _ => rfl⟩, .inl rfl⟩, Lies.none _ _, Lies.none _ _, Kind.none _ _, Kind.none _ _, Kind.none _ _⟩
      have HLF := hid (HLI.out.put HX.out (put5_off wr w.heap.size (.slice vb j vc) (.slice none 0 0) (.slice none 0 0) (.slice none 0 0) (.int .i64 0)))
      have HBF := hid (put5_box HX.out (.slice vb j vc) (.slice none 0 0) (.slice none 0 0) (.slice none 0 0) (.int .i64 0))
      have HBE := hid (put5_below HBR.out (Nat.le_refl _) (.slice vb j vc) (.slice none 0 0) (.slice none 0 0) (.slice none 0 0) (.int .i64 0))
      unfold put5 at HLF HBF HBE
      go_wp2
      (try simp only [Exit.inBlock, Exit.then])
      refine bodyPost_ret (refNew_results _ w.heap.size _ rfl HBF.out) rfl ?_
      exact ⟨_, rfl, ⟨_, _, _, _, _, _, _, _, _, _, _, _, rfl, HLF.out⟩, HBE.out⟩
end Go.Proofs.YtdnafpenljdinadDoor
