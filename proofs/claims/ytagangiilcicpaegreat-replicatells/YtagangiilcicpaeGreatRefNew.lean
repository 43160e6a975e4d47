/-
  Blocks of five cells that hold an engine, and rows that a call owns beside them.
  The document's own New, walked.
-/
import Derived.Test.YtagangiilcicpaeGreatEngIn
import Derived.Test.YtagangiilcicpaeGreatChainWith
import Derived.Test.YtagangiilcicpaeGreatRefAddC
import Derived.Test.YtagangiilcicpaeGreatPlanMath
namespace Go.Proofs.YtagangiilcicpaeGreat
open Go.RowKit

theorem Box.cells5 {w : World} {b : Nat} {t : TypeId} {v0 v1 v2 v3 v4 : Value} (h : Box w b #[v0, v1, v2, v3, v4] t) :
    w.cell? ⟨b, 0, none⟩ = some v0 ∧ w.cell? ⟨b, 1, none⟩ = some v1 ∧ w.cell? ⟨b, 2, none⟩ = some v2 ∧ w.cell? ⟨b, 3, none⟩ = some v3 ∧ w.cell? ⟨b, 4, none⟩ = some v4 :=
  ⟨h.cell 0 _ rfl, h.cell 1 _ rfl, h.cell 2 _ rfl, h.cell 3 _ rfl, h.cell 4 _ rfl⟩
theorem Box.free5 {w : World} {b : Nat} {t : TypeId} {cs : Array Value} (h : Box w b cs t) :
    w.frozen? ⟨b, 0, none⟩ = false ∧ w.frozen? ⟨b, 1, none⟩ = false ∧ w.frozen? ⟨b, 2, none⟩ = false ∧ w.frozen? ⟨b, 3, none⟩ = false ∧ w.frozen? ⟨b, 4, none⟩ = false :=
  ⟨h.free 0, h.free 1, h.free 2, h.free 3, h.free 4⟩
def put5 (w : World) (b : Nat) (v0 v1 v2 v3 v4 : Value) : World :=
  ((((w.setCell ⟨b, 0, none⟩ v0).setCell ⟨b, 1, none⟩ v1).setCell ⟨b, 2, none⟩ v2).setCell ⟨b, 3, none⟩ v3).setCell ⟨b, 4, none⟩ v4
theorem put5_off (w : World) (b : Nat) (v0 v1 v2 v3 v4 : Value) : Off b w (put5 w b v0 v1 v2 v3 v4) :=
  ((((Off.set _ _ _ _).trans (Off.set _ _ _ _)).trans (Off.set _ _ _ _)).trans (Off.set _ _ _ _)).trans (Off.set _ _ _ _)
theorem put5_box {w : World} {b : Nat} {t : TypeId} {u0 u1 u2 u3 u4 : Value} (h : Box w b #[u0, u1, u2, u3, u4] t) (v0 v1 v2 v3 v4 : Value) : Box (put5 w b v0 v1 v2 v3 v4) b #[v0, v1, v2, v3, v4] t := by
  have := ((((h.set 0 v0).set 1 v1).set 2 v2).set 3 v3).set 4 v4
  exact this
theorem put5_below {w0 w : World} {B b : Nat} (h : Below B w0 w) (hb : B ≤ b) (v0 v1 v2 v3 v4 : Value) : Below B w0 (put5 w b v0 v1 v2 v3 v4) :=
  ((((h.setCell (p := ⟨b, 0, none⟩) hb _).setCell (p := ⟨b, 1, none⟩) hb _).setCell (p := ⟨b, 2, none⟩) hb _).setCell (p := ⟨b, 3, none⟩) hb _).setCell (p := ⟨b, 4, none⟩) hb _
theorem put5_far {w : World} {b b' : Nat} {cs : Array Value} {t : TypeId} (h : Box w b' cs t) (hne : b' ≠ b) (v0 v1 v2 v3 v4 : Value) : Box (put5 w b v0 v1 v2 v3 v4) b' cs t :=
  ((((h.far ⟨b, 0, none⟩ hne _).far ⟨b, 1, none⟩ hne _).far ⟨b, 2, none⟩ hne _).far ⟨b, 3, none⟩ hne _).far ⟨b, 4, none⟩ hne _
theorem box_off {w w' : World} {b b' : Nat} {cs : Array Value} {t : TypeId} (h : Box w b' cs t) (ho : Off b w w') (hne : b' ≠ b) : Box w' b' cs t := (ho.block b' h.lt hne).trans h
/-- A row that a call owns is apart from what is written in another block. -/
theorem owns_off {w w' : World} {b B e s n : Nat} {v : Value} {xs : List Value} (h : w.ownsRow B e s v n xs) (ho : Off b w w') (hne : some b ≠ v.ownBlock) : w'.ownsRow B e s v n xs := by
  refine ⟨h.1, h.2.imp id ?_⟩
  rintro ⟨g, cap, cur, rfl, hb, hg, rest⟩
  refine ⟨g, cap, cur, rfl, hb, ?_, rest⟩
  exact (ho.block g (Array.getElem?_eq_some_iff.1 hg).1 (fun e => hne (by rw [← e]; rfl))).trans hg
theorem own_ne {w : World} {b B e s n : Nat} {v : Value} {xs : List Value} {cs : Array Value} {t : TypeId} (h : w.ownsRow B e s v n xs) (hb : Box w b cs t) (hne : t ≠ e) : some b ≠ v.ownBlock :=
  own_apart h (.inr ⟨cs, _, hb⟩) hne
theorem SlotsAre.off0 {w w' : World} {b : Nat} {cs : Array Value} {t : TypeId} {S : List Slot} {L : List Chn} (h : SlotsAre w 0 69 S L) (hb : Box w b cs t) (h2 : 69 ≠ t) (ho : Off b w w') : SlotsAre w' 0 69 S L := by
  refine ⟨h.1, fun i hi => ?_⟩
  obtain ⟨e1, e2, e3, e4⟩ := h.2 i hi
  rcases e3 with e3 | e3 | e3
  · exact ⟨e1, Lies.off e2 ho (.inl e3), .inl e3, e4⟩
  · refine ⟨e1, Lies.off e2 ho (.inr fun a ha => absurd (e3 a ha) (Nat.not_lt_zero _)), .inr (.inl e3), e4⟩
  · exact ⟨e1, Lies.off e2 ho (.inr (kind_ne hb e3 h2)), .inr (.inr (e3.off ho (kind_ne hb e3 h2))), e4⟩
/-! ### A field of the call's own engine is made anew -/
theorem put_deeds {w wr w2 : World} {B b0 b1 : Nat} {cb : Option Addr} {cn cc : Nat} {db : Option Addr} {dn dc : Nat} {sb : Option Addr} {sn sc : Nat} {eb : Option Addr} {en ec : Nat} {bs : Int} {e : Eng} {zs : Array Value} {zt : TypeId} {T : List DSlot} {s : DSlot} {d : Deed3} {vb : Option Addr} {n vc : Nat} (HX : Box wr b0 #[.slice cb cn cc, .slice db dn dc, .slice sb sn sc, .slice eb en ec, .int .i64 bs] 30) (HL : EngLies wr cb cn cc db dn dc sb sn sc eb en ec e) (HZ : Box wr b1 zs zt) (hne : b1 ≠ b0) (HB : Below B w wr) (hB : B ≤ b0) (hb : Below wr.heap.size wr w2)
    (HT : DSlotsAre wr T e.deeds) (HS : DSlotIs wr s d) (ho : w2.ownsRow wr.heap.size 61 3 (.slice vb n vc) n (flat dslotC T ++ dslotC s)) :
    Box (w2.setCell ⟨b0, 1, none⟩ (.slice vb n vc)) b0 #[.slice cb cn cc, .slice vb n vc, .slice sb sn sc, .slice eb en ec, .int .i64 bs] 30 ∧ EngLies (w2.setCell ⟨b0, 1, none⟩ (.slice vb n vc)) cb cn cc vb n vc sb sn sc eb en ec ⟨e.chains, e.deeds ++ [d], e.state, e.ends, e.base⟩ ∧ Box (w2.setCell ⟨b0, 1, none⟩ (.slice vb n vc)) b1 zs zt ∧ Below B w (w2.setCell ⟨b0, 1, none⟩ (.slice vb n vc)) := by
  have hl : Lies w2 3 vb n vc (flat dslotC (T ++ [s])) := by
    rw [flat_snoc]
    obtain ⟨b', c', e', h⟩ := Lies.owned ho
    simp only [Value.slice.injEq, true_and] at e'
    obtain ⟨e1, e2⟩ := e'
    rw [e1, e2]; exact h
  have hL := HL.below hb
  have h2 : EngLies w2 cb cn cc vb n vc sb sn sc eb en ec ⟨e.chains, e.deeds ++ [d], e.state, e.ends, e.base⟩ :=
    ⟨hL.ch, deeds_of_slots hl ((HT.below hb).snoc (HS.below hb)), hL.st, hL.en, Kind.owned ho, hL.sk, hL.ek⟩
  exact ⟨(HX.below hb).set 1 _, h2.put (HX.below hb) (Off.set _ _ _ _), (HZ.below hb).far ⟨b0, 1, none⟩ hne _, (HB.trans (hb.mono (Nat.le_trans hB (Nat.le_of_lt HX.lt)))).setCell (p := ⟨b0, 1, none⟩) hB _⟩
theorem put_state {w wr w2 : World} {B b0 b1 : Nat} {cb : Option Addr} {cn cc : Nat} {db : Option Addr} {dn dc : Nat} {sb : Option Addr} {sn sc : Nat} {eb : Option Addr} {en ec : Nat} {bs : Int} {e : Eng} {zs : Array Value} {zt : TypeId} {S : List Int} {vb : Option Addr} {n vc : Nat} (HX : Box wr b0 #[.slice cb cn cc, .slice db dn dc, .slice sb sn sc, .slice eb en ec, .int .i64 bs] 30) (HL : EngLies wr cb cn cc db dn dc sb sn sc eb en ec e) (HZ : Box wr b1 zs zt) (hne : b1 ≠ b0) (HB : Below B w wr) (hB : B ≤ b0) (hb : Below wr.heap.size wr w2)
    (ho : w2.ownsRow wr.heap.size 3 1 (.slice vb n vc) n (intsC S)) :
    Box (w2.setCell ⟨b0, 2, none⟩ (.slice vb n vc)) b0 #[.slice cb cn cc, .slice db dn dc, .slice vb n vc, .slice eb en ec, .int .i64 bs] 30 ∧ EngLies (w2.setCell ⟨b0, 2, none⟩ (.slice vb n vc)) cb cn cc db dn dc vb n vc eb en ec ⟨e.chains, e.deeds, S, e.ends, e.base⟩ ∧ Box (w2.setCell ⟨b0, 2, none⟩ (.slice vb n vc)) b1 zs zt ∧ Below B w (w2.setCell ⟨b0, 2, none⟩ (.slice vb n vc)) := by
  have hl : Ints w2 vb n vc S := by
    obtain ⟨b', c', e', h⟩ := Lies.owned ho
    simp only [Value.slice.injEq, true_and] at e'
    obtain ⟨e1, e2⟩ := e'
    rw [e1, e2]; exact h
  have hL := HL.below hb
  have h2 : EngLies w2 cb cn cc db dn dc vb n vc eb en ec ⟨e.chains, e.deeds, S, e.ends, e.base⟩ :=
    ⟨hL.ch, hL.de, hl, hL.en, hL.dk, Kind.owned ho, hL.ek⟩
  exact ⟨(HX.below hb).set 2 _, h2.put (HX.below hb) (Off.set _ _ _ _), (HZ.below hb).far ⟨b0, 2, none⟩ hne _, (HB.trans (hb.mono (Nat.le_trans hB (Nat.le_of_lt HX.lt)))).setCell (p := ⟨b0, 2, none⟩) hB _⟩
theorem put_ends {w wr w2 : World} {B b0 b1 : Nat} {cb : Option Addr} {cn cc : Nat} {db : Option Addr} {dn dc : Nat} {sb : Option Addr} {sn sc : Nat} {eb : Option Addr} {en ec : Nat} {bs : Int} {e : Eng} {zs : Array Value} {zt : TypeId} {E : List End3} {vb : Option Addr} {n vc : Nat} (HX : Box wr b0 #[.slice cb cn cc, .slice db dn dc, .slice sb sn sc, .slice eb en ec, .int .i64 bs] 30) (HL : EngLies wr cb cn cc db dn dc sb sn sc eb en ec e) (HZ : Box wr b1 zs zt) (hne : b1 ≠ b0) (HB : Below B w wr) (hB : B ≤ b0) (hb : Below wr.heap.size wr w2)
    (ho : w2.ownsRow wr.heap.size 74 5 (.slice vb n vc) n (endCells E)) :
    Box (w2.setCell ⟨b0, 3, none⟩ (.slice vb n vc)) b0 #[.slice cb cn cc, .slice db dn dc, .slice sb sn sc, .slice vb n vc, .int .i64 bs] 30 ∧ EngLies (w2.setCell ⟨b0, 3, none⟩ (.slice vb n vc)) cb cn cc db dn dc sb sn sc vb n vc ⟨e.chains, e.deeds, e.state, E, e.base⟩ ∧ Box (w2.setCell ⟨b0, 3, none⟩ (.slice vb n vc)) b1 zs zt ∧ Below B w (w2.setCell ⟨b0, 3, none⟩ (.slice vb n vc)) := by
  have hl : Ends w2 vb n vc E := by
    obtain ⟨b', c', e', h⟩ := Lies.owned ho
    simp only [Value.slice.injEq, true_and] at e'
    obtain ⟨e1, e2⟩ := e'
    rw [e1, e2]; exact h
  have hL := HL.below hb
  have h2 : EngLies w2 cb cn cc db dn dc sb sn sc vb n vc ⟨e.chains, e.deeds, e.state, E, e.base⟩ :=
    ⟨hL.ch, hL.de, hL.st, hl, hL.dk, hL.sk, Kind.owned ho⟩
  exact ⟨(HX.below hb).set 3 _, h2.put (HX.below hb) (Off.set _ _ _ _), (HZ.below hb).far ⟨b0, 3, none⟩ hne _, (HB.trans (hb.mono (Nat.le_trans hB (Nat.le_of_lt HX.lt)))).setCell (p := ⟨b0, 3, none⟩) hB _⟩
end Go.Proofs.YtagangiilcicpaeGreat

namespace Go.Proofs.YtagangiilcicpaeGreat
open Go.RowKit

/-- How an engine is told. -/
def EngTold (w w' : World) (e : Eng) (x : Ending) : Prop := ∃ v, x = .returned v ∧ EngIn w' v e ∧ Below w.heap.size w w'
end Go.Proofs.YtagangiilcicpaeGreat
