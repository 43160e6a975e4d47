/-
  What lies in memory while the document's Come of replicas runs.
-/
import Derived.Test.YtlhaeeenkgkdaaaGreatDoorRefSameR
import Derived.Test.YtlhaeeenkgkdaaaGreatDoorRefAddE
import Derived.Test.YtlhaeeenkgkdaaaGreatDoorRefOldE
import Derived.Deep.DeepCutAuto
import Derived.Deep.RegionLaw
namespace Go.Proofs.YtlhaeeenkgkdaaaGreatDoor
open Go.RowKit

theorem come_results (tmps : Array Value) (b : Nat) (w : World) {a0 a1 a2 a3 a6 : Option Addr} {n0 n1 n2 n3 n6 c0 c1 c2 c3 c6 : Nat} {z y q : Int} (h : tmps.getD 4 undef = .pointer (some ⟨b, 0, none⟩)) (h5 : tmps.getD 5 undef = .int .i64 q) (hb : Box w b (repA a0 n0 c0 a1 n1 c1 a2 n2 c2 a3 n3 c3 z y a6 n6 c6) 35) :
   (results Tryz.f16 tmps).run Tryz.prog w = .ok (.tuple #[.agg (repA a0 n0 c0 a1 n1 c1 a2 n2 c2 a3 n3 c3 z y a6 n6 c6), .int .i64 q]) w := by
 have h' : tmps[4]?.getD undef = .pointer (some ⟨b, 0, none⟩) := by simpa using h
 have h5' : tmps[5]?.getD undef = .int .i64 q := by simpa using h5
 obtain ⟨k0, k1, k2, k3, k4, k5, k6⟩ := hb.cells7
 simp [results, Tryz.results16, go_sem, h', h5', k0, k1, k2, k3, k4, k5, k6]
theorem addTo_right {e : Eng} {D : List Deed3} (h : RightDs D) : addTo e D = addAll e D := by unfold addTo; rw [if_pos (wDs_of h)]
theorem entInfoR : (Tryz.prog.info? 26).map (fun i => (i.zero, i.size, i.bytes)) = some (some (.agg #[.int .i64 0, .slice none 0 0]), 2, 32) := by kernel_rfl
theorem flatE_one : ∀ (S : List ESlot), ∀ u ∈ flat eslotC S, u.oneCell' = true := fun S u hu => by
 obtain ⟨s, _, h⟩ := List.mem_flatMap.1 hu
 exact eslotC_one s u h
abbrev nilR : Array Value := repA none 0 0 none 0 0 none 0 0 none 0 0 0 0 none 0 0
abbrev put7 (w : World) (b : Nat) (v0 v1 v2 v3 v4 v5 v6 : Value) : World := ((((((w.setCell ⟨b, 0, none⟩ v0).setCell ⟨b, 1, none⟩ v1).setCell ⟨b, 2, none⟩ v2).setCell ⟨b, 3, none⟩ v3).setCell ⟨b, 4, none⟩ v4).setCell ⟨b, 5, none⟩ v5).setCell ⟨b, 6, none⟩ v6
theorem put7_box {w : World} {b : Nat} {t : TypeId} {u0 u1 u2 u3 u4 u5 u6 : Value} (h : Box w b #[u0, u1, u2, u3, u4, u5, u6] t) (v0 v1 v2 v3 v4 v5 v6 : Value) : Box (put7 w b v0 v1 v2 v3 v4 v5 v6) b #[v0, v1, v2, v3, v4, v5, v6] t := by
 have s0 : Box (w.setCell ⟨b, 0, none⟩ v0) b #[v0, u1, u2, u3, u4, u5, u6] t := h.set 0 v0
 have s1 : Box ((w.setCell ⟨b, 0, none⟩ v0).setCell ⟨b, 1, none⟩ v1) b #[v0, v1, u2, u3, u4, u5, u6] t := s0.set 1 v1
 have s2 : Box (((w.setCell ⟨b, 0, none⟩ v0).setCell ⟨b, 1, none⟩ v1).setCell ⟨b, 2, none⟩ v2) b #[v0, v1, v2, u3, u4, u5, u6] t := s1.set 2 v2
 have s3 : Box ((((w.setCell ⟨b, 0, none⟩ v0).setCell ⟨b, 1, none⟩ v1).setCell ⟨b, 2, none⟩ v2).setCell ⟨b, 3, none⟩ v3) b #[v0, v1, v2, v3, u4, u5, u6] t := s2.set 3 v3
 have s4 : Box (((((w.setCell ⟨b, 0, none⟩ v0).setCell ⟨b, 1, none⟩ v1).setCell ⟨b, 2, none⟩ v2).setCell ⟨b, 3, none⟩ v3).setCell ⟨b, 4, none⟩ v4) b #[v0, v1, v2, v3, v4, u5, u6] t := s3.set 4 v4
 have s5 : Box ((((((w.setCell ⟨b, 0, none⟩ v0).setCell ⟨b, 1, none⟩ v1).setCell ⟨b, 2, none⟩ v2).setCell ⟨b, 3, none⟩ v3).setCell ⟨b, 4, none⟩ v4).setCell ⟨b, 5, none⟩ v5) b #[v0, v1, v2, v3, v4, v5, u6] t := s4.set 5 v5
 exact s5.set 6 v6
theorem put7_below {w0 w : World} {B b : Nat} (h : Below B w0 w) (hb : B ≤ b) (v0 v1 v2 v3 v4 v5 v6 : Value) : Below B w0 (put7 w b v0 v1 v2 v3 v4 v5 v6) :=
 ((((((h.setCell (p := ⟨b, 0, none⟩) hb v0).setCell (p := ⟨b, 1, none⟩) hb v1).setCell (p := ⟨b, 2, none⟩) hb v2).setCell (p := ⟨b, 3, none⟩) hb v3).setCell (p := ⟨b, 4, none⟩) hb v4).setCell (p := ⟨b, 5, none⟩) hb v5).setCell (p := ⟨b, 6, none⟩) hb v6

def DeedsAt (w0 w : World) (base : Option Addr) (n c : Nat) (D : List Deed3) : Prop := DeedsIn w0 base n c D ∨ (Kind w 44 base ∧ DeedsIn w base n c D)
theorem DeedsAt.below {w0 w w' : World} {base : Option Addr} {n c : Nat} {D : List Deed3} (h : DeedsAt w0 w base n c D) (hb : Below w.heap.size w w') : DeedsAt w0 w' base n c D := h.imp id fun ⟨k, d⟩ => ⟨k.below hb, d.below hb⟩
theorem DeedsAt.is {w0 w : World} {base : Option Addr} {n c : Nat} {D : List Deed3} (h : DeedsAt w0 w base n c D) (h0 : Below w0.heap.size w0 w) : DeedsIn w base n c D := h.elim (fun d => d.below h0) fun d => d.2
theorem DeedsAt.off {w0 w w' : World} {base : Option Addr} {n c : Nat} {D : List Deed3} {b : Nat} {cs : Array Value} {t : TypeId} (h : DeedsAt w0 w base n c D) (hb : Box w b cs t) (ha : Alien w b) (hne : 44 ≠ t) (ho : Off b w w') : DeedsAt w0 w' base n c D :=
 h.imp id fun ⟨k, d⟩ => ⟨k.off ho (kind_ne hb k hne), d.off (kind_ne hb k hne) ha.text ho⟩
def ESlotAt (w0 w : World) (s : ESlot) (x : Ent) : Prop := s.1 = x.1 ∧ DeedsAt w0 w s.2.1 s.2.2.1 s.2.2.2 x.2
def ESlotsAt (w0 w : World) (S : List ESlot) (L : List Ent) : Prop := S.length = L.length ∧ ∀ i, i < L.length → ESlotAt w0 w (S.getD i default) (L.getD i default)
theorem ESlotsAt.nil (w0 w : World) : ESlotsAt w0 w [] [] := ⟨rfl, fun _ h => absurd h (Nat.not_lt_zero _)⟩
theorem ESlotsAt.below {w0 w w' : World} {S : List ESlot} {L : List Ent} (h : ESlotsAt w0 w S L) (hb : Below w.heap.size w w') : ESlotsAt w0 w' S L := ⟨h.1, fun i hi => ⟨(h.2 i hi).1, (h.2 i hi).2.below hb⟩⟩
theorem ESlotsAt.is {w0 w : World} {S : List ESlot} {L : List Ent} (h : ESlotsAt w0 w S L) (h0 : Below w0.heap.size w0 w) : ESlotsAre w S L := ⟨h.1, fun i hi => ⟨(h.2 i hi).1, (h.2 i hi).2.is h0⟩⟩
theorem ESlotsAt.off {w0 w w' : World} {S : List ESlot} {L : List Ent} {b : Nat} {cs : Array Value} {t : TypeId} (h : ESlotsAt w0 w S L) (hb : Box w b cs t) (ha : Alien w b) (hne : 44 ≠ t) (ho : Off b w w') : ESlotsAt w0 w' S L := ⟨h.1, fun i hi => ⟨(h.2 i hi).1, (h.2 i hi).2.off hb ha hne ho⟩⟩
theorem ESlotsAt.now {w0 w : World} {S : List ESlot} {L : List Ent} (h : ESlotsAt w0 w S L) (h0 : Below w0.heap.size w0 w) : ESlotsAt w w S L := ⟨h.1, fun i hi => ⟨(h.2 i hi).1, .inl ((h.2 i hi).2.is h0)⟩⟩
theorem ESlotsAt.snoc {w0 w : World} {S : List ESlot} {L : List Ent} {s : ESlot} {x : Ent} (h : ESlotsAt w0 w S L) (hs : ESlotAt w0 w s x) : ESlotsAt w0 w (S ++ [s]) (L ++ [x]) := by
 refine ⟨by simp [h.1], fun i hi => ?_⟩
 by_cases e : i < L.length
 · have e' : i < S.length := by rw [h.1]; exact e
   have := h.2 i e
   simpa [List.getD, List.getElem?_append_left e, List.getElem?_append_left e'] using this
 · have hi' : i = L.length := by simp at hi; omega
   subst hi'
   have e1 : (S ++ [s]).getD L.length default = s := by rw [← h.1]; simp [List.getD]
   have e2 : (L ++ [x]).getD L.length default = x := by simp [List.getD]
   rw [e1, e2]; exact hs
def EntAt (w0 w : World) (v : Value) (x : Ent) : Prop := ∃ db dn dc, v = .agg #[.int .i64 x.1, .slice db dn dc] ∧ DeedsAt w0 w db dn dc x.2
theorem EntV.at {w0 w : World} {v : Value} {x : Ent} (h : EntV w0 v x) : EntAt w0 w v x := by
 obtain ⟨db, dn, dc, e, h⟩ := h
 exact ⟨db, dn, dc, e, .inl h⟩

structure RepParts (w0 w : World) (cb : Option Addr) (cn cc : Nat) (db : Option Addr) (dn' dc : Nat) (sb : Option Addr) (sn sc : Nat) (eb : Option Addr) (en ec : Nat) (ab : Option Addr) (an ac : Nat) (S : List ESlot) (r : Rep) : Prop where
 eng : EngLies w cb cn cc db dn' dc sb sn sc eb en ec r.eng
 row : Lies w 2 ab an ac (flat eslotC S)
 slots : ESlotsAt w0 w S r.early
 kind : Kind w 26 ab
theorem RepParts.below {w0 w w' : World} {cb db sb eb ab : Option Addr} {cn cc dn' dc sn sc en ec an ac : Nat} {S : List ESlot} {r : Rep} (h : RepParts w0 w cb cn cc db dn' dc sb sn sc eb en ec ab an ac S r) (hb : Below w.heap.size w w') : RepParts w0 w' cb cn cc db dn' dc sb sn sc eb en ec ab an ac S r :=
 ⟨h.eng.below hb, h.row.below (by decide) hb, h.slots.below hb, h.kind.below hb⟩
theorem RepParts.lies {w0 w : World} {cb db sb eb ab : Option Addr} {cn cc dn' dc sn sc en ec an ac : Nat} {S : List ESlot} {r : Rep} (h : RepParts w0 w cb cn cc db dn' dc sb sn sc eb en ec ab an ac S r) (h0 : Below w0.heap.size w0 w) : RepLies w cb cn cc db dn' dc sb sn sc eb en ec ab an ac r :=
 ⟨h.eng, ents_of_slots h.row (h.slots.is h0)⟩
theorem RepParts.put {w0 w w' : World} {cb db sb eb ab : Option Addr} {cn cc dn' dc sn sc en ec an ac : Nat} {S : List ESlot} {r : Rep} {cb2 db2 sb2 eb2 : Option Addr} {b cn2 cc2 dn2 dc2 sn2 sc2 en2 ec2 : Nat} {base next : Int} {ab2 : Option Addr} {an2 ac2 : Nat}
   (h : RepParts w0 w cb cn cc db dn' dc sb sn sc eb en ec ab an ac S r) (hb : Box w b (repA cb2 cn2 cc2 db2 dn2 dc2 sb2 sn2 sc2 eb2 en2 ec2 base next ab2 an2 ac2) 35) (ho : Off b w w') : RepParts w0 w' cb cn cc db dn' dc sb sn sc eb en ec ab an ac S r :=
 ⟨h.eng.off hb (rep_alien hb) (by decide) (by decide) (by decide) ho, h.row.off ho (.inr (kind_ne hb h.kind (by decide))), h.slots.off hb (rep_alien hb) (by decide) ho, h.kind.off ho (kind_ne hb h.kind (by decide))⟩
def RepAt (w0 w : World) (v : Value) (r : Rep) : Prop := ∃ cb cn cc db dn' dc sb sn sc eb en ec ab an ac S, v = .agg (repA cb cn cc db dn' dc sb sn sc eb en ec r.eng.base r.next ab an ac) ∧ RepParts w0 w cb cn cc db dn' dc sb sn sc eb en ec ab an ac S r
theorem RepAt.in {w0 w : World} {v : Value} {r : Rep} (h : RepAt w0 w v r) (h0 : Below w0.heap.size w0 w) : RepIn w v r := by
 obtain ⟨cb, cn, cc, db, dn', dc, sb, sn, sc, eb, en, ec, ab, an, ac, S, rfl, hl⟩ := h
 exact ⟨cb, cn, cc, db, dn', dc, sb, sn, sc, eb, en, ec, ab, an, ac, rfl, hl.lies h0⟩
def RepNumAt (w0 w w' : World) (r : Rep × Int) (x : Ending) : Prop := ∃ v, x = .returned (.tuple #[v, .int .i64 r.2]) ∧ RepAt w0 w' v r.1 ∧ Below w.heap.size w w'

theorem put_early {w0 w wr w2 : World} {cb db sb eb ab : Option Addr} {cn cc dn dc sn sc en ec an ac : Nat} {r : Rep} {base next : Int} {S : List ESlot} {s : ESlot} {x : Ent} {vb : Option Addr} {n vc : Nat}
   (HX : Box wr w.heap.size (repA cb cn cc db dn dc sb sn sc eb en ec base next ab an ac) 35) (HL : RepParts w0 w cb cn cc db dn dc sb sn sc eb en ec ab an ac S r) (HZ : Box wr (w.heap.size + 1 + 1) nilR 35)
   (HB : Below w.heap.size w wr) (hb : Below wr.heap.size wr w2) (HS : ESlotAt w0 w s x) (ho : w2.ownsRow wr.heap.size 26 2 (.slice vb n vc) n (flat eslotC S ++ eslotC s)) :
   Box (w2.setCell ⟨w.heap.size, 6, none⟩ (.slice vb n vc)) w.heap.size (repA cb cn cc db dn dc sb sn sc eb en ec base next vb n vc) 35 ∧ (∀ W, Below w.heap.size w W → Off (w.heap.size + 1 + 1) (w2.setCell ⟨w.heap.size, 6, none⟩ (.slice vb n vc)) W → RepParts w0 W cb cn cc db dn dc sb sn sc eb en ec vb n vc (S ++ [s]) ⟨r.eng, r.next, r.early ++ [x]⟩)
     ∧ Box (w2.setCell ⟨w.heap.size, 6, none⟩ (.slice vb n vc)) (w.heap.size + 1 + 1) nilR 35 ∧ Below w.heap.size w (w2.setCell ⟨w.heap.size, 6, none⟩ (.slice vb n vc)) := by
 have hl : Lies w2 2 vb n vc (flat eslotC (S ++ [s])) := by
   rw [flat_snoc]
   obtain ⟨b', c', e', h⟩ := Lies.owned ho
   simp only [Value.slice.injEq, true_and] at e'
   obtain ⟨e1, e2⟩ := e'
   rw [e1, e2]; exact h
 have hbw : Below w.heap.size w (w2.setCell ⟨w.heap.size, 6, none⟩ (.slice vb n vc)) := (below_deep HB hb).setCell (p := ⟨w.heap.size, 6, none⟩) (Nat.le_refl _) _
 have hlt := HX.lt
 have hlz := HZ.lt
 have hvb : ∀ a, vb = some a → wr.heap.size ≤ a.block := fun a e => (ho.lt a.block (by rw [e]; rfl)).1
 have hk : Kind w2 26 vb := Kind.owned ho
 have hn0 : ∀ a, vb = some a → a.block ≠ w.heap.size := fun a e => by have := hvb a e; omega
 have hn2 : ∀ a, vb = some a → a.block ≠ w.heap.size + 1 + 1 := fun a e => by have := hvb a e; omega
 exact ⟨(HX.below hb).set 6 _, fun W hW hO => ⟨HL.eng.below hW, (hl.off (Off.set w2 w.heap.size 6 _) (.inr hn0)).off hO (.inr hn2), (HL.slots.below hW).snoc ⟨HS.1, HS.2.below hW⟩, (hk.off (Off.set w2 w.heap.size 6 _) hn0).off hO hn2⟩, (HZ.below hb).far ⟨w.heap.size, 6, none⟩ (by show w.heap.size + 1 + 1 ≠ w.heap.size; omega) _, hbw⟩
theorem put7_off (w : World) (b : Nat) (v0 v1 v2 v3 v4 v5 v6 : Value) : Off b w (put7 w b v0 v1 v2 v3 v4 v5 v6) :=
 ((((((Off.set w b 0 v0).trans (Off.set _ b 1 v1)).trans (Off.set _ b 2 v2)).trans (Off.set _ b 3 v3)).trans (Off.set _ b 4 v4)).trans (Off.set _ b 5 v5)).trans (Off.set _ b 6 v6)

theorem ent_alien {w : World} {b : Nat} {t : TypeId} {i : Int} {qb : Option Addr} {qn qc : Nat} (h : Box w b #[.int .i64 i, .slice qb qn qc] t) : Alien w b := by
 have key : ∀ o v, w.cell? ⟨b, o, none⟩ = some v → (∃ x y z, v = .slice x y z) ∨ ∃ n, v = .int .i64 n := fun o v hv => by
   unfold Box at h
   simp only [World.cell?, h, Option.isSome_none, Bool.false_eq_true, if_false] at hv
   have hm := List.mem_of_getElem? (l := [Value.int .i64 i, .slice qb qn qc]) (i := o) (by simpa using hv)
   simp at hm
   rcases hm with rfl | rfl
   · exact .inr ⟨_, rfl⟩
   · exact .inl ⟨_, _, _, rfl⟩
 refine ⟨fun o s e => ?_, fun o p q e => ?_⟩
 · rcases key o _ e with ⟨_, _, _, h⟩ | ⟨_, h⟩ <;> cases h
 · rcases key o _ e with ⟨_, _, _, h⟩ | ⟨_, h⟩ <;> cases h
structure ComeIn (w0 w wr : World) (cb : Option Addr) (cn cc : Nat) (db : Option Addr) (dn' dc : Nat) (sb : Option Addr) (sn sc : Nat) (eb : Option Addr) (en ec : Nat) (ab : Option Addr) (an ac : Nat) (xi : Int) (qb : Option Addr) (qn qc : Nat) (S : List ESlot) (q : Rep) : Prop where
 box : Box wr w.heap.size (repA cb cn cc db dn' dc sb sn sc eb en ec q.eng.base q.next ab an ac) 35
 eng : EngLies wr cb cn cc db dn' dc sb sn sc eb en ec q.eng
 row : Lies wr 2 ab an ac (flat eslotC S)
 slots : ESlotsAt w0 wr S q.early
 kind : Kind wr 26 ab
 off : ∀ a, ab = some a → a.block ≠ w.heap.size ∧ a.block ≠ w.heap.size + 1 ∧ a.block ≠ w.heap.size + 1 + 1
 ent : Box wr (w.heap.size + 1) #[.int .i64 xi, .slice qb qn qc] 26
 zero : Box wr (w.heap.size + 1 + 1) nilR 35
 below : Below w.heap.size w wr
theorem ComeIn.count {w0 w wr : World} {cb db sb eb ab : Option Addr} {cn cc dn' dc sn sc en ec an ac : Nat} {xi : Int} {qb : Option Addr} {qn qc : Nat} {S : List ESlot} {q : Rep} (h : ComeIn w0 w wr cb cn cc db dn' dc sb sn sc eb en ec ab an ac xi qb qn qc S q) : an = S.length ∧ an = q.early.length := by
 have h1 : an = S.length := Lies.count eslotC_length (by decide) h.row
 exact ⟨h1, h1.trans h.slots.1⟩
theorem ComeIn.later {w0 w wr wx : World} {cb db sb eb ab : Option Addr} {cn cc dn' dc sn sc en ec an ac : Nat} {xi : Int} {qb : Option Addr} {qn qc : Nat} {S : List ESlot} {q : Rep} (h : ComeIn w0 w wr cb cn cc db dn' dc sb sn sc eb en ec ab an ac xi qb qn qc S q) (hb : Below wr.heap.size wr wx) :
   ComeIn w0 w wx cb cn cc db dn' dc sb sn sc eb en ec ab an ac xi qb qn qc S q :=
 ⟨h.box.below hb, h.eng.below hb, h.row.below (by decide) hb, h.slots.below hb, h.kind.below hb, h.off, h.ent.below hb, h.zero.below hb, below_deep h.below hb⟩
theorem ComeIn.added {w0 w wr w1 : World} {cb db sb eb ab : Option Addr} {cn cc dn' dc sn sc en ec an ac : Nat} {xi : Int} {qb : Option Addr} {qn qc : Nat} {S : List ESlot} {q : Rep} (h : ComeIn w0 w wr cb cn cc db dn' dc sb sn sc eb en ec ab an ac xi qb qn qc S q) (hb : Below wr.heap.size wr w1)
   {cb2 db2 sb2 eb2 : Option Addr} {cn2 cc2 dn2 dc2 sn2 sc2 en2 ec2 : Nat} {E : Eng} (hl : EngLies w1 cb2 cn2 cc2 db2 dn2 dc2 sb2 sn2 sc2 eb2 en2 ec2 E) :
   ComeIn w0 w (((((w1.setCell ⟨w.heap.size, 0, none⟩ (.slice cb2 cn2 cc2)).setCell ⟨w.heap.size, 1, none⟩ (.slice db2 dn2 dc2)).setCell ⟨w.heap.size, 2, none⟩ (.slice sb2 sn2 sc2)).setCell ⟨w.heap.size, 3, none⟩ (.slice eb2 en2 ec2)).setCell ⟨w.heap.size, 4, none⟩ (.int .i64 E.base)) cb2 cn2 cc2 db2 dn2 dc2 sb2 sn2 sc2 eb2 en2 ec2 ab an ac xi qb qn qc S ⟨E, q.next, q.early⟩ := by
 have hB := h.box.below hb
 have s0 : Box (w1.setCell ⟨w.heap.size, 0, none⟩ (.slice cb2 cn2 cc2)) w.heap.size (repA cb2 cn2 cc2 db dn' dc sb sn sc eb en ec q.eng.base q.next ab an ac) 35 := hB.set 0 _
 have s1 : Box ((w1.setCell ⟨w.heap.size, 0, none⟩ (.slice cb2 cn2 cc2)).setCell ⟨w.heap.size, 1, none⟩ (.slice db2 dn2 dc2)) w.heap.size (repA cb2 cn2 cc2 db2 dn2 dc2 sb sn sc eb en ec q.eng.base q.next ab an ac) 35 := s0.set 1 _
 have s2 : Box (((w1.setCell ⟨w.heap.size, 0, none⟩ (.slice cb2 cn2 cc2)).setCell ⟨w.heap.size, 1, none⟩ (.slice db2 dn2 dc2)).setCell ⟨w.heap.size, 2, none⟩ (.slice sb2 sn2 sc2)) w.heap.size (repA cb2 cn2 cc2 db2 dn2 dc2 sb2 sn2 sc2 eb en ec q.eng.base q.next ab an ac) 35 := s1.set 2 _
 have s3 : Box ((((w1.setCell ⟨w.heap.size, 0, none⟩ (.slice cb2 cn2 cc2)).setCell ⟨w.heap.size, 1, none⟩ (.slice db2 dn2 dc2)).setCell ⟨w.heap.size, 2, none⟩ (.slice sb2 sn2 sc2)).setCell ⟨w.heap.size, 3, none⟩ (.slice eb2 en2 ec2)) w.heap.size (repA cb2 cn2 cc2 db2 dn2 dc2 sb2 sn2 sc2 eb2 en2 ec2 q.eng.base q.next ab an ac) 35 := s2.set 3 _
 have o := (((((Off.set w1 w.heap.size 0 (.slice cb2 cn2 cc2)).trans (Off.set _ w.heap.size 1 (.slice db2 dn2 dc2))).trans (Off.set _ w.heap.size 2 (.slice sb2 sn2 sc2))).trans (Off.set _ w.heap.size 3 (.slice eb2 en2 ec2))).trans (Off.set _ w.heap.size 4 (.int .i64 E.base)))
 have far : ∀ {k : Nat} {cs : Array Value} {t : TypeId}, k ≠ w.heap.size → Box w1 k cs t → Box (((((w1.setCell ⟨w.heap.size, 0, none⟩ (.slice cb2 cn2 cc2)).setCell ⟨w.heap.size, 1, none⟩ (.slice db2 dn2 dc2)).setCell ⟨w.heap.size, 2, none⟩ (.slice sb2 sn2 sc2)).setCell ⟨w.heap.size, 3, none⟩ (.slice eb2 en2 ec2)).setCell ⟨w.heap.size, 4, none⟩ (.int .i64 E.base)) k cs t := fun {k cs t} hk hx =>
   ((((hx.far ⟨w.heap.size, 0, none⟩ hk _).far ⟨w.heap.size, 1, none⟩ hk _).far ⟨w.heap.size, 2, none⟩ hk _).far ⟨w.heap.size, 3, none⟩ hk _).far ⟨w.heap.size, 4, none⟩ hk _
 exact ⟨s3.set 4 _, hl.off hB (rep_alien hB) (by decide) (by decide) (by decide) o, (h.row.below (by decide) hb).off o (.inr fun a e => (h.off a e).1), (h.slots.below hb).off hB (rep_alien hB) (by decide) o, (h.kind.below hb).off o (fun a e => (h.off a e).1), h.off, far (by omega) (h.ent.below hb), far (by omega) (h.zero.below hb),
   ((((((below_deep h.below hb).setCell (p := ⟨w.heap.size, 0, none⟩) (Nat.le_refl _) _).setCell (p := ⟨w.heap.size, 1, none⟩) (Nat.le_refl _) _).setCell (p := ⟨w.heap.size, 2, none⟩) (Nat.le_refl _) _).setCell (p := ⟨w.heap.size, 3, none⟩) (Nat.le_refl _) _).setCell (p := ⟨w.heap.size, 4, none⟩) (Nat.le_refl _) _)⟩
theorem ComeIn.counted {w0 w wr : World} {cb db sb eb ab : Option Addr} {cn cc dn' dc sn sc en ec an ac : Nat} {xi : Int} {qb : Option Addr} {qn qc : Nat} {S : List ESlot} {q : Rep} (h : ComeIn w0 w wr cb cn cc db dn' dc sb sn sc eb en ec ab an ac xi qb qn qc S q) (nx : Int) :
   ComeIn w0 w (wr.setCell ⟨w.heap.size, 5, none⟩ (.int .i64 nx)) cb cn cc db dn' dc sb sn sc eb en ec ab an ac xi qb qn qc S ⟨q.eng, nx, q.early⟩ :=
 ⟨h.box.set 5 _, h.eng.off h.box (rep_alien h.box) (by decide) (by decide) (by decide) (Off.set _ _ _ _), h.row.off (Off.set _ _ _ _) (.inr fun a e => (h.off a e).1), h.slots.off h.box (rep_alien h.box) (by decide) (Off.set _ _ _ _), h.kind.off (Off.set _ _ _ _) (fun a e => (h.off a e).1), h.off, h.ent.far ⟨w.heap.size, 5, none⟩ (by show w.heap.size + 1 ≠ w.heap.size; omega) _, h.zero.far ⟨w.heap.size, 5, none⟩ (by show w.heap.size + 1 + 1 ≠ w.heap.size; omega) _,
   h.below.setCell (p := ⟨w.heap.size, 5, none⟩) (Nat.le_refl _) _⟩
theorem ComeIn.take {w0 w wr : World} {cb db sb eb ab : Option Addr} {cn cc dn' dc sn sc en ec an ac : Nat} {xi : Int} {qb : Option Addr} {qn qc : Nat} {S : List ESlot} {q : Rep} (h : ComeIn w0 w wr cb cn cc db dn' dc sb sn sc eb en ec ab an ac xi qb qn qc S q) (s : ESlot) :
   ComeIn w0 w ((wr.setCell ⟨w.heap.size + 1, 0, none⟩ (.int .i64 s.1)).setCell ⟨w.heap.size + 1, 1, none⟩ (.slice s.2.1 s.2.2.1 s.2.2.2)) cb cn cc db dn' dc sb sn sc eb en ec ab an ac s.1 s.2.1 s.2.2.1 s.2.2.2 S q := by
 have o := (Off.set wr (w.heap.size + 1) 0 (.int .i64 s.1)).trans (Off.set _ (w.heap.size + 1) 1 (.slice s.2.1 s.2.2.1 s.2.2.2))
 have far : ∀ {k : Nat} {cs : Array Value} {t : TypeId}, k ≠ w.heap.size + 1 → Box wr k cs t → Box ((wr.setCell ⟨w.heap.size + 1, 0, none⟩ (.int .i64 s.1)).setCell ⟨w.heap.size + 1, 1, none⟩ (.slice s.2.1 s.2.2.1 s.2.2.2)) k cs t := fun {k cs t} hk hx =>
   (hx.far ⟨w.heap.size + 1, 0, none⟩ hk _).far ⟨w.heap.size + 1, 1, none⟩ hk _
 have s0 : Box (wr.setCell ⟨w.heap.size + 1, 0, none⟩ (.int .i64 s.1)) (w.heap.size + 1) #[.int .i64 s.1, .slice qb qn qc] 26 := h.ent.set 0 _
 exact ⟨far (by omega) h.box, h.eng.off h.ent (ent_alien h.ent) (by decide) (by decide) (by decide) o, h.row.off o (.inr fun a e => (h.off a e).2.1), h.slots.off h.ent (ent_alien h.ent) (by decide) o, h.kind.off o (fun a e => (h.off a e).2.1), h.off, s0.set 1 _, far (by omega) h.zero,
   (h.below.setCell (p := ⟨w.heap.size + 1, 0, none⟩) (Nat.le_succ _) _).setCell (p := ⟨w.heap.size + 1, 1, none⟩) (Nat.le_succ _) _⟩
theorem ComeIn.putRow {w0 w wr w2 : World} {cb db sb eb ab : Option Addr} {cn cc dn' dc sn sc en ec an ac : Nat} {xi : Int} {qb : Option Addr} {qn qc : Nat} {S : List ESlot} {q : Rep} (h : ComeIn w0 w wr cb cn cc db dn' dc sb sn sc eb en ec ab an ac xi qb qn qc S q) (hb : Below wr.heap.size wr w2) {vb : Option Addr} {n vc : Nat} {T : List ESlot} {L : List Ent}
   (ho : w2.ownsRow wr.heap.size 26 2 (.slice vb n vc) n (flat eslotC T)) (hT : ESlotsAt w0 wr T L) : ComeIn w0 w (w2.setCell ⟨w.heap.size, 6, none⟩ (.slice vb n vc)) cb cn cc db dn' dc sb sn sc eb en ec vb n vc xi qb qn qc T ⟨q.eng, q.next, L⟩ := by
 have hB := h.box.below hb
 have hl : Lies w2 2 vb n vc (flat eslotC T) := by
   obtain ⟨b', c', e', h⟩ := Lies.owned ho
   simp only [Value.slice.injEq, true_and] at e'
   obtain ⟨e1, e2⟩ := e'
   rw [e1, e2]; exact h
 have hlz := h.zero.lt
 have hvb : ∀ a, vb = some a → wr.heap.size ≤ a.block := fun a e => (ho.lt a.block (by rw [e]; rfl)).1
 have hne : ∀ a, vb = some a → a.block ≠ w.heap.size ∧ a.block ≠ w.heap.size + 1 ∧ a.block ≠ w.heap.size + 1 + 1 := fun a e => by have := hvb a e; omega
 exact ⟨hB.set 6 _, (h.eng.below hb).off hB (rep_alien hB) (by decide) (by decide) (by decide) (Off.set _ _ _ _), hl.off (Off.set _ _ _ _) (.inr fun a e => (hne a e).1), (hT.below hb).off hB (rep_alien hB) (by decide) (Off.set _ _ _ _), (Kind.owned ho).off (Off.set _ _ _ _) (fun a e => (hne a e).1), hne, (h.ent.below hb).far ⟨w.heap.size, 6, none⟩ (by show w.heap.size + 1 ≠ w.heap.size; omega) _,
   (h.zero.below hb).far ⟨w.heap.size, 6, none⟩ (by show w.heap.size + 1 + 1 ≠ w.heap.size; omega) _, (below_deep h.below hb).setCell (p := ⟨w.heap.size, 6, none⟩) (Nat.le_refl _) _⟩
theorem ComeIn.deeds {w0 w wr w2 : World} {cb db sb eb ab : Option Addr} {cn cc dn' dc sn sc en ec an ac : Nat} {xi : Int} {qb : Option Addr} {qn qc : Nat} {S : List ESlot} {q : Rep} (h : ComeIn w0 w wr cb cn cc db dn' dc sb sn sc eb en ec ab an ac xi qb qn qc S q) (hb : Below wr.heap.size wr w2) (v : Value)
   {pb : Option Addr} {pn pc : Nat} {D : List Deed3} (hd : DeedsAt w0 wr pb pn pc D) : DeedsAt w0 (w2.setCell ⟨w.heap.size, 6, none⟩ v) pb pn pc D :=
 (hd.below hb).off (h.box.below hb) (rep_alien (h.box.below hb)) (by decide) (Off.set _ _ _ _)
theorem ComeIn.held {w0 w wr : World} {cb db sb eb ab : Option Addr} {cn cc dn' dc sn sc en ec an ac : Nat} {xi : Int} {qb : Option Addr} {qn qc : Nat} {S : List ESlot} {q : Rep} (h : ComeIn w0 w wr cb cn cc db dn' dc sb sn sc eb en ec ab an ac xi qb qn qc S q) (s : ESlot)
   {pb : Option Addr} {pn pc : Nat} {D : List Deed3} (hd : DeedsAt w0 wr pb pn pc D) : DeedsAt w0 ((wr.setCell ⟨w.heap.size + 1, 0, none⟩ (.int .i64 s.1)).setCell ⟨w.heap.size + 1, 1, none⟩ (.slice s.2.1 s.2.2.1 s.2.2.2)) pb pn pc D :=
 hd.off h.ent (ent_alien h.ent) (by decide) ((Off.set wr (w.heap.size + 1) 0 (.int .i64 s.1)).trans (Off.set _ (w.heap.size + 1) 1 (.slice s.2.1 s.2.2.1 s.2.2.2)))
theorem ComeIn.told {w0 w wr : World} {cb db sb eb ab : Option Addr} {cn cc dn' dc sn sc en ec an ac : Nat} {xi : Int} {qb : Option Addr} {qn qc : Nat} {S : List ESlot} {q : Rep} (h : ComeIn w0 w wr cb cn cc db dn' dc sb sn sc eb en ec ab an ac xi qb qn qc S q) (v0 v1 v2 v3 v4 v5 v6 : Value) :
   RepParts w0 (put7 wr (w.heap.size + 1 + 1) v0 v1 v2 v3 v4 v5 v6) cb cn cc db dn' dc sb sn sc eb en ec ab an ac S q :=
 RepParts.put ⟨h.eng, h.row, h.slots, h.kind⟩ h.zero (put7_off wr (w.heap.size + 1 + 1) v0 v1 v2 v3 v4 v5 v6)
structure ComeOf (r : Rep) (e : Ent) (q : Rep) (x : Ent) (es : List Ent) (m : Nat) (dn : Nat → Bool) (bq : ByteArray → Int) : Prop where
 good : GoodR es m dn bq q
 num : x.1 = q.next
 right : RightEnt x
 goal : comeR r e = (pullR q.early.length ⟨addAll q.eng x.2, q.next + 1, q.early⟩, 0)
theorem ComeOf.pulls {r : Rep} {e : Ent} {q : Rep} {x : Ent} {es : List Ent} {m : Nat} {dn : Nat → Bool} {bq : ByteArray → Int} (h : ComeOf r e q x es m dn bq) : Pulls (es ++ [x]) m dn bq ⟨addAll q.eng x.2, q.next + 1, q.early⟩ := by
 have hp : Pulls es m dn bq q := ⟨h.good.eng, h.good.next, h.good.num, h.good.right, h.good.four, (fun y hy => by have := h.good.later y hy; omega), h.good.one, h.good.early⟩
 exact hp.take (by rw [h.num, h.good.next]) h.right q.early (List.Sublist.refl _) h.good.later
theorem ComeOf.stop {r : Rep} {e : Ent} {q : Rep} {x : Ent} {es : List Ent} {m : Nat} {dn : Nat → Bool} {bq : ByteArray → Int} (h : ComeOf r e q x es m dn bq) (hn : ∀ j, j < q.early.length → (q.early.getD j default).1 ≠ q.next + 1) : comeR r e = (⟨addAll q.eng x.2, q.next + 1, q.early⟩, 0) := by
 rw [h.goal, pull_none (find_none hn)]
theorem ComeOf.step {r : Rep} {e : Ent} {q : Rep} {x : Ent} {es : List Ent} {m : Nat} {dn : Nat → Bool} {bq : ByteArray → Int} (h : ComeOf r e q x es m dn bq) {j : Nat} (hj : j < q.early.length) (hn : (q.early.getD j default).1 = q.next + 1) :
   ComeOf r e ⟨addAll q.eng x.2, q.next + 1, q.early.take j ++ q.early.drop (j + 1)⟩ (q.early.getD j default) (es ++ [x]) m dn bq := by
 have hp := h.pulls
 obtain ⟨h1, h2⟩ := find_here hj hn h.good.one
 have hsub : (q.early.take j ++ q.early.drop (j + 1)).Sublist q.early := by rw [← h2]; exact List.filter_sublist
 have hm : q.early.getD j default ∈ q.early := by
   have e : q.early.getD j default = q.early[j] := by simp [List.getD, hj]
   rw [e]; exact List.getElem_mem hj
 refine ⟨⟨hp.eng, hp.next, hp.num, hp.right, Nat.le_trans hsub.length_le h.good.four, fun y hy => ?_, h.good.one.sublist hsub, fun y hy => h.good.early y (hsub.subset hy)⟩, hn, h.good.early _ hm, ?_⟩
 · have hy' : y ∈ q.early.filter (fun y => !isNum (q.next + 1) y) := by rw [h2]; exact hy
   obtain ⟨k1, k2⟩ := List.mem_filter.1 hy'
   have k3 := hp.later y k1
   have k4 : y.1 ≠ q.next + 1 := by simpa [isNum] using k2
   have k5 : q.next + 1 = ((es ++ [x]).length : Int) := hp.next
   omega
 · rw [h.goal]
   have hl : q.early.length = (q.early.take j ++ q.early.drop (j + 1)).length + 1 := by simp; omega
   conv => lhs; rw [hl]
   rw [pull_some h1, h2]
theorem getD_without {α : Type} (l : List α) (d : α) {i j : Nat} (hj : j < l.length) : (l.take j ++ l.drop (j + 1)).getD i d = if i < j then l.getD i d else l.getD (i + 1) d := by
 have hl : (l.take j).length = j := by simp; omega
 by_cases h : i < j
 · rw [if_pos h]
   simp only [List.getD]
   rw [List.getElem?_append_left (by omega), List.getElem?_take_of_lt h]
 · rw [if_neg h]
   simp only [List.getD]
   rw [List.getElem?_append_right (by omega), List.getElem?_drop, hl, show j + 1 + (i - j) = i + 1 from by omega]
theorem ESlotsAt.without {w0 w : World} {S : List ESlot} {L : List Ent} (h : ESlotsAt w0 w S L) {j : Nat} (hj : j < L.length) : ESlotsAt w0 w (S.take j ++ S.drop (j + 1)) (L.take j ++ L.drop (j + 1)) := by
 have hs := h.1
 have hjS : j < S.length := by rw [hs]; exact hj
 refine ⟨by simp; omega, fun i hi => ?_⟩
 rw [getD_without S _ hjS, getD_without L _ hj]
 have hi' : i < L.length - 1 := by simp at hi; omega
 by_cases hij : i < j
 · rw [if_pos hij, if_pos hij]; exact h.2 i (by omega)
 · rw [if_neg hij, if_neg hij]; exact h.2 (i + 1) (by omega)
def earlyLen (w : World) (b : Nat) : Nat := match w.cell? ⟨b, 6, none⟩ with
 | some (.slice _ n _) => n
 | _ => 0
theorem early_len {w : World} {b : Nat} {v0 v1 v2 v3 v4 v5 : Value} {ab : Option Addr} {an ac : Nat} {t : TypeId} (h : Box w b #[v0, v1, v2, v3, v4, v5, .slice ab an ac] t) : earlyLen w b = an := by
 unfold earlyLen
 rw [h.cell 6 (.slice ab an ac) rfl]
theorem slice_head {t e sz : Nat} (hu : Tryz.prog.underlying t = some (.slice e)) (hz : ∀ w, (sizeOf e).run Tryz.prog w = .ok sz w) (base : Option Addr) (n c k : Nat) (hk : k ≤ c) (w : World) :
   (Instr.slice t (.slice base n c) none (some (.int .i64 (k : Int))) none).run Tryz.prog w = .ok (.slice (cutB base c 0 sz) k c) w := by
 have h1 : (0 : Int) ≤ (k : Int) ∧ (k : Int) ≤ (c : Int) := by omega
 have h2 : ((k : Int)).toNat = k := Int.toNat_natCast k
 have hur : ∀ w, (underlying t).run Tryz.prog w = .ok (.slice e) w := fun w => by simp [underlying, go_sem, hu]
 simp [Instr.slice, Instr.sliceBounds, Instr.sliceBound, go_sem, hur, hz, hk, cutB]

end Go.Proofs.YtlhaeeenkgkdaaaGreatDoor
