/-
  The document's own Build of an engine, walked.
  How arguments that are batches of deeds, or numbers, are read, and how many deeds there are at the most where all that is read is of a bounded bulk.
  Plain mathematics of replicas: entries that come, in whatever order, and as often as may be.
  Plain mathematics of entries as bytes: a right entry comes back from its bytes, bytes that are read are its own, and one byte turned is found.
  What it means that bytes lie in memory: a slice of them, made of a text, turned into a text, cut, and made longer.
  What it means that entries lie in memory.
  How arguments that are entries, an entry, or bytes are read, and how many there are at the most where all that is read is of a bounded bulk.
-/
import Derived.Test.YtlhaeeenkgkdaaaGreatDoorRefGoE
import Derived.Test.YtlhaeeenkgkdaaaGreatDoorRefOldE
import Derived.Deep.RegionWith
import Derived.Test.YtlhaeeenkgkdaaaGreatDoorRows
import Derived.Test.YtlhaeeenkgkdaaaGreatDoorOpenDeeds
import Derived.ChangeSlices
import Derived.Test.YtlhaeeenkgkdaaaGreatDoorPlanMath
import Derived.Test.YtlhaeeenkgkdaaaGreatDoorAround
import Derived.Test.YtlhaeeenkgkdaaaGreatDoorTextMath
import Derived.Laws.IdiomStrings
import Derived.ArgAppend
namespace Go.Proofs.YtlhaeeenkgkdaaaGreatDoor
open Go.RowKit

end Go.Proofs.YtlhaeeenkgkdaaaGreatDoor

namespace Go.Proofs.YtlhaeeenkgkdaaaGreatDoor
open Go.ChangeShapes Go.WideShapes Go.ChangeAt Go.RowKit Go.Deep Go.Joins

theorem bulk_one {H : Type} (d : DataW H) : 1 ≤ Rows.uptoBulk d := by
 cases d with
 | lit l => cases l <;> simp [Rows.uptoBulk]
 | nil => simp [Rows.uptoBulk]
 | ptr d => simp [Rows.uptoBulk]
 | slice elems spare => simp [Rows.uptoBulk]
 | agg parts => simp [Rows.uptoBulk]
 | iface t d => simp [Rows.uptoBulk]
 | map entries => simp [Rows.uptoBulk]
 | held h => simp [Rows.uptoBulk]
theorem bulk_append {H : Type} (l r : List (DataW H)) : Rows.uptoBulkAll (l ++ r) = Rows.uptoBulkAll l + Rows.uptoBulkAll r := by
 induction l with
 | nil => simp [Rows.uptoBulkAll]
 | cons x l ih => simp only [List.cons_append, Rows.uptoBulkAll, ih]; omega
theorem bulk_length {H : Type} (l : List (DataW H)) : l.length ≤ Rows.uptoBulkAll l := by
 induction l with
 | nil => simp [Rows.uptoBulkAll]
 | cons x r ih => have := bulk_one x; simp only [Rows.uptoBulkAll, List.length_cons]; omega
theorem room_bulk {H : Type} {d : DataW H} {cap : Nat} (h : Room d cap) : cap ≤ Rows.uptoBulk d := by
 rcases h with ⟨_, rfl⟩ | ⟨elems, spare, rfl, hc⟩
 · exact Nat.zero_le _
 · have h1 := bulk_length elems
   have h2 := bulk_length spare
   simp only [Rows.uptoBulk]
   omega
theorem cellsDeeds1 : Tryz.prog.cellsOf 24 = 1 := by kernel_rfl
theorem cellsInts1 : Tryz.prog.cellsOf 3 = 1 := by kernel_rfl
theorem open_picks {H : Type} {enc : TypeId × Value → H} {W : World} {v : Value} {fuel : Nat} {y : DataW H × List MemPlace}
   (h : DataW.trod enc Tryz.prog W 0 (fun _ => true) true fuel 23 [v] = some y) :
   ∃ a len cap l, v = .slice a len cap ∧ Ints W a len cap l := by
 rcases open_ints Tryz.underlying23 Tryz.underlying3 cellsInts1 h with ⟨hcs, hx⟩ | ⟨x, len, cap, zs, hcs, _, hl, hm, hz, hx, hcell, _⟩
 · simp at hcs
   subst hcs
   exact ⟨none, 0, 0, [], rfl, ⟨rfl, ⟨Nat.le_refl _, Nat.zero_le _, fun _ => rfl⟩, .inl rfl⟩⟩
 · simp at hcs
   subst hcs
   simp only [if_true] at hz
   have hlen : (zs.take len).length = len := by rw [List.length_take]; omega
   refine ⟨some x, len, cap, zs.take len, rfl, ⟨by rw [intsC_length, hlen, Nat.mul_one], ⟨hl, hm, fun h => by cases h⟩, ?_⟩⟩
   by_cases h0 : len = 0
   · exact .inl h0
   right
   obtain ⟨b, off, spot⟩ := x
   have hsp : spot = none := by
     have := hcell 0 (by omega)
     simpa [Addr.add] using World.cell?_spot this
   subst hsp
   refine ⟨b, off, rfl, fun i u hu => ?_⟩
   have hi : i < len := by
     have := (List.getElem?_eq_some_iff.1 hu).1
     rw [intsC_length, hlen] at this
     exact this
   rw [intsC_at (by omega)] at hu
   have h1 := hcell i (by omega)
   rw [Addr.add_lit] at h1
   rw [h1, ← hu]
   congr 2
   simp [List.getD, hi]
end Go.Proofs.YtlhaeeenkgkdaaaGreatDoor

namespace Go.Proofs.YtlhaeeenkgkdaaaGreatDoor
open Go.RowKit

abbrev Ent := Int × List Deed3
structure Rep where
 eng : Eng
 next : Int
 early : List Ent
def newR : Rep := ⟨newE [], 0, []⟩
def isNum (n : Int) (x : Ent) : Bool := decide (x.1 = n)
def pullR : Nat → Rep → Rep
 | 0, r => r
 | f + 1, r => match r.early.find? (isNum r.next) with
   | none => r
   | some x => pullR f ⟨addAll r.eng x.2, r.next + 1, r.early.filter (fun y => !isNum r.next y)⟩
def hadR (r : Rep) (e : Ent) : Bool := decide (e.1 < r.next) || r.early.any (isNum e.1)
def comeR (r : Rep) (e : Ent) : Rep × Int :=
 if hadR r e = true then (r, 11)
 else if r.next < e.1 then (if 4 ≤ r.early.length then (r, 5) else (⟨r.eng, r.next, r.early ++ [e]⟩, 12))
 else (pullR r.early.length ⟨addAll r.eng e.2, r.next + 1, r.early⟩, 0)
def deedsOf (es : List Ent) : List Deed3 := es.flatMap (·.2)
def RightEnt (e : Ent) : Prop := 0 ≤ e.1 ∧ e.1 < 12 ∧ e.2.length ≤ 6 ∧ RightDs e.2

structure GoodR (es : List Ent) (m : Nat) (dn : Nat → Bool) (b : ByteArray → Int) (r : Rep) : Prop where
 eng : Good [] (deedsOf es) m dn b r.eng
 next : r.next = es.length
 num : ∀ i, i < es.length → (es.getD i default).1 = i
 right : ∀ x ∈ es, RightEnt x
 four : r.early.length ≤ 4
 later : ∀ x ∈ r.early, (es.length : Int) < x.1
 one : r.early.Pairwise (fun x y => x.1 ≠ y.1)
 early : ∀ x ∈ r.early, RightEnt x
theorem right_nil : Right [] := ⟨List.Pairwise.nil, (fun _ h => by cases h), (fun _ h => by cases h), (fun _ h => by cases h)⟩
theorem GoodR.new : GoodR [] 0 (fun _ => false) (fun _ => -1) newR :=
 ⟨Good.new right_nil, rfl, (fun i h => absurd h (Nat.not_lt_zero _)), (fun _ h => by cases h), Nat.zero_le _, (fun _ h => by cases h), List.Pairwise.nil, (fun _ h => by cases h)⟩
theorem deedsOf_snoc (es : List Ent) (e : Ent) : deedsOf (es ++ [e]) = deedsOf es ++ e.2 := by simp [deedsOf]
structure Pulls (es : List Ent) (m : Nat) (dn : Nat → Bool) (b : ByteArray → Int) (r : Rep) : Prop where
 eng : Good [] (deedsOf es) m dn b r.eng
 next : r.next = es.length
 num : ∀ i, i < es.length → (es.getD i default).1 = i
 right : ∀ x ∈ es, RightEnt x
 four : r.early.length ≤ 4
 later : ∀ x ∈ r.early, (es.length : Int) ≤ x.1
 one : r.early.Pairwise (fun x y => x.1 ≠ y.1)
 early : ∀ x ∈ r.early, RightEnt x
theorem num_snoc {es : List Ent} {e : Ent} (h : ∀ i, i < es.length → (es.getD i default).1 = i) (he : e.1 = es.length) : ∀ i, i < (es ++ [e]).length → ((es ++ [e]).getD i default).1 = i := fun i hi => by
 by_cases hl : i < es.length
 · have := h i hl
   simpa [List.getD, List.getElem?_append_left hl] using this
 · have : i = es.length := by simp at hi; omega
   subst this
   simpa [List.getD] using he
theorem Pulls.take {es : List Ent} {m : Nat} {dn : Nat → Bool} {b : ByteArray → Int} {r : Rep} (h : Pulls es m dn b r) {x : Ent} (hx : x.1 = es.length) (hr : RightEnt x) (E : List Ent) (hs : E.Sublist r.early) (hl : ∀ y ∈ E, (es.length : Int) < y.1) : Pulls (es ++ [x]) m dn b ⟨addAll r.eng x.2, r.next + 1, E⟩ := by
 refine ⟨?_, ?_, num_snoc h.num hx, fun y hy => ?_, Nat.le_trans hs.length_le h.four, fun y hy => ?_, h.one.sublist hs, fun y hy => h.early y (hs.subset hy)⟩
 · rw [deedsOf_snoc]; exact h.eng.addAll hr.2.2.2
 · show r.next + 1 = _
   rw [h.next]; simp
 · rcases List.mem_append.1 hy with h1 | h1
   · exact h.right y h1
   · simp at h1; rw [h1]; exact hr
 · have := hl y hy
   simp; omega
theorem pull_good : ∀ (f : Nat) {es : List Ent} {m : Nat} {dn : Nat → Bool} {b : ByteArray → Int} {r : Rep}, Pulls es m dn b r → r.early.length ≤ f → ∃ more : List Ent, (∀ x ∈ more, x ∈ r.early) ∧ GoodR (es ++ more) m dn b (pullR f r) ∧ ∀ y ∈ (pullR f r).early, y ∈ r.early
 | 0, es, m, dn, b, r, h, hf => by
   have h0 : r.early = [] := List.eq_nil_of_length_eq_zero (by omega)
   refine ⟨[], (fun _ h => by cases h), ?_, fun y hy => hy⟩
   rw [List.append_nil]
   show GoodR es m dn b r
   exact ⟨h.eng, h.next, h.num, h.right, h.four, (fun x hx => by rw [h0] at hx; cases hx), h.one, h.early⟩
 | f + 1, es, m, dn, b, r, h, hf => by
   rw [pullR]
   cases hq : r.early.find? (isNum r.next) with
   | none =>
     refine ⟨[], (fun _ h => by cases h), ?_, fun y hy => hy⟩
     rw [List.append_nil]
     refine ⟨h.eng, h.next, h.num, h.right, h.four, fun x hx => ?_, h.one, h.early⟩
     have h1 := h.later x hx
     have h2 := List.find?_eq_none.1 hq x hx
     rw [h.next] at h2
     have h3 : x.1 ≠ (es.length : Int) := by simpa [isNum] using h2
     omega
   | some x =>
     have hx := List.mem_of_find?_eq_some hq
     have hn : x.1 = (es.length : Int) := by
       have := List.find?_some hq
       rw [h.next] at this
       simpa [isNum] using this
     have hp := h.take hn (h.early x hx) (r.early.filter (fun y => !isNum r.next y)) List.filter_sublist (fun y hy => by
       obtain ⟨h1, h2⟩ := List.mem_filter.1 hy
       have h3 := h.later y h1
       rw [h.next] at h2
       have h4 : y.1 ≠ (es.length : Int) := by simpa [isNum] using h2
       omega)
     have hlt : (r.early.filter (fun y => !isNum r.next y)).length < r.early.length := by
       refine List.length_filter_lt_length_iff_exists.2 ⟨x, hx, ?_⟩
       rw [h.next]
       simpa [isNum] using hn
     obtain ⟨more, h1, h2, h3⟩ := pull_good f hp (by show (List.filter _ r.early).length ≤ f; omega)
     refine ⟨x :: more, fun y hy => ?_, ?_, fun y hy => ?_⟩
     · rcases List.mem_cons.1 hy with rfl | hy
       · exact hx
       · exact (List.mem_filter.1 (h1 y hy)).1
     · rw [List.append_assoc] at h2; exact h2
     · exact (List.mem_filter.1 (h3 y hy)).1
theorem come_good {es : List Ent} {m : Nat} {dn : Nat → Bool} {b : ByteArray → Int} {r : Rep} (h : GoodR es m dn b r) {e : Ent} (he : RightEnt e) : ∃ more : List Ent, (∀ x ∈ more, x = e ∨ x ∈ r.early) ∧ GoodR (es ++ more) m dn b (comeR r e).1 ∧ ∀ y ∈ (comeR r e).1.early, y = e ∨ y ∈ r.early := by
 unfold comeR
 cases hh : hadR r e with
 | true => exact ⟨[], (fun _ h => by cases h), by simpa using h, fun y hy => .inr hy⟩
 | false =>
   rw [if_neg (by simp)]
   unfold hadR at hh
   simp only [Bool.or_eq_false_iff, decide_eq_false_iff_not] at hh
   by_cases hg : r.next < e.1
   · rw [if_pos hg]
     by_cases h4 : 4 ≤ r.early.length
     · rw [if_pos h4]
       exact ⟨[], (fun _ h => by cases h), by simpa using h, fun y hy => .inr hy⟩
     · rw [if_neg h4]
       refine ⟨[], (fun _ h => by cases h), ?_, fun y hy => ?_⟩
       · rw [List.append_nil]
         refine ⟨h.eng, h.next, h.num, h.right, by show (r.early ++ [e]).length ≤ 4; simp; omega, fun x hx => ?_, ?_, fun x hx => ?_⟩
         · rcases List.mem_append.1 hx with h1 | h1
           · exact h.later x h1
           · simp at h1; rw [h1, ← h.next]; exact hg
         · show (r.early ++ [e]).Pairwise _
           rw [List.pairwise_append]
           refine ⟨h.one, List.pairwise_singleton _ _, fun x hx y hy => ?_⟩
           simp at hy
           subst hy
           have := List.any_eq_false.1 hh.2 x hx
           simpa [isNum] using this
         · rcases List.mem_append.1 hx with h1 | h1
           · exact h.early x h1
           · simp at h1; rw [h1]; exact he
       · rcases List.mem_append.1 hy with h1 | h1
         · exact .inr h1
         · simp at h1; exact .inl h1
   · rw [if_neg hg]
     have hn : e.1 = (es.length : Int) := by rw [← h.next]; omega
     have hp : Pulls es m dn b r := ⟨h.eng, h.next, h.num, h.right, h.four, (fun x hx => by have := h.later x hx; omega), h.one, h.early⟩
     obtain ⟨more, h1, h2, h3⟩ := pull_good r.early.length (hp.take hn he r.early (List.Sublist.refl _) h.later) (Nat.le_refl _)
     refine ⟨e :: more, fun y hy => ?_, ?_, fun y hy => .inr (h3 y hy)⟩
     · rcases List.mem_cons.1 hy with rfl | hy
       · exact .inl rfl
       · exact .inr (h1 y hy)
     · rw [List.append_assoc] at h2; exact h2
end Go.Proofs.YtlhaeeenkgkdaaaGreatDoor

namespace Go.Proofs.YtlhaeeenkgkdaaaGreatDoor
open Go.Lib

def wrongE (e : Ent) : Int := if e.1 < 0 ∨ 11 < e.1 then 3 else if 6 < e.2.length then 5 else (e.2.map (fun d => wDeed d.1 d.2.1 d.2.2)).foldr (fun w r => if w = 0 then r else w) 0
theorem wrongE_right {e : Ent} : wrongE e = 0 ↔ RightEnt e := by
 have hf : ∀ l : List Deed3, (l.map (fun d => wDeed d.1 d.2.1 d.2.2)).foldr (fun w r => if w = 0 then r else w) 0 = 0 ↔ RightDs l := by
   intro l
   induction l with
   | nil => exact ⟨(fun _ _ h => by cases h), fun _ => rfl⟩
   | cons d l ih =>
     simp only [List.map_cons, List.foldr_cons]
     by_cases h : wDeed d.1 d.2.1 d.2.2 = 0
     · rw [if_pos h, ih]
       constructor
       · intro hl x hx
         rcases List.mem_cons.1 hx with rfl | hx
         · exact right_deed h
         · exact hl x hx
       · exact fun hl x hx => hl x (by simp [hx])
     · rw [if_neg h]
       exact ⟨fun e => absurd e h, fun hl => absurd (right_wDeed (hl d (by simp))) h⟩
 unfold wrongE RightEnt
 by_cases h1 : e.1 < 0 ∨ 11 < e.1
 · rw [if_pos h1]
   exact ⟨(fun h => by cases h), fun h => by omega⟩
 · rw [if_neg h1]
   by_cases h2 : 6 < e.2.length
   · rw [if_pos h2]
     exact ⟨(fun h => by cases h), fun h => by omega⟩
   · rw [if_neg h2, hf]
     exact ⟨fun h => ⟨by omega, by omega, by omega, h⟩, fun h => h.2.2.2⟩
end Go.Proofs.YtlhaeeenkgkdaaaGreatDoor

namespace Go.Proofs.YtlhaeeenkgkdaaaGreatDoor
open Go.RowKit

theorem lies_take {w : World} {base : Option Addr} {sz n c k : Nat} {vs : List Value} (h : Lies w sz base n c vs) (hk : k ≤ n) : Lies w sz base k c (vs.take (k * sz)) := by
 have hle := h.hdr.le
 have hln := h.len
 have hm : k * sz ≤ n * sz := Nat.mul_le_mul_right _ hk
 refine ⟨by rw [List.length_take]; omega, ⟨by omega, h.hdr.max, fun e => h.hdr.nil e⟩, ?_⟩
 rcases h.run with h0 | ⟨b, o, e, hr⟩
 · exact .inl (by omega)
 · refine .inr ⟨b, o, e, fun j u hu => hr j u ?_⟩
   have hj := (List.getElem?_eq_some_iff.1 hu).1
   rw [List.length_take] at hj
   rwa [List.getElem?_take_of_lt (by omega)] at hu
end Go.Proofs.YtlhaeeenkgkdaaaGreatDoor

namespace Go.Proofs.YtlhaeeenkgkdaaaGreatDoor
open Go.RowKit

def EntHere (w : World) (b o : Nat) (x : Ent) : Prop := ∃ db dn dc, w.cell? ⟨b, o, none⟩ = some (.int .i64 x.1) ∧ w.cell? ⟨b, o + 1, none⟩ = some (.slice db dn dc) ∧ DeedsIn w db dn dc x.2
theorem EntHere.below {w w' : World} {b o : Nat} {x : Ent} (h : EntHere w b o x) (hb : Below w.heap.size w w') : EntHere w' b o x := by
 obtain ⟨db, dn, dc, h0, h1, h2⟩ := h
 exact ⟨db, dn, dc, kept_cell hb h0, kept_cell hb h1, h2.below hb⟩
structure EntsIn (w : World) (base : Option Addr) (n c : Nat) (L : List Ent) : Prop where
 len : n = L.length
 hdr : Hdr base n c
 run : n = 0 ∨ ∃ b o, base = some ⟨b, o, none⟩ ∧ ∀ i, i < n → EntHere w b (o + i * 2) (L.getD i default)
theorem EntsIn.below {w w' : World} {base : Option Addr} {n c : Nat} {L : List Ent} (h : EntsIn w base n c L) (hb : Below w.heap.size w w') : EntsIn w' base n c L := by
 refine ⟨h.len, h.hdr, ?_⟩
 rcases h.run with h0 | ⟨b, o, e, hr⟩
 · exact .inl h0
 · exact .inr ⟨b, o, e, fun i hi => (hr i hi).below hb⟩
theorem EntsIn.none (w : World) : EntsIn w Option.none 0 0 [] := ⟨rfl, ⟨Nat.le_refl _, Nat.zero_le _, fun _ => rfl⟩, .inl rfl⟩
def EntV (w : World) (v : Value) (x : Ent) : Prop := ∃ db dn dc, v = .agg #[.int .i64 x.1, .slice db dn dc] ∧ DeedsIn w db dn dc x.2
theorem EntV.below {w w' : World} {v : Value} {x : Ent} (h : EntV w v x) (hb : Below w.heap.size w w') : EntV w' v x := by
 obtain ⟨db, dn, dc, rfl, h1⟩ := h
 exact ⟨db, dn, dc, rfl, h1.below hb⟩
abbrev ESlot := Int × Sl
def eslotC (s : ESlot) : List Value := [.int .i64 s.1, .slice s.2.1 s.2.2.1 s.2.2.2]
theorem eslotC_length (s : ESlot) : (eslotC s).length = 2 := rfl
theorem eslotC_one (s : ESlot) : ∀ u ∈ eslotC s, u.oneCell' = true := fun u hu => by
 simp [eslotC] at hu; rcases hu with rfl | rfl <;> rfl
def ESlotIs (w : World) (s : ESlot) (x : Ent) : Prop := s.1 = x.1 ∧ DeedsIn w s.2.1 s.2.2.1 s.2.2.2 x.2
def ESlotsAre (w : World) (S : List ESlot) (L : List Ent) : Prop := S.length = L.length ∧ ∀ i, i < L.length → ESlotIs w (S.getD i default) (L.getD i default)
theorem ents_of_slots {w : World} {base : Option Addr} {n c : Nat} {S : List ESlot} {L : List Ent} (h : Lies w 2 base n c (flat eslotC S)) (hs : ESlotsAre w S L) : EntsIn w base n c L := by
 have hn : n = S.length := Lies.count eslotC_length (by decide) h
 refine ⟨by rw [hn, hs.1], h.hdr, ?_⟩
 rcases h.run with h0 | ⟨b, o, e, hr⟩
 · exact .inl h0
 · refine .inr ⟨b, o, e, fun i hi => ?_⟩
   have hiS : i < S.length := by omega
   obtain ⟨e1, e2⟩ := hs.2 i (by rw [← hs.1]; exact hiS)
   exact ⟨_, _, _, by rw [← e1]; exact hr.at_ eslotC_length hiS (j := 0) rfl, hr.at_ eslotC_length hiS (j := 1) rfl, e2⟩
end Go.Proofs.YtlhaeeenkgkdaaaGreatDoor

namespace Go.Proofs.YtlhaeeenkgkdaaaGreatDoor
open Go.ChangeShapes Go.WideShapes Go.ChangeAt Go.RowKit Go.Deep Go.Joins

def FewD (k : Nat) (D : List Deed3) : Prop := ∀ i, i < D.length → (D.getD i default).1.length ≤ k ∧ (D.getD i default).2.1.length ≤ k ∧ (D.getD i default).2.2.length ≤ k
def FewE (k : Nat) (L : List Ent) : Prop := ∀ i, i < L.length → (L.getD i default).2.length ≤ k ∧ FewD k (L.getD i default).2
theorem FewD.mono {k m : Nat} {D : List Deed3} (h : FewD k D) (hk : k ≤ m) : FewD m D := fun i hi => by have := h i hi; omega
theorem bulk_each {H : Type} (D : Nat → DataW H) (n i : Nat) (hi : i < n) : Rows.uptoBulk (D i) ≤ Rows.uptoBulkAll ((List.range n).map D) := by
 induction n with
 | zero => omega
 | succ n ih =>
   rw [List.range_succ, List.map_append, bulk_append]
   by_cases h : i < n
   · have := ih h; omega
   · obtain rfl : i = n := by omega
     simp only [List.map_cons, List.map_nil, Rows.uptoBulkAll]
     omega
set_option maxRecDepth 100000 in
theorem open_deedsF {H : Type} {enc : TypeId × Value → H} {W : World} {v : Value} {fuel : Nat} {y : DataW H × List MemPlace}
   (h : DataW.trod enc Tryz.prog W 0 (fun _ => true) true fuel 24 [v] = some y) :
   ∃ a len cap D, v = .slice a len cap ∧ DeedsIn W a len cap D ∧ D.length ≤ Rows.uptoBulk y.1 ∧ FewD (Rows.uptoBulk y.1) D := by
 rcases open_slice Tryz.underlying24 h with ⟨hcs, hx⟩ | ⟨x, len, cap, m, n, D, Pl, hcs, _, hl, hm, hmm, hx, hcell⟩
 · simp at hcs
   subst hcs
   exact ⟨none, 0, 0, [], rfl, ⟨rfl, ⟨Nat.le_refl _, Nat.zero_le _, fun _ => rfl⟩, .inl rfl⟩, Nat.zero_le _, fun _ h => absurd h (Nat.not_lt_zero _)⟩
 · simp at hcs
   subst hcs
   simp only [if_true] at hmm
   subst hmm
   have hbig : ∀ i, i < len → Rows.uptoBulk (D i) ≤ Rows.uptoBulk y.1 := fun i hi => by
     have := bulk_each D len i hi
     rw [hx]
     simp only [Rows.uptoBulk]
     omega
   have each : ∀ i, i < len → ∃ d : Deed3, (∃ rb rn rc wb wn wc cb cn cc, W.cell? (x.add (i * 3)) = some (.slice rb rn rc) ∧ W.cell? (x.add (i * 3 + 1)) = some (.slice wb wn wc) ∧ W.cell? (x.add (i * 3 + 2)) = some (.slice cb cn cc) ∧
       DeedIn W rb rn rc wb wn wc cb cn cc d.1 d.2.1 d.2.2 ∧ SmallT d.1 ∧ SmallT d.2.1) ∧ d.1.length ≤ Rows.uptoBulk y.1 ∧ d.2.1.length ≤ Rows.uptoBulk y.1 ∧ d.2.2.length ≤ Rows.uptoBulk y.1 := by
     intro i hi
     obtain ⟨cs', h1, h2⟩ := hcell i (by omega)
     rw [cellsDeed] at h1
     obtain ⟨_, hlen, hc⟩ := World.cells?_some h1
     obtain ⟨xs, k, _, he2, _, hxl, hf⟩ := DataW.trod_struct Tryz.underlying44 h2
     match cs', hlen, xs, hxl with
     | [v0, v1, v2], _, [y0, y1, y2], _ =>
       have g0 := hf 0 _ rfl
       have g1 := hf 1 _ rfl
       have g2 := hf 2 _ rfl
       simp [cellsTexts, cellsCodes] at g0 g1 g2
       have e0 := hc 0 (by omega)
       have e1 := hc 1 (by omega)
       have e2 := hc 2 (by omega)
       rw [add_add] at e0 e1 e2
       obtain ⟨rb, rn, rc, R, rfl, t0, s0, m0⟩ := open_texts g0
       obtain ⟨wb, wn, wc, Wr, rfl, t1, s1, m1⟩ := open_texts g1
       obtain ⟨cb, cn, cc, C, rfl, t2, m2⟩ := open_codes g2
       have hb := hbig i hi
       have hD : D i = .agg [y0.1, y1.1, y2.1] := by
         have := congrArg Prod.fst he2
         simpa using this
       rw [hD] at hb
       simp only [Rows.uptoBulk, Rows.uptoBulkAll] at hb
       have b0 := room_bulk m0
       have b1 := room_bulk m1
       have b2 := room_bulk m2
       have n0 := Texts.count t0
       have n1 := Texts.count t1
       have n2 := Codes.count t2
       have l0 := t0.hdr.le
       have l1 := t1.hdr.le
       have l2 := t2.hdr.le
       exact ⟨(R, Wr, C), ⟨rb, rn, rc, wb, wn, wc, cb, cn, cc, by simpa using e0, by simpa using e1, by simpa using e2, ⟨t0, t1, t2⟩, s0, s1⟩, by show R.length ≤ _; omega, by show Wr.length ≤ _; omega, by show C.length ≤ _; omega⟩
   obtain ⟨q, hq⟩ := choose_lt each
   have hget : ∀ i, i < len → ((List.range len).map q).getD i default = q i := fun i hi => by simp [List.getD, hi]
   refine ⟨some x, len, m, (List.range len).map q, rfl, ⟨by simp, ⟨hl, hm, fun h => by cases h⟩, ?_⟩, ?_, fun i hi => ?_⟩
   · by_cases h0 : len = 0
     · exact .inl h0
     right
     obtain ⟨b, off, spot⟩ := x
     have hsp : spot = none := by
       obtain ⟨⟨_, _, _, _, _, _, _, _, _, h0, _⟩, _⟩ := hq 0 (by omega)
       simpa [Addr.add] using World.cell?_spot h0
     subst hsp
     refine ⟨b, off, rfl, fun i hi => ?_⟩
     rw [hget i hi]
     obtain ⟨⟨rb, rn, rc, wb, wn, wc, cb, cn, cc, h0, h1, h2, h3⟩, _⟩ := hq i hi
     rw [Addr.add_lit] at h0 h1 h2
     exact ⟨rb, rn, rc, wb, wn, wc, cb, cn, cc, h0, by rw [Nat.add_assoc]; exact h1, by rw [Nat.add_assoc]; exact h2, h3⟩
   · have h1 := bulk_length ((List.range len).map D)
     rw [hx]
     simp only [Rows.uptoBulk, List.length_map, List.length_range] at h1 ⊢
     omega
   · have hi' : i < len := by simpa using hi
     rw [hget i hi']
     exact (hq i hi').2

theorem cellsEntry : Tryz.prog.cellsOf 26 = 2 := by kernel_rfl
set_option maxRecDepth 100000 in
theorem open_entry {H : Type} {enc : TypeId × Value → H} {W : World} {r : Reach} {b0 : Nat} {v : Value} {d : DataW H} {p : List MemPlace}
   (hv : Value.okWide Tryz.prog W r b0 26 v) (h : DataW.Trod enc Tryz.prog W 0 (fun _ => true) true 26 v d p) : ∃ x : Ent, EntV W v x ∧ (Lit.int .i64 x.1).wf = true := by
 obtain ⟨v0, v1, y0, y1, n, rfl, rfl, rfl, h0, h1⟩ := open_agg2 Tryz.underlying26 (by kernel_rfl) cellsEntry hv h
 obtain ⟨q, hq, _, hw⟩ := DataW.trod_int Tryz.underlying3 h0
 obtain ⟨db, dn, dc, D, rfl, hd, _⟩ := open_deedsF h1
 simp at hq
 subst hq
 exact ⟨(q, D), ⟨db, dn, dc, rfl, hd⟩, hw⟩
set_option maxRecDepth 100000 in
theorem open_ents {H : Type} {enc : TypeId × Value → H} {W : World} {v : Value} {fuel : Nat} {y : DataW H × List MemPlace}
   (h : DataW.trod enc Tryz.prog W 0 (fun _ => true) true fuel 22 [v] = some y) :
   ∃ a len cap L, v = .slice a len cap ∧ EntsIn W a len cap L ∧ L.length ≤ Rows.uptoBulk y.1 ∧ FewE (Rows.uptoBulk y.1) L := by
 rcases open_slice Tryz.underlying22 h with ⟨hcs, hx⟩ | ⟨x, len, cap, m, n, D, Pl, hcs, _, hl, hm, hmm, hx, hcell⟩
 · simp at hcs
   subst hcs
   exact ⟨none, 0, 0, [], rfl, EntsIn.none W, Nat.zero_le _, fun _ h => absurd h (Nat.not_lt_zero _)⟩
 · simp at hcs
   subst hcs
   simp only [if_true] at hmm
   subst hmm
   have hbig : ∀ i, i < len → Rows.uptoBulk (D i) ≤ Rows.uptoBulk y.1 := fun i hi => by
     have := bulk_each D len i hi
     rw [hx]
     simp only [Rows.uptoBulk]
     omega
   have each : ∀ i, i < len → ∃ e : Ent, (∃ db dn dc, W.cell? (x.add (i * 2)) = some (.int .i64 e.1) ∧ W.cell? (x.add (i * 2 + 1)) = some (.slice db dn dc) ∧ DeedsIn W db dn dc e.2) ∧ e.2.length ≤ Rows.uptoBulk y.1 ∧ FewD (Rows.uptoBulk y.1) e.2 := by
     intro i hi
     obtain ⟨cs', h1, h2⟩ := hcell i (by omega)
     rw [cellsEntry] at h1
     obtain ⟨_, hlen, hc⟩ := World.cells?_some h1
     obtain ⟨xs, k, _, he2, _, hxl, hf⟩ := DataW.trod_struct Tryz.underlying26 h2
     match cs', hlen, xs, hxl with
     | [v0, v1], _, [y0, y1], _ =>
       have g0 := hf 0 _ rfl
       have g1 := hf 1 _ rfl
       simp [cellsInt, cellsDeeds1] at g0 g1
       have e0 := hc 0 (by omega)
       have e1 := hc 1 (by omega)
       rw [add_add] at e0 e1
       obtain ⟨q0, hq0, _, _⟩ := DataW.trod_int Tryz.underlying3 g0
       obtain ⟨db, dn, dc, E, rfl, hd, hn, hfw⟩ := open_deedsF g1
       simp at hq0
       subst hq0
       have hb := hbig i hi
       have hD : D i = .agg [y0.1, y1.1] := by
         have := congrArg Prod.fst he2
         simpa using this
       rw [hD] at hb
       simp only [Rows.uptoBulk, Rows.uptoBulkAll] at hb
       exact ⟨(q0, E), ⟨db, dn, dc, by simpa using e0, by simpa using e1, hd⟩, by show E.length ≤ _; omega, hfw.mono (by omega)⟩
   obtain ⟨q, hq⟩ := choose_lt each
   have hget : ∀ i, i < len → ((List.range len).map q).getD i default = q i := fun i hi => by simp [List.getD, hi]
   refine ⟨some x, len, m, (List.range len).map q, rfl, ⟨by simp, ⟨hl, hm, fun h => by cases h⟩, ?_⟩, ?_, fun i hi => ?_⟩
   · by_cases h0 : len = 0
     · exact .inl h0
     right
     obtain ⟨b, off, spot⟩ := x
     have hsp : spot = none := by
       obtain ⟨⟨_, _, _, h0, _⟩, _⟩ := hq 0 (by omega)
       simpa [Addr.add] using World.cell?_spot h0
     subst hsp
     refine ⟨b, off, rfl, fun i hi => ?_⟩
     rw [hget i hi]
     obtain ⟨⟨db, dn, dc, h0, h1, h2⟩, _⟩ := hq i hi
     rw [Addr.add_lit] at h0 h1
     exact ⟨db, dn, dc, h0, by rw [Nat.add_assoc]; exact h1, h2⟩
   · have h1 := bulk_length ((List.range len).map D)
     rw [hx]
     simp only [Rows.uptoBulk, List.length_map, List.length_range] at h1 ⊢
     omega
   · have hi' : i < len := by simpa using hi
     rw [hget i hi']
     exact (hq i hi').2

end Go.Proofs.YtlhaeeenkgkdaaaGreatDoor
