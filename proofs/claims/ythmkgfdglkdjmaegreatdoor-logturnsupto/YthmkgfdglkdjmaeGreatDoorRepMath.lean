/-
  The document's own Add of an engine, walked.
  The document's own Set and Clear, walked.
  own and with of the program: a copy of rows, and rows in which keys have what was made.
  Do of the program: a right deed, done on right rows; and the document's own, told the same way.
  All of the program: right deeds, one by one, on right rows.
  The document's own Right, All and SameEnds, walked.
  Writes in two blocks may be done either way about; rows under a write elsewhere.
  The document's own Go of an engine, walked.
  The document's own Clear, walked.
  Plain mathematics of engines: how far one is, and what keys have ahead of the first deed that waits.
  The document's own Mark and Clear of an engine, walked.
  The document's own Build of an engine, walked.
  How arguments that are batches of deeds, or numbers, are read, and how many deeds there are at the most where all that is read is of a bounded bulk.
  Plain mathematics of replicas: entries that come, in whatever order, and as often as may be.
-/
import Derived.Test.YthmkgfdglkdjmaeGreatDoorRefNew
import Derived.Test.YthmkgfdglkdjmaeGreatDoorEngGood
import Derived.Test.YthmkgfdglkdjmaeGreatDoorRefWrong
import Derived.Deep.DeepCutAuto
import Derived.Test.YthmkgfdglkdjmaeGreatDoorSpots
import Derived.Test.YthmkgfdglkdjmaeGreatDoorDeedEq
import Derived.Test.YthmkgfdglkdjmaeGreatDoorEndsAt
import Derived.Test.YthmkgfdglkdjmaeGreatDoorChainMath
import Derived.Test.YthmkgfdglkdjmaeGreatDoorNamedKeep
import Derived.Deep.RegionWith
import Derived.Test.YthmkgfdglkdjmaeGreatDoorRows
import Derived.ChangeSlices
namespace Go.Proofs.YthmkgfdglkdjmaeGreatDoor
open Go.RowKit

end Go.Proofs.YthmkgfdglkdjmaeGreatDoor

namespace Go.Proofs.YthmkgfdglkdjmaeGreatDoor
open Go.RowKit

/-! ### What Clear leaves, one by one -/
end Go.Proofs.YthmkgfdglkdjmaeGreatDoor

namespace Go.Proofs.YthmkgfdglkdjmaeGreatDoor
open Go.RowKit

end Go.Proofs.YthmkgfdglkdjmaeGreatDoor

namespace Go.Proofs.YthmkgfdglkdjmaeGreatDoor
open Go.RowKit

/-- A block of an end, laid and not written yet. -/
structure EndBox (w : World) (b : Nat) : Prop where
  free : ∀ j, j < 5 → w.frozen? ⟨b, j, none⟩ = false
  there : ∀ j, j < 5 → ∃ u, w.cell? ⟨b, j, none⟩ = some u
  text : NoText w b
  lt : b < w.heap.size
theorem EndBox.below {w w' : World} {b : Nat} (h : EndBox w b) (hb : Below w.heap.size w w') : EndBox w' b := by
  refine ⟨fun j hj => by rw [hb.frozen (p := ⟨b, j, none⟩) h.lt]; exact h.free j hj, fun j hj => by rw [hb.cell (p := ⟨b, j, none⟩) h.lt]; exact h.there j hj, fun o s e => ?_, Nat.lt_of_lt_of_le h.lt hb.size⟩
  rw [hb.cell (p := ⟨b, o, none⟩) h.lt] at e; exact h.text o s e
end Go.Proofs.YthmkgfdglkdjmaeGreatDoor

namespace Go.Proofs.YthmkgfdglkdjmaeGreatDoor
open Go.RowKit

end Go.Proofs.YthmkgfdglkdjmaeGreatDoor

namespace Go.Proofs.YthmkgfdglkdjmaeGreatDoor
open Go.RowKit

end Go.Proofs.YthmkgfdglkdjmaeGreatDoor

namespace Go.Proofs.YthmkgfdglkdjmaeGreatDoor
open Go.RowKit

theorem Holds.off {b : Nat} {w w' : World} {base : Option Addr} {n c : Nat} {l : List Row} (h : Holds w base n c l) (ha : NoText w b) (ho : Off b w w') : Holds w' base n c l := by
  refine ⟨h.len, ?_, h.hdr⟩
  rcases h.seg with h0 | ⟨bl, o, e, hc⟩
  · exact .inl h0
  · refine .inr ⟨bl, o, e, fun i hi => ?_⟩
    obtain ⟨h1, h2⟩ := hc i hi
    have hne : bl ≠ b := fun e => ha _ _ (by rw [← e]; exact h1)
    exact ⟨ho.cell hne h1, ho.cell hne h2⟩
end Go.Proofs.YthmkgfdglkdjmaeGreatDoor

namespace Go.Proofs.YthmkgfdglkdjmaeGreatDoor
open Go.RowKit

end Go.Proofs.YthmkgfdglkdjmaeGreatDoor

namespace Go.Proofs.YthmkgfdglkdjmaeGreatDoor
open Go.RowKit

end Go.Proofs.YthmkgfdglkdjmaeGreatDoor

namespace Go.Proofs.YthmkgfdglkdjmaeGreatDoor
open Go.RowKit

/-! ### How far an engine is -/
/-- What keys have ahead of the first one that waits. -/
theorem Good.sees {r0 : List Row} {D : List Deed3} {m : Nat} {dn : Nat → Bool} {b : ByteArray → Int} {e : Eng} (G : Good r0 D m dn b e) {n : Nat} (hn : m + n ≤ D.length) (hd : ∀ i, m ≤ i → i < m + n → dn i = true) : rowsC e.chains (e.base + n) = some (seqR r0 D (m + n)) := by
  rw [G.at_]
  exact rows_is G hn (fun c _ => all_made G hn hd c.1)
end Go.Proofs.YthmkgfdglkdjmaeGreatDoor

namespace Go.Proofs.YthmkgfdglkdjmaeGreatDoor
open Go.RowKit

/-! ### A slice without its first ones -/
def cutB (base : Option Addr) (c n sz : Nat) : Option Addr := if c = n then base else base.map (·.add (n * sz))
theorem lies_cut {w : World} {sz : Nat} {base : Option Addr} {n c k : Nat} {vs : List Value} (h : Lies w sz base n c vs) (hk : k ≤ n) : Lies w sz (cutB base c k sz) (n - k) (c - k) (vs.drop (k * sz)) := by
  have hle := h.hdr.le
  refine ⟨by rw [List.length_drop, h.len, Nat.sub_mul], ⟨by omega, Nat.le_trans (Nat.sub_le _ _) h.hdr.max, fun e => ?_⟩, ?_⟩
  · unfold cutB at e
    by_cases hc : c = k
    · omega
    · rw [if_neg hc] at e
      cases base with
      | none => rw [h.hdr.nil rfl]; omega
      | some a => simp at e
  · by_cases h0 : n = k
    · exact .inl (by omega)
    · rcases h.run with h1 | ⟨b, o, e, hr⟩
      · exact .inl (by omega)
      · refine .inr ⟨b, o + k * sz, ?_, fun j u hu => ?_⟩
        · unfold cutB
          rw [if_neg (by omega), e, Option.map_some, Addr.add_lit]
        · rw [List.getElem?_drop] at hu
          rw [Nat.add_assoc]
          exact hr _ u hu
end Go.Proofs.YthmkgfdglkdjmaeGreatDoor

namespace Go.Proofs.YthmkgfdglkdjmaeGreatDoor
open Go.RowKit

/-- A slice holds slices of deeds. -/
structure BatchesIn (w : World) (base : Option Addr) (n c : Nat) (BS : List (List Deed3)) : Prop where
  len : n = BS.length
  hdr : Hdr base n c
  run : n = 0 ∨ ∃ b o, base = some ⟨b, o, none⟩ ∧ ∀ i, i < n → ∃ db dn dc, w.cell? ⟨b, o + i, none⟩ = some (.slice db dn dc) ∧ DeedsIn w db dn dc (BS.getD i default)
theorem BatchesIn.below {w w' : World} {base : Option Addr} {n c : Nat} {BS : List (List Deed3)} (h : BatchesIn w base n c BS) (hb : Below w.heap.size w w') : BatchesIn w' base n c BS := by
  refine ⟨h.len, h.hdr, ?_⟩
  rcases h.run with h0 | ⟨b, o, e, hr⟩
  · exact .inl h0
  · refine .inr ⟨b, o, e, fun i hi => ?_⟩
    obtain ⟨db, dn, dc, h1, h2⟩ := hr i hi
    exact ⟨db, dn, dc, kept_cell hb h1, h2.below hb⟩
end Go.Proofs.YthmkgfdglkdjmaeGreatDoor

namespace Go.Proofs.YthmkgfdglkdjmaeGreatDoor
open Go.ChangeShapes Go.WideShapes Go.ChangeAt Go.RowKit Go.Deep Go.Joins

theorem bulk_one {H : Type} (d : DataW H) : 1 ≤ Rows.uptoBulk d := by
  cases d with
  | lit l => cases l <;> simp [Rows.uptoBulk]
  | nil => simp [Rows.uptoBulk]
  | ptr d => simp [Rows.uptoBulk]
  | slice elems spare => simp [Rows.uptoBulk]
  | agg parts => simp [Rows.uptoBulk]
  | iface t d => simp [Rows.uptoBulk]
  | map entries => simp [Rows.uptoBulk]
  | held h => simp [Rows.uptoBulk]
theorem bulk_append {H : Type} (l r : List (DataW H)) : Rows.uptoBulkAll (l ++ r) = Rows.uptoBulkAll l + Rows.uptoBulkAll r := by
  induction l with
  | nil => simp [Rows.uptoBulkAll]
  | cons x l ih => simp only [List.cons_append, Rows.uptoBulkAll, ih]; omega
theorem bulk_length {H : Type} (l : List (DataW H)) : l.length ≤ Rows.uptoBulkAll l := by
  induction l with
  | nil => simp [Rows.uptoBulkAll]
  | cons x r ih => have := bulk_one x; simp only [Rows.uptoBulkAll, List.length_cons]; omega
theorem room_bulk {H : Type} {d : DataW H} {cap : Nat} (h : Room d cap) : cap ≤ Rows.uptoBulk d := by
  rcases h with ⟨_, rfl⟩ | ⟨elems, spare, rfl, hc⟩
  · exact Nat.zero_le _
  · have h1 := bulk_length elems
    have h2 := bulk_length spare
    simp only [Rows.uptoBulk]
    omega
end Go.Proofs.YthmkgfdglkdjmaeGreatDoor

namespace Go.Proofs.YthmkgfdglkdjmaeGreatDoor
open Go.RowKit

/-- An entry: its number, its deeds. -/
abbrev Ent := Int × List Deed3
structure Rep where
  eng : Eng
  next : Int
  early : List Ent
def newR : Rep := ⟨newE [], 0, []⟩
def deedsOf (es : List Ent) : List Deed3 := es.flatMap (·.2)
def RightEnt (e : Ent) : Prop := 0 ≤ e.1 ∧ e.1 < 12 ∧ e.2.length ≤ 6 ∧ RightDs e.2

/-- What each replica is: of entries es that were taken in, in turn. -/
structure GoodR (es : List Ent) (m : Nat) (dn : Nat → Bool) (b : ByteArray → Int) (r : Rep) : Prop where
  eng : Good [] (deedsOf es) m dn b r.eng
  next : r.next = es.length
  num : ∀ i, i < es.length → (es.getD i default).1 = i
  right : ∀ x ∈ es, RightEnt x
  four : r.early.length ≤ 4
  later : ∀ x ∈ r.early, (es.length : Int) < x.1
  one : r.early.Pairwise (fun x y => x.1 ≠ y.1)
  early : ∀ x ∈ r.early, RightEnt x
theorem right_nil : Right [] := ⟨List.Pairwise.nil, (fun _ h => by cases h), (fun _ h => by cases h), (fun _ h => by cases h)⟩
theorem GoodR.new : GoodR [] 0 (fun _ => false) (fun _ => -1) newR :=
  ⟨Good.new right_nil, rfl, (fun i h => absurd h (Nat.not_lt_zero _)), (fun _ h => by cases h), Nat.zero_le _, (fun _ h => by cases h), List.Pairwise.nil, (fun _ h => by cases h)⟩
theorem deedsOf_snoc (es : List Ent) (e : Ent) : deedsOf (es ++ [e]) = deedsOf es ++ e.2 := by simp [deedsOf]
/-- What comes of it when entries may still be next. -/
structure Pulls (es : List Ent) (m : Nat) (dn : Nat → Bool) (b : ByteArray → Int) (r : Rep) : Prop where
  eng : Good [] (deedsOf es) m dn b r.eng
  next : r.next = es.length
  num : ∀ i, i < es.length → (es.getD i default).1 = i
  right : ∀ x ∈ es, RightEnt x
  four : r.early.length ≤ 4
  later : ∀ x ∈ r.early, (es.length : Int) ≤ x.1
  one : r.early.Pairwise (fun x y => x.1 ≠ y.1)
  early : ∀ x ∈ r.early, RightEnt x
theorem num_snoc {es : List Ent} {e : Ent} (h : ∀ i, i < es.length → (es.getD i default).1 = i) (he : e.1 = es.length) : ∀ i, i < (es ++ [e]).length → ((es ++ [e]).getD i default).1 = i := fun i hi => by
  by_cases hl : i < es.length
  · have := h i hl
    simpa [List.getD, List.getElem?_append_left hl] using this
  · have : i = es.length := by simp at hi; omega
    subst this
    simpa [List.getD] using he
theorem Pulls.take {es : List Ent} {m : Nat} {dn : Nat → Bool} {b : ByteArray → Int} {r : Rep} (h : Pulls es m dn b r) {x : Ent} (hx : x.1 = es.length) (hr : RightEnt x) (E : List Ent) (hs : E.Sublist r.early) (hl : ∀ y ∈ E, (es.length : Int) < y.1) : Pulls (es ++ [x]) m dn b ⟨addAll r.eng x.2, r.next + 1, E⟩ := by
  refine ⟨?_, ?_, num_snoc h.num hx, fun y hy => ?_, Nat.le_trans hs.length_le h.four, fun y hy => ?_, h.one.sublist hs, fun y hy => h.early y (hs.subset hy)⟩
  · rw [deedsOf_snoc]; exact h.eng.addAll hr.2.2.2
  · show r.next + 1 = _
    rw [h.next]; simp
  · rcases List.mem_append.1 hy with h1 | h1
    · exact h.right y h1
    · simp at h1; rw [h1]; exact hr
  · have := hl y hy
    simp; omega
end Go.Proofs.YthmkgfdglkdjmaeGreatDoor
