/-
  The document's own Add of an engine, walked.
  The document's own Set and Clear, walked.
  own and with of the program: a copy of rows, and rows in which keys have what was made.
  Do of the program: a right deed, done on right rows; and the document's own, told the same way.
  All of the program: right deeds, one by one, on right rows.
  The document's own Right, All and SameEnds, walked.
  Writes in two blocks may be done either way about; rows under a write elsewhere.
  The document's own Go of an engine, walked.
  The document's own Clear, walked.
  Plain mathematics of engines: how far one is, and what keys have ahead of the first deed that waits.
  The document's own Mark and Clear of an engine, walked.
  The document's own Build of an engine, walked.
  How arguments that are batches of deeds, or numbers, are read, and how many deeds there are at the most where all that is read is of a bounded bulk.
  There is an input that fits, for a row with a condition and listed variables, at a world whose shape is known.
  Plain mathematics of replicas: entries that come, in whatever order, and as often as may be.
  Plain mathematics of entries as bytes: a right entry comes back from its bytes, bytes that are read are its own, and one byte turned is found.
-/
import Derived.Test.YthmkgfdglkdjmadGreatDoorRefNew
import Derived.Test.YthmkgfdglkdjmadGreatDoorEngGood
import Derived.Test.YthmkgfdglkdjmadGreatDoorRefWrong
import Derived.Deep.DeepCutAuto
import Derived.Test.YthmkgfdglkdjmadGreatDoorSpots
import Derived.Test.YthmkgfdglkdjmadGreatDoorDeedTurn
import Derived.Test.YthmkgfdglkdjmadGreatDoorEndsAt
import Derived.Test.YthmkgfdglkdjmadGreatDoorChainMath
import Derived.Test.YthmkgfdglkdjmadGreatDoorNamedKeep
import Derived.Test.YthmkgfdglkdjmadGreatDoorEngClear
import Derived.Deep.RegionWith
import Derived.Test.YthmkgfdglkdjmadGreatDoorRows
import Derived.ChangeSlices
import Derived.Deep.DeepHandedRow
import Derived.LaidLaws
import Derived.Test.YthmkgfdglkdjmadGreatDoorConcat
namespace Go.Proofs.YthmkgfdglkdjmadGreatDoor
open Go.RowKit

end Go.Proofs.YthmkgfdglkdjmadGreatDoor

namespace Go.Proofs.YthmkgfdglkdjmadGreatDoor
open Go.RowKit

/-- A chain's box whose versions grow one by one, in memory of their own. -/
structure XRow (A wr : World) (key : ByteArray) (v : Value) (l : List Ver) : Prop where
  c0 : wr.cell? ⟨A.heap.size, 0, none⟩ = some (.string key)
  c1 : wr.cell? ⟨A.heap.size, 1, none⟩ = some v
  f1 : wr.frozen? ⟨A.heap.size, 1, none⟩ = false
  own : OwnsV wr (A.heap.size + 1) v l
  bel : Below A.heap.size A wr
theorem XRow.lt {A wr : World} {key : ByteArray} {v : Value} {l : List Ver} (h : XRow A wr key v l) : A.heap.size < wr.heap.size := by simpa using World.block_lt_of_cell? _ _ h.c0
theorem XRow.start (A : World) (key : ByteArray) : XRow A (A.alloc (.cells #[.string key, .slice none 0 0] 54)) key (.slice none 0 0) [] :=
  ⟨box_cell _ _ _ 0 _ rfl, box_cell _ _ _ 1 _ rfl, World.frozen?_alloc_at _ _ _ _ rfl, World.ownsRow_nil _ _ _ _, grew _ _⟩
theorem XRow.deep {A wr w' : World} {key : ByteArray} {v : Value} {l : List Ver} (h : XRow A wr key v l) (hb : Below wr.heap.size wr w') : XRow A w' key v l :=
  ⟨kept_cell hb h.c0, kept_cell hb h.c1, kept_free hb ⟨h.lt, h.f1⟩, owns_keep h.own hb, below_deep h.bel hb⟩
theorem XRow.push {A w1 w2 : World} {key : ByteArray} {v v2 : Value} {l : List Ver} {u : Ver} (h : XRow A w1 key v l) (ho : w2.ownsRow (A.heap.size + 1) 56 4 v2 (l.length + 1) (flat verC l ++ verC u)) (hg : w1.grownBy w2 v.ownBlock) : XRow A (w2.setCell ⟨A.heap.size, 1, none⟩ v2) key v2 (l ++ [u]) := by
  have hne : some A.heap.size ≠ v.ownBlock := fun e => by have := (h.own.lt _ e.symm).1; omega
  refine ⟨by rw [set_off (by decide)]; exact hg.cell h.c0 hne, World.cell?_setCell_same _ _ _ (hg.cell h.c1 hne), ?_, ?_, ?_⟩
  · rw [World.frozen?_setCell, World.frozen?_of_block (w := w1) (hg.block A.heap.size h.lt hne)]; exact h.f1
  · refine ownsRow_setCell_below (a := ⟨A.heap.size, 1, none⟩) ?_ (by simp) _
    rw [List.length_append, flat_snoc]; exact ho
  · exact (h.bel.grown hg (by have := h.lt; omega) (fun a e => by have := (h.own.lt a e).1; omega)).setCell (p := ⟨A.heap.size, 1, none⟩) (Nat.le_refl _) _
/-! ### What Clear leaves, one by one -/
end Go.Proofs.YthmkgfdglkdjmadGreatDoor

namespace Go.Proofs.YthmkgfdglkdjmadGreatDoor
open Go.RowKit

theorem two_keep {A w1 w2 : World} {b0 o0 b1 o1 : Nat} {x0 x1 : Value} (h : w1.cell? ⟨b0, o0, none⟩ = some x0 ∧ w1.cell? ⟨b1, o1, none⟩ = some x1 ∧ Below A.heap.size A w1) (hb : Below w1.heap.size w1 w2) :
    w2.cell? ⟨b0, o0, none⟩ = some x0 ∧ w2.cell? ⟨b1, o1, none⟩ = some x1 ∧ Below A.heap.size A w2 :=
  ⟨kept_cell hb h.1, kept_cell hb h.2.1, below_deep h.2.2 hb⟩
end Go.Proofs.YthmkgfdglkdjmadGreatDoor

namespace Go.Proofs.YthmkgfdglkdjmadGreatDoor
open Go.RowKit

/-- A block of an end, laid and not written yet. -/
structure EndBox (w : World) (b : Nat) : Prop where
  free : ∀ j, j < 5 → w.frozen? ⟨b, j, none⟩ = false
  there : ∀ j, j < 5 → ∃ u, w.cell? ⟨b, j, none⟩ = some u
  text : NoText w b
  lt : b < w.heap.size
theorem EndBox.below {w w' : World} {b : Nat} (h : EndBox w b) (hb : Below w.heap.size w w') : EndBox w' b := by
  refine ⟨fun j hj => by rw [hb.frozen (p := ⟨b, j, none⟩) h.lt]; exact h.free j hj, fun j hj => by rw [hb.cell (p := ⟨b, j, none⟩) h.lt]; exact h.there j hj, fun o s e => ?_, Nat.lt_of_lt_of_le h.lt hb.size⟩
  rw [hb.cell (p := ⟨b, o, none⟩) h.lt] at e; exact h.text o s e
end Go.Proofs.YthmkgfdglkdjmadGreatDoor

namespace Go.Proofs.YthmkgfdglkdjmadGreatDoor
open Go.RowKit

end Go.Proofs.YthmkgfdglkdjmadGreatDoor

namespace Go.Proofs.YthmkgfdglkdjmadGreatDoor
open Go.RowKit

end Go.Proofs.YthmkgfdglkdjmadGreatDoor

namespace Go.Proofs.YthmkgfdglkdjmadGreatDoor
open Go.RowKit

theorem Holds.off {b : Nat} {w w' : World} {base : Option Addr} {n c : Nat} {l : List Row} (h : Holds w base n c l) (ha : NoText w b) (ho : Off b w w') : Holds w' base n c l := by
  refine ⟨h.len, ?_, h.hdr⟩
  rcases h.seg with h0 | ⟨bl, o, e, hc⟩
  · exact .inl h0
  · refine .inr ⟨bl, o, e, fun i hi => ?_⟩
    obtain ⟨h1, h2⟩ := hc i hi
    have hne : bl ≠ b := fun e => ha _ _ (by rw [← e]; exact h1)
    exact ⟨ho.cell hne h1, ho.cell hne h2⟩
end Go.Proofs.YthmkgfdglkdjmadGreatDoor

namespace Go.Proofs.YthmkgfdglkdjmadGreatDoor
open Go.RowKit

end Go.Proofs.YthmkgfdglkdjmadGreatDoor

namespace Go.Proofs.YthmkgfdglkdjmadGreatDoor
open Go.RowKit

end Go.Proofs.YthmkgfdglkdjmadGreatDoor

namespace Go.Proofs.YthmkgfdglkdjmadGreatDoor
open Go.RowKit

/-! ### How far an engine is -/
/-- What keys have ahead of the first one that waits. -/
theorem Good.sees {r0 : List Row} {D : List Deed3} {m : Nat} {dn : Nat → Bool} {b : ByteArray → Int} {e : Eng} (G : Good r0 D m dn b e) {n : Nat} (hn : m + n ≤ D.length) (hd : ∀ i, m ≤ i → i < m + n → dn i = true) : rowsC e.chains (e.base + n) = some (seqR r0 D (m + n)) := by
  rw [G.at_]
  exact rows_is G hn (fun c _ => all_made G hn hd c.1)
end Go.Proofs.YthmkgfdglkdjmadGreatDoor

namespace Go.Proofs.YthmkgfdglkdjmadGreatDoor
open Go.RowKit

/-! ### A slice without its first ones -/
def cutB (base : Option Addr) (c n sz : Nat) : Option Addr := if c = n then base else base.map (·.add (n * sz))
theorem lies_cut {w : World} {sz : Nat} {base : Option Addr} {n c k : Nat} {vs : List Value} (h : Lies w sz base n c vs) (hk : k ≤ n) : Lies w sz (cutB base c k sz) (n - k) (c - k) (vs.drop (k * sz)) := by
  have hle := h.hdr.le
  refine ⟨by rw [List.length_drop, h.len, Nat.sub_mul], ⟨by omega, Nat.le_trans (Nat.sub_le _ _) h.hdr.max, fun e => ?_⟩, ?_⟩
  · unfold cutB at e
    by_cases hc : c = k
    · omega
    · rw [if_neg hc] at e
      cases base with
      | none => rw [h.hdr.nil rfl]; omega
      | some a => simp at e
  · by_cases h0 : n = k
    · exact .inl (by omega)
    · rcases h.run with h1 | ⟨b, o, e, hr⟩
      · exact .inl (by omega)
      · refine .inr ⟨b, o + k * sz, ?_, fun j u hu => ?_⟩
        · unfold cutB
          rw [if_neg (by omega), e, Option.map_some, Addr.add_lit]
        · rw [List.getElem?_drop] at hu
          rw [Nat.add_assoc]
          exact hr _ u hu
end Go.Proofs.YthmkgfdglkdjmadGreatDoor

namespace Go.Proofs.YthmkgfdglkdjmadGreatDoor
open Go.RowKit

/-- A slice holds slices of deeds. -/
structure BatchesIn (w : World) (base : Option Addr) (n c : Nat) (BS : List (List Deed3)) : Prop where
  len : n = BS.length
  hdr : Hdr base n c
  run : n = 0 ∨ ∃ b o, base = some ⟨b, o, none⟩ ∧ ∀ i, i < n → ∃ db dn dc, w.cell? ⟨b, o + i, none⟩ = some (.slice db dn dc) ∧ DeedsIn w db dn dc (BS.getD i default)
theorem BatchesIn.below {w w' : World} {base : Option Addr} {n c : Nat} {BS : List (List Deed3)} (h : BatchesIn w base n c BS) (hb : Below w.heap.size w w') : BatchesIn w' base n c BS := by
  refine ⟨h.len, h.hdr, ?_⟩
  rcases h.run with h0 | ⟨b, o, e, hr⟩
  · exact .inl h0
  · refine .inr ⟨b, o, e, fun i hi => ?_⟩
    obtain ⟨db, dn, dc, h1, h2⟩ := hr i hi
    exact ⟨db, dn, dc, kept_cell hb h1, h2.below hb⟩
/-- An engine that came of right rows, in a call's own block. -/
def Kept (r0 : List Row) (N : Nat) (W : World) (b : Nat) : Prop := ∃ D m dq bq e cb cn cc db dn dc sb sn sc eb en ec, Good r0 D m dq bq e ∧ D.length ≤ N ∧ Box W b #[.slice cb cn cc, .slice db dn dc, .slice sb sn sc, .slice eb en ec, .int .i64 e.base] 33 ∧ EngLies W cb cn cc db dn dc sb sn sc eb en ec e
theorem Kept.below {r0 : List Row} {N : Nat} {W W' : World} {b : Nat} (h : Kept r0 N W b) (hb : Below W.heap.size W W') : Kept r0 N W' b := by
  obtain ⟨D, m, dq, bq, e, cb, cn, cc, db, dn, dc, sb, sn, sc, eb, en, ec, h1, h2, h3, h4⟩ := h
  exact ⟨D, m, dq, bq, e, cb, cn, cc, db, dn, dc, sb, sn, sc, eb, en, ec, h1, h2, h3.below hb, h4.below hb⟩
theorem Kept.mono {r0 : List Row} {N M : Nat} {W : World} {b : Nat} (h : Kept r0 N W b) (hN : N ≤ M) : Kept r0 M W b := by
  obtain ⟨D, m, dq, bq, e, cb, cn, cc, db, dn, dc, sb, sn, sc, eb, en, ec, h1, h2, h3, h4⟩ := h
  exact ⟨D, m, dq, bq, e, cb, cn, cc, db, dn, dc, sb, sn, sc, eb, en, ec, h1, Nat.le_trans h2 hN, h3, h4⟩
theorem Kept.put {r0 : List Row} {N : Nat} {W : World} {b : Nat} {D : List Deed3} {m : Nat} {dq : Nat → Bool} {bq : ByteArray → Int} {e : Eng} {cb : Option Addr} {cn cc : Nat} {db : Option Addr} {dn dc : Nat} {sb : Option Addr} {sn sc : Nat} {eb : Option Addr} {en ec : Nat} {cb' : Option Addr} {cn' cc' : Nat} {db' : Option Addr} {dn' dc' : Nat} {sb' : Option Addr} {sn' sc' : Nat} {eb' : Option Addr} {en' ec' : Nat} {bs : Int}
    (G : Good r0 D m dq bq e) (hN : D.length ≤ N) (hb : Box W b #[.slice cb' cn' cc', .slice db' dn' dc', .slice sb' sn' sc', .slice eb' en' ec', .int .i64 bs] 33) (hl : EngLies W cb cn cc db dn dc sb sn sc eb en ec e) :
    Kept r0 N (put5 W b (.slice cb cn cc) (.slice db dn dc) (.slice sb sn sc) (.slice eb en ec) (.int .i64 e.base)) b :=
  ⟨D, m, dq, bq, e, cb, cn, cc, db, dn, dc, sb, sn, sc, eb, en, ec, G, hN, put5_box hb _ _ _ _ _, hl.put hb (put5_off _ _ _ _ _ _ _)⟩
end Go.Proofs.YthmkgfdglkdjmadGreatDoor

namespace Go.Proofs.YthmkgfdglkdjmadGreatDoor
open Go.ChangeShapes Go.WideShapes Go.ChangeAt Go.RowKit Go.Deep Go.Joins

theorem bulk_one {H : Type} (d : DataW H) : 1 ≤ Rows.uptoBulk d := by
  cases d with
  | lit l => cases l <;> simp [Rows.uptoBulk]
  | nil => simp [Rows.uptoBulk]
  | ptr d => simp [Rows.uptoBulk]
  | slice elems spare => simp [Rows.uptoBulk]
  | agg parts => simp [Rows.uptoBulk]
  | iface t d => simp [Rows.uptoBulk]
  | map entries => simp [Rows.uptoBulk]
  | held h => simp [Rows.uptoBulk]
theorem bulk_append {H : Type} (l r : List (DataW H)) : Rows.uptoBulkAll (l ++ r) = Rows.uptoBulkAll l + Rows.uptoBulkAll r := by
  induction l with
  | nil => simp [Rows.uptoBulkAll]
  | cons x l ih => simp only [List.cons_append, Rows.uptoBulkAll, ih]; omega
theorem bulk_length {H : Type} (l : List (DataW H)) : l.length ≤ Rows.uptoBulkAll l := by
  induction l with
  | nil => simp [Rows.uptoBulkAll]
  | cons x r ih => have := bulk_one x; simp only [Rows.uptoBulkAll, List.length_cons]; omega
theorem room_bulk {H : Type} {d : DataW H} {cap : Nat} (h : Room d cap) : cap ≤ Rows.uptoBulk d := by
  rcases h with ⟨_, rfl⟩ | ⟨elems, spare, rfl, hc⟩
  · exact Nat.zero_le _
  · have h1 := bulk_length elems
    have h2 := bulk_length spare
    simp only [Rows.uptoBulk]
    omega
theorem cellsDeeds1 : Tryz.prog.cellsOf 24 = 1 := by kernel_rfl
end Go.Proofs.YthmkgfdglkdjmadGreatDoor

namespace Go.Proofs.YthmkgfdglkdjmadGreatDoor

theorem witness_row_zip {H : Type} {enc : TypeId × Value → H} {C : Checked} {os : Os} {f : FuncId} {fn : Func} {s : OpenSpec} {conds : List PathCond} {apart : Bool} {laid : List (String × DataW Unit)} (modest : Bool) (w0 : World) (args : Array Value) (hos : w0.os = os)
    (hsh : (w0.forCall (fun _ _ => 0) ⟨#[], args, []⟩).Shaped C.prog)
    (hok : Input.okWideB C.prog (w0.forCall (fun _ _ => 0) ⟨#[], args, []⟩) f ⟨#[], args, []⟩ = true)
    (hrow : s.preRow enc C.prog fn conds apart laid (w0.forCall (fun _ _ => 0) ⟨#[], args, []⟩).memory args) :
    ∃ (w : World) (tape : Tape) (i : Input), w.os = os ∧ (w.forCall tape i).Shaped C.prog ∧ i.vars = [] ∧ Input.okWide C.prog (w.forCall tape i) .any w.heap.size f i ∧
      s.preRow enc C.prog fn conds apart laid (w.forCall tape i).memory i.args ∧ ({ modest := modest } : Assume).holds C.prog (lone (Frame.enter C.prog f i.args .normal) [] (w.forCall tape i)) :=
  ⟨w0, fun _ _ => 0, ⟨#[], args, []⟩, hos, hsh, (Input.okWide_of_okWideB (base := 0) hok).1, (Input.okWide_of_okWideB hok).2, hrow, by
    simp only [Assume.holds]
    exact ⟨by simp, by simp, fun _ => Modest.zero, by simp, by simp⟩⟩
end Go.Proofs.YthmkgfdglkdjmadGreatDoor

namespace Go.Proofs.YthmkgfdglkdjmadGreatDoor
open Go.RowKit

/-- An entry: its number, its deeds. -/
abbrev Ent := Int × List Deed3
structure Rep where
  eng : Eng
  next : Int
  early : List Ent
def newR : Rep := ⟨newE [], 0, []⟩
def deedsOf (es : List Ent) : List Deed3 := es.flatMap (·.2)
def RightEnt (e : Ent) : Prop := 0 ≤ e.1 ∧ e.1 < 12 ∧ e.2.length ≤ 6 ∧ RightDs e.2

/-- What each replica is: of entries es that were taken in, in turn. -/
structure GoodR (es : List Ent) (m : Nat) (dn : Nat → Bool) (b : ByteArray → Int) (r : Rep) : Prop where
  eng : Good [] (deedsOf es) m dn b r.eng
  next : r.next = es.length
  num : ∀ i, i < es.length → (es.getD i default).1 = i
  right : ∀ x ∈ es, RightEnt x
  four : r.early.length ≤ 4
  later : ∀ x ∈ r.early, (es.length : Int) < x.1
  one : r.early.Pairwise (fun x y => x.1 ≠ y.1)
  early : ∀ x ∈ r.early, RightEnt x
theorem right_nil : Right [] := ⟨List.Pairwise.nil, (fun _ h => by cases h), (fun _ h => by cases h), (fun _ h => by cases h)⟩
theorem GoodR.new : GoodR [] 0 (fun _ => false) (fun _ => -1) newR :=
  ⟨Good.new right_nil, rfl, (fun i h => absurd h (Nat.not_lt_zero _)), (fun _ h => by cases h), Nat.zero_le _, (fun _ h => by cases h), List.Pairwise.nil, (fun _ h => by cases h)⟩
theorem deedsOf_snoc (es : List Ent) (e : Ent) : deedsOf (es ++ [e]) = deedsOf es ++ e.2 := by simp [deedsOf]
/-- What comes of it when entries may still be next. -/
structure Pulls (es : List Ent) (m : Nat) (dn : Nat → Bool) (b : ByteArray → Int) (r : Rep) : Prop where
  eng : Good [] (deedsOf es) m dn b r.eng
  next : r.next = es.length
  num : ∀ i, i < es.length → (es.getD i default).1 = i
  right : ∀ x ∈ es, RightEnt x
  four : r.early.length ≤ 4
  later : ∀ x ∈ r.early, (es.length : Int) ≤ x.1
  one : r.early.Pairwise (fun x y => x.1 ≠ y.1)
  early : ∀ x ∈ r.early, RightEnt x
theorem num_snoc {es : List Ent} {e : Ent} (h : ∀ i, i < es.length → (es.getD i default).1 = i) (he : e.1 = es.length) : ∀ i, i < (es ++ [e]).length → ((es ++ [e]).getD i default).1 = i := fun i hi => by
  by_cases hl : i < es.length
  · have := h i hl
    simpa [List.getD, List.getElem?_append_left hl] using this
  · have : i = es.length := by simp at hi; omega
    subst this
    simpa [List.getD] using he
theorem Pulls.take {es : List Ent} {m : Nat} {dn : Nat → Bool} {b : ByteArray → Int} {r : Rep} (h : Pulls es m dn b r) {x : Ent} (hx : x.1 = es.length) (hr : RightEnt x) (E : List Ent) (hs : E.Sublist r.early) (hl : ∀ y ∈ E, (es.length : Int) < y.1) : Pulls (es ++ [x]) m dn b ⟨addAll r.eng x.2, r.next + 1, E⟩ := by
  refine ⟨?_, ?_, num_snoc h.num hx, fun y hy => ?_, Nat.le_trans hs.length_le h.four, fun y hy => ?_, h.one.sublist hs, fun y hy => h.early y (hs.subset hy)⟩
  · rw [deedsOf_snoc]; exact h.eng.addAll hr.2.2.2
  · show r.next + 1 = _
    rw [h.next]; simp
  · rcases List.mem_append.1 hy with h1 | h1
    · exact h.right y h1
    · simp at h1; rw [h1]; exact hr
  · have := hl y hy
    simp; omega
end Go.Proofs.YthmkgfdglkdjmadGreatDoor

namespace Go.Proofs.YthmkgfdglkdjmadGreatDoor
open Go.Lib

/-! ### The sum -/
def stepS (s : Nat) (c : UInt8) : Nat := (257 * s + c.toNat + 1) % 65521
def sumFrom (s : Nat) (l : T) : Nat := l.foldl stepS s
def sumT (l : T) : Nat := sumFrom 1 l
theorem step_lt (s : Nat) (c : UInt8) : stepS s c < 65521 := Nat.mod_lt _ (by decide)
theorem sumFrom_lt : ∀ (l : T) {s : Nat}, s < 65521 → sumFrom s l < 65521
  | [], _, h => h
  | c :: l, s, _ => sumFrom_lt l (step_lt s c)
theorem sumT_lt (l : T) : sumT l < 65521 := sumFrom_lt l (by decide)
/-! ### Lines -/
def linesT (cur : T) : T → List T
  | [] => []
  | c :: s => if c = 10 then cur :: linesT [] s else linesT (cur ++ [c]) s
/-- What stands behind the last line feed. -/
def restT (cur : T) : T → T
  | [] => cur
  | c :: s => if c = 10 then restT [] s else restT (cur ++ [c]) s
def unlines (l : List T) : T := l.flatMap (fun x => x ++ [10])
theorem lines_word : ∀ (w cur s : T), (∀ c ∈ w, c ≠ 10) → linesT cur (w ++ s) = linesT (cur ++ w) s
  | [], cur, s, _ => by simp
  | c :: w, cur, s, h => by
    rw [List.cons_append, linesT, if_neg (h c (by simp)), lines_word w _ s (fun d hd => h d (by simp [hd]))]
    simp
/-! ### A deed's text is one line -/
/-! ### Entries -/
def printD (d : Deed3) : T := printT d.1 d.2.1 d.2.2
def dataE (e : Ent) : T := UInt8.ofNat e.1.toNat :: unlines (e.2.map printD)
def bytesE (e : Ent) : T := dataE e ++ [UInt8.ofNat (sumT (dataE e) / 256), UInt8.ofNat (sumT (dataE e) % 256)]
/-- Lines, read: the first error, or deeds. -/
def readLines : List T → Int × List Deed3
  | [] => (0, [])
  | x :: l => if (readT x).1 = 0 then (if (readLines l).1 = 0 then (0, (readT x).2 :: (readLines l).2) else ((readLines l).1, [])) else ((readT x).1, [])
def wrongE (e : Ent) : Int := if e.1 < 0 ∨ 11 < e.1 then 3 else if 6 < e.2.length then 5 else (e.2.map (fun d => wDeed d.1 d.2.1 d.2.2)).foldr (fun w r => if w = 0 then r else w) 0
def noEnt : Ent := (0, [])
def sumOk (b : T) : Bool := decide (sumT (b.take (b.length - 2)) = 256 * (b.getD (b.length - 2) 0).toNat + (b.getD (b.length - 1) 0).toNat)
def readE (b : T) : Int × Ent :=
  if b.length < 3 then (8, noEnt)
  else if sumOk b = false then (2, noEnt)
  else if 3 < b.length ∧ b.getD (b.length - 3) 0 ≠ 10 then (2, noEnt)
  else
    let r := readLines (linesT [] ((b.take (b.length - 2)).drop 1))
    if r.1 = 0 then (if wrongE ((b.getD 0 0).toNat, r.2) = 0 then (0, ((b.getD 0 0).toNat, r.2)) else (wrongE ((b.getD 0 0).toNat, r.2), noEnt)) else (r.1, noEnt)
theorem wrongE_right {e : Ent} : wrongE e = 0 ↔ RightEnt e := by
  have hf : ∀ l : List Deed3, (l.map (fun d => wDeed d.1 d.2.1 d.2.2)).foldr (fun w r => if w = 0 then r else w) 0 = 0 ↔ RightDs l := by
    intro l
    induction l with
    | nil => exact ⟨(fun _ _ h => by cases h), fun _ => rfl⟩
    | cons d l ih =>
      simp only [List.map_cons, List.foldr_cons]
      by_cases h : wDeed d.1 d.2.1 d.2.2 = 0
      · rw [if_pos h, ih]
        constructor
        · intro hl x hx
          rcases List.mem_cons.1 hx with rfl | hx
          · exact right_deed h
          · exact hl x hx
        · exact fun hl x hx => hl x (by simp [hx])
      · rw [if_neg h]
        exact ⟨fun e => absurd e h, fun hl => absurd (right_wDeed (hl d (by simp))) h⟩
  unfold wrongE RightEnt
  by_cases h1 : e.1 < 0 ∨ 11 < e.1
  · rw [if_pos h1]
    exact ⟨(fun h => by cases h), fun h => by omega⟩
  · rw [if_neg h1]
    by_cases h2 : 6 < e.2.length
    · rw [if_pos h2]
      exact ⟨(fun h => by cases h), fun h => by omega⟩
    · rw [if_neg h2, hf]
      exact ⟨fun h => ⟨by omega, by omega, by omega, h⟩, fun h => h.2.2.2⟩
/-! ### There, and back -/
theorem ofNat_small {n : Nat} (h : n < 256) : (UInt8.ofNat n).toNat = n := by
  rw [UInt8.toNat_ofNat']; exact Nat.mod_eq_of_lt h
/-! ### One byte turned is found -/
end Go.Proofs.YthmkgfdglkdjmadGreatDoor
