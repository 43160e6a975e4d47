/-
  The document's own Put, walked: of rows that rise it comes to what the program's Put and Drop come to.
  The document's own Do: a deed done on rows.
-/
import Derived.Test.YtfdliblikkpjiabDoorPut
import Derived.Test.YtfdliblikkpjiabDoorRefMath
import Derived.Test.YtfdliblikkpjiabDoorDoMath
import Derived.Test.YtfdliblikkpjiabDoorRefForm
import Derived.Test.YtfdliblikkpjiabDoorRefSameDeed
namespace Go.Proofs.YtfdliblikkpjiabDoor
open Go.RowKit

theorem cells_two (w : World) (p : Obj) (k : ByteArray) (m : Int) (t : TypeId) : Cells ((w.alloc p).alloc (.cells #[.string k, .int .i64 m] t)) (w.heap.size + 1) 0 [(k, m)] := by
  have := cells_one (w.alloc p) k m t
  rwa [World.size_alloc] at this
theorem holds_one {w : World} {b : Nat} {k : ByteArray} {m : Int} (h : Cells w b 0 [(k, m)]) : Holds w (some ⟨b, 0, none⟩) 1 1 [(k, m)] := Holds.cells rfl h (Nat.le_refl _) (by unfold maxLen; omega)

theorem le_alloc {B : Nat} {w : World} {o : Obj} (h : B ≤ w.heap.size) : B ≤ (w.alloc o).heap.size := by rw [World.size_alloc]; omega
theorem measure_step {j n : Nat} (h : j < n) : n - (intOf (.int .i64 ((j : Int) + 1))).toNat < n - (intOf (.int .i64 (j : Int))).toNat := by simp [intOf]; omega

end Go.Proofs.YtfdliblikkpjiabDoor

namespace Go.Proofs.YtfdliblikkpjiabDoor
open Go.RowKit

/-- The end of a deed, in a block: whether it failed, and four registers. -/
structure EndAt (w : World) (b : Nat) (r : Nat → Int) : Prop where
  no : w.cell? ⟨b, 0, none⟩ = some (.bool false)
  nofree : w.frozen? ⟨b, 0, none⟩ = false
  at_ : ∀ i, i < 4 → w.cell? ⟨b, 1 + i, none⟩ = some (.int .i64 (r i))
  free : ∀ i, i < 4 → w.frozen? ⟨b, 1 + i, none⟩ = false
  len : ∀ i, 5 ≤ i → w.cell? ⟨b, i, none⟩ = none
theorem EndAt.lt {w : World} {b : Nat} {r : Nat → Int} (h : EndAt w b r) : b < w.heap.size := by simpa using World.block_lt_of_cell? _ _ h.no
theorem EndAt.deep {w w' : World} {b B : Nat} {r : Nat → Int} (h : EndAt w b r) (hb : Below B w w') (hB : b < B) : EndAt w' b r :=
  ⟨by rw [hb.cell (p := ⟨b, 0, none⟩) hB]; exact h.no, by rw [hb.frozen (p := ⟨b, 0, none⟩) hB]; exact h.nofree, fun i hi => by rw [hb.cell (p := ⟨b, 1 + i, none⟩) hB]; exact h.at_ i hi, fun i hi => by rw [hb.frozen (p := ⟨b, 1 + i, none⟩) hB]; exact h.free i hi, fun i hi => by rw [hb.cell (p := ⟨b, i, none⟩) hB]; exact h.len i hi⟩
theorem EndAt.set {w : World} {b : Nat} {r : Nat → Int} (h : EndAt w b r) {a : Nat} (ha : a < 4) (x : Int) : EndAt (w.setCell ⟨b, 1 + a, none⟩ (.int .i64 x)) b (setR r a x) := by
  refine ⟨by rw [set_off (by omega)]; exact h.no, by rw [World.frozen?_setCell]; exact h.nofree, fun i hi => ?_, fun i hi => by rw [World.frozen?_setCell]; exact h.free i hi, fun i hi => by rw [set_off (by omega)]; exact h.len i hi⟩
  by_cases e : i = a
  · subst e
    rw [World.cell?_setCell_same _ _ _ (h.at_ i hi)]; simp [setR]
  · rw [set_off (by omega), h.at_ i hi]; simp [setR, e]
theorem setR_self (r : Nat → Int) (a : Nat) : setR r a (r a) = r := by
  funext i; unfold setR; split
  · rename_i e; rw [e]
  · rfl

/-- What the loop keeps: the end is in the block b, and below b nothing changes. -/
structure DK (w wr : World) (b : Nat) (r : Nat → Int) (nb : Option Addr) (nn nc : Nat) (L l : List Row) (m : Made) (lb : Option Addr) (ln : Nat) : Prop where
  fin : EndAt wr b r
  rows : Holds wr nb nn nc L
  over : Over L l m
  old : Below b w wr
  kind : (nb = lb ∧ nn = ln) ∨ Kind wr 65 nb
theorem DK.deep {w wr wr' : World} {b : Nat} {r : Nat → Int} {nb : Option Addr} {nn nc : Nat} {L l : List Row} {m : Made} {lb : Option Addr} {ln : Nat} (h : DK w wr b r nb nn nc L l m lb ln) (hb : Below wr.heap.size wr wr') : DK w wr' b r nb nn nc L l m lb ln :=
  ⟨h.fin.deep hb h.fin.lt, h.rows.below hb, h.over, h.old.trans (hb.mono (Nat.le_of_lt h.fin.lt)), h.kind.imp id (fun k => k.below hb)⟩
theorem EndAt.no_text {w : World} {b : Nat} {r : Nat → Int} (h : EndAt w b r) (o : Nat) (s : ByteArray) : w.cell? ⟨b, o, none⟩ ≠ some (.string s) := fun e => by
  have : o = 0 ∨ (∃ i, i < 4 ∧ o = 1 + i) ∨ 5 ≤ o := by
    by_cases h0 : o = 0
    · exact .inl h0
    · by_cases h5 : 5 ≤ o
      · exact .inr (.inr h5)
      · exact .inr (.inl ⟨o - 1, by omega, by omega⟩)
  rcases this with rfl | ⟨i, hi, rfl⟩ | h5
  · rw [h.no] at e; cases e
  · rw [h.at_ i hi] at e; cases e
  · rw [h.len o h5] at e; cases e
theorem Holds.beside {w : World} {b : Nat} {r : Nat → Int} {nb : Option Addr} {nn nc : Nat} {L : List Row} (h : Holds w nb nn nc L) (he : EndAt w b r) (x : Nat) (u : Value) : Holds (w.setCell ⟨b, x, none⟩ u) nb nn nc L := by
  refine ⟨h.len, ?_, h.hdr⟩
  rcases h.seg with h0 | ⟨bl, o, e, hc⟩
  · exact .inl h0
  · by_cases hL : L = []
    · exact .inl hL
    · have hpos : 0 < L.length := List.length_pos_iff.2 hL
      have hne : b ≠ bl := fun e2 => by
        subst e2
        exact he.no_text _ _ (hc 0 hpos).1
      refine .inr ⟨bl, o, e, fun i hi => ?_⟩
      rw [World.cell?_setCell_far _ _ _ _ hne, World.cell?_setCell_far _ _ _ _ hne]
      exact hc i hi
/-- No texts lie in a block. -/
def NoText (w : World) (b : Nat) : Prop := ∀ o s, w.cell? ⟨b, o, none⟩ ≠ some (.string s)
theorem NoText.set {w : World} {b x : Nat} {u : Value} (hn : NoText w b) (he : ∃ v, w.cell? ⟨b, x, none⟩ = some v) (hu : ∀ s, u ≠ .string s) : NoText (w.setCell ⟨b, x, none⟩ u) b := fun o s e => by
  by_cases h : x = o
  · subst h
    obtain ⟨v, hv⟩ := he
    rw [World.cell?_setCell_same _ _ _ hv] at e
    exact hu s (by simpa using e)
  · rw [set_off h] at e
    exact hn o s e
theorem Holds.near {w : World} {b : Nat} {nb : Option Addr} {nn nc : Nat} {L : List Row} (h : Holds w nb nn nc L) (he : NoText w b) (x : Nat) (u : Value) : Holds (w.setCell ⟨b, x, none⟩ u) nb nn nc L := by
  refine ⟨h.len, ?_, h.hdr⟩
  rcases h.seg with h0 | ⟨bl, o, e, hc⟩
  · exact .inl h0
  · by_cases hL : L = []
    · exact .inl hL
    · have hpos : 0 < L.length := List.length_pos_iff.2 hL
      have hne : b ≠ bl := fun e2 => by
        subst e2
        exact he _ _ (hc 0 hpos).1
      refine .inr ⟨bl, o, e, fun i hi => ?_⟩
      rw [World.cell?_setCell_far _ _ _ _ hne, World.cell?_setCell_far _ _ _ _ hne]
      exact hc i hi
theorem some_set {w : World} {b x j : Nat} {u : Value} (h : ∃ v, w.cell? ⟨b, j, none⟩ = some v) : ∃ v, (w.setCell ⟨b, x, none⟩ u).cell? ⟨b, j, none⟩ = some v := by
  obtain ⟨v, hv⟩ := h
  by_cases e : x = j
  · subst e; exact ⟨u, World.cell?_setCell_same _ _ _ hv⟩
  · exact ⟨v, by rw [set_off e]; exact hv⟩
theorem five_holds {w : World} {b : Nat} {nb : Option Addr} {nn nc : Nat} {L : List Row} {f : Bool} {x0 x1 x2 x3 : Int} (h : Holds w nb nn nc L) (hn : NoText w b) (he : ∀ j, j < 5 → ∃ v, w.cell? ⟨b, j, none⟩ = some v) : Holds (five w b f x0 x1 x2 x3) nb nn nc L := by
  unfold five
  have n1 := hn.set (x := 0) (u := .bool f) (he 0 (by decide)) (fun s e => by cases e)
  have n2 := n1.set (x := 1) (u := .int .i64 x0) (some_set (he 1 (by decide))) (fun s e => by cases e)
  have n3 := n2.set (x := 2) (u := .int .i64 x1) (some_set (some_set (he 2 (by decide)))) (fun s e => by cases e)
  have n4 := n3.set (x := 3) (u := .int .i64 x2) (some_set (some_set (some_set (he 3 (by decide))))) (fun s e => by cases e)
  exact ((((h.near hn 0 _).near n1 1 _).near n2 2 _).near n3 3 _).near n4 4 _
theorem five_kind {w : World} {b : Nat} {t : TypeId} {nb : Option Addr} {f : Bool} {x0 x1 x2 x3 : Int} (h : Kind w t nb) : Kind (five w b f x0 x1 x2 x3) t nb :=
  ((((h.set _ _).set _ _).set _ _).set _ _).set _ _
theorem five_drew {w : World} {b : Nat} {f : Bool} {x0 x1 x2 x3 : Int} (h : Five w b f x0 x1 x2 x3) : Five w.drew b f x0 x1 x2 x3 := ⟨h.c0, h.c1, h.c2, h.c3, h.c4⟩
theorem DK.set {w wr : World} {b : Nat} {r : Nat → Int} {nb : Option Addr} {nn nc : Nat} {L l : List Row} {m : Made} {lb : Option Addr} {ln : Nat} (h : DK w wr b r nb nn nc L l m lb ln) {a : Nat} (ha : a < 4) (x : Int) : DK w (wr.setCell ⟨b, 1 + a, none⟩ (.int .i64 x)) b (setR r a x) nb nn nc L l m lb ln :=
  ⟨h.fin.set ha x, h.rows.beside h.fin _ _, h.over, h.old.setCell (Nat.le_refl _) _, h.kind.imp id (fun k => k.set _ _)⟩
theorem DK.same {w wr : World} {b : Nat} {r : Nat → Int} {nb : Option Addr} {nn nc : Nat} {L l : List Row} {m : Made} {lb : Option Addr} {ln : Nat} (h : DK w wr b r nb nn nc L l m lb ln) {a : Nat} (ha : a < 4) : DK w (wr.setCell ⟨b, 1 + a, none⟩ (.int .i64 (r a))) b r nb nn nc L l m lb ln := by
  have := h.set ha (r a)
  rwa [setR_self] at this
theorem DK.turn {w wr : World} {b : Nat} {r : Nat → Int} {nb nb' : Option Addr} {nn nc nn' nc' : Nat} {L L' l : List Row} {m m' : Made} {lb : Option Addr} {ln : Nat} (h : DK w wr b r nb nn nc L l m lb ln) (hr : Holds wr nb' nn' nc' L') (ho : Over L' l m') (hk : Kind wr 65 nb') : DK w wr b r nb' nn' nc' L' l m' lb ln := ⟨h.fin, hr, ho, h.old, .inr hk⟩

end Go.Proofs.YtfdliblikkpjiabDoor
