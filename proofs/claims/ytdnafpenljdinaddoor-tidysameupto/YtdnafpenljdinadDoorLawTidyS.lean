/-
  The walk of the statement TidySame: the call returns true and changes nothing that was there.
-/
import Derived.Test.YtdnafpenljdinadDoorRefBuild
import Derived.Test.YtdnafpenljdinadDoorRunSet
import Derived.Test.YtdnafpenljdinadDoorEngSet
import Derived.Test.YtdnafpenljdinadDoorLawTells
import Derived.BigQuiet
namespace Go.Proofs.YtdnafpenljdinadDoor
open Go.RowKit

theorem keepE2 {A w1 w2 : World} {b c : Nat} {x0 x1 x2 x3 x4 y0 y1 y2 y3 y4 : Value}
    (h : w1.cell? ⟨b, 0, none⟩ = some x0 ∧ w1.cell? ⟨b, 1, none⟩ = some x1 ∧ w1.cell? ⟨b, 2, none⟩ = some x2 ∧ w1.cell? ⟨b, 3, none⟩ = some x3 ∧ w1.cell? ⟨b, 4, none⟩ = some x4 ∧ w1.cell? ⟨c, 0, none⟩ = some y0 ∧ w1.cell? ⟨c, 1, none⟩ = some y1 ∧ w1.cell? ⟨c, 2, none⟩ = some y2 ∧ w1.cell? ⟨c, 3, none⟩ = some y3 ∧ w1.cell? ⟨c, 4, none⟩ = some y4 ∧ Below A.heap.size A w1) (hb : Below w1.heap.size w1 w2) :
    w2.cell? ⟨b, 0, none⟩ = some x0 ∧ w2.cell? ⟨b, 1, none⟩ = some x1 ∧ w2.cell? ⟨b, 2, none⟩ = some x2 ∧ w2.cell? ⟨b, 3, none⟩ = some x3 ∧ w2.cell? ⟨b, 4, none⟩ = some x4 ∧ w2.cell? ⟨c, 0, none⟩ = some y0 ∧ w2.cell? ⟨c, 1, none⟩ = some y1 ∧ w2.cell? ⟨c, 2, none⟩ = some y2 ∧ w2.cell? ⟨c, 3, none⟩ = some y3 ∧ w2.cell? ⟨c, 4, none⟩ = some y4 ∧ Below A.heap.size A w2 := by
  obtain ⟨h0, h1, h2, h3, h4, k0, k1, k2, k3, k4, hz⟩ := h
  exact ⟨kept_cell hb h0, kept_cell hb h1, kept_cell hb h2, kept_cell hb h3, kept_cell hb h4, kept_cell hb k0, kept_cell hb k1, kept_cell hb k2, kept_cell hb k3, kept_cell hb k4, below_deep hz hb⟩
theorem heldE2 {p0 p1 p2 p3 p4 p5 p6 p7 p8 p9 : Prop} {B : Nat} {A w' : World} (h : p0 ∧ p1 ∧ p2 ∧ p3 ∧ p4 ∧ p5 ∧ p6 ∧ p7 ∧ p8 ∧ p9 ∧ Below B A w') : Below B A w' := h.2.2.2.2.2.2.2.2.2.2
theorem keepC2 {A w1 w2 : World} {b c i j : Nat} {x y : Value} (h : w1.cell? ⟨b, i, none⟩ = some x ∧ w1.cell? ⟨c, j, none⟩ = some y ∧ Below A.heap.size A w1) (hb : Below w1.heap.size w1 w2) :
    w2.cell? ⟨b, i, none⟩ = some x ∧ w2.cell? ⟨c, j, none⟩ = some y ∧ Below A.heap.size A w2 := ⟨kept_cell hb h.1, kept_cell hb h.2.1, below_deep h.2.2 hb⟩
theorem heldC2 {p q : Prop} {B : Nat} {A w' : World} (h : p ∧ q ∧ Below B A w') : Below B A w' := h.2.2
/-- What is the same of an engine behind Clear. -/
structure SameIs (e x : Eng) (n : Nat) : Prop where
  ready : readyE e = (readyE x).map (fun q => n + q)
  size : sizeC x.chains ≤ sizeC e.chains
  base : x.base = e.base + n
  mark : markE x = 0
theorem same_is {r0 : List Row} {D : List Deed3} {m : Nat} {dn : Nat → Bool} {b : ByteArray → Int} {e : Eng} (G : Good r0 D m dn b e) : SameIs e (clearE e (markE e)) (markE e) :=
  ⟨ready_clear G G.mark.le G.mark.done, clear_size _ _, rfl, mark_zero G⟩

/-- A pointer to an engine's own block, in which all is done. -/
def FinAt (w : World) (p : Value) (l : List Row) (D : List Deed3) (m : Nat) : Prop := ∃ (y : Eng) (dn : Nat → Bool) (b : ByteArray → Int) (blk : Nat) (cb : Option Addr) (cn cc : Nat) (db : Option Addr) (dn' dc : Nat) (sb : Option Addr) (sn sc : Nat) (eb : Option Addr) (en ec : Nat), p = .pointer (some ⟨blk, 0, none⟩) ∧ Good l D m dn b y ∧ (∀ i, m ≤ i → i < D.length → dn i = true) ∧ Box w blk #[.slice cb cn cc, .slice db dn' dc, .slice sb sn sc, .slice eb en ec, .int .i64 y.base] 33 ∧ EngLies w cb cn cc db dn' dc sb sn sc eb en ec y
theorem FinAt.below {w w' : World} {p : Value} {l : List Row} {D : List Deed3} {m : Nat} (h : FinAt w p l D m) (hb : Below w.heap.size w w') : FinAt w' p l D m := by
  obtain ⟨y, dn, b, blk, cb, cn, cc, db, dn', dc, sb, sn, sc, eb, en, ec, rfl, G, hd, hx, hl⟩ := h
  exact ⟨y, dn, b, blk, cb, cn, cc, db, dn', dc, sb, sn, sc, eb, en, ec, rfl, G, hd, hx.below hb, hl.below hb⟩
/-- What is told of an engine in which all is done, as it lies in memory. -/
structure FinIs (w : World) (cb : Option Addr) (cn cc : Nat) (db : Option Addr) (dn' dc : Nat) (sb : Option Addr) (sn sc : Nat) (eb : Option Addr) (en ec : Nat) (y : Eng) (l : List Row) (D : List Deed3) (m : Nat) : Prop where
  good : ∃ (dn : Nat → Bool) (b : ByteArray → Int), Good l D m dn b y ∧ (∀ i, m ≤ i → i < D.length → dn i = true)
  lies : EngLies w cb cn cc db dn' dc sb sn sc eb en ec y
theorem FinIs.below {w w' : World} {cb : Option Addr} {cn cc : Nat} {db : Option Addr} {dn' dc : Nat} {sb : Option Addr} {sn sc : Nat} {eb : Option Addr} {en ec : Nat} {y : Eng} {l : List Row} {D : List Deed3} {m : Nat} (h : FinIs w cb cn cc db dn' dc sb sn sc eb en ec y l D m) (hb : Below w.heap.size w w') : FinIs w' cb cn cc db dn' dc sb sn sc eb en ec y l D m := ⟨h.good, h.lies.below hb⟩
theorem FinIs.at_ {w : World} {blk : Nat} {cb : Option Addr} {cn cc : Nat} {db : Option Addr} {dn' dc : Nat} {sb : Option Addr} {sn sc : Nat} {eb : Option Addr} {en ec : Nat} {y : Eng} {l : List Row} {D : List Deed3} {m : Nat} (h : FinIs w cb cn cc db dn' dc sb sn sc eb en ec y l D m) (hx : Box w blk #[.slice cb cn cc, .slice db dn' dc, .slice sb sn sc, .slice eb en ec, .int .i64 y.base] 33) : FinAt w (.pointer (some ⟨blk, 0, none⟩)) l D m := by
  obtain ⟨⟨dn, b, G, hd⟩, hl⟩ := h
  exact ⟨y, dn, b, blk, cb, cn, cc, db, dn', dc, sb, sn, sc, eb, en, ec, rfl, G, hd, hx, hl⟩
/-- Both blocks were there. -/
theorem fin_both {w0 w : World} {b1 b2 : Nat} {cb : Option Addr} {cn cc : Nat} {db : Option Addr} {dn dc : Nat} {sb : Option Addr} {sn sc : Nat} {eb : Option Addr} {en ec : Nat} {y : Eng} {cb' : Option Addr} {cn' cc' : Nat} {db' : Option Addr} {dn' dc' : Nat} {sb' : Option Addr} {sn' sc' : Nat} {eb' : Option Addr} {en' ec' : Nat} {z : Eng} {l : List Row} {D : List Deed3} {m m' : Nat} (hy : FinIs w cb cn cc db dn dc sb sn sc eb en ec y l D m) (hz : FinIs w cb' cn' cc' db' dn' dc' sb' sn' sc' eb' en' ec' z l D m') (hB : Below w0.heap.size w0 w)
    (h1 : Box w b1 zeroA 33) (h2 : Box w b2 zeroA 33) (hne : b1 ≠ b2) (k1 : w0.heap.size ≤ b1) (k2 : w0.heap.size ≤ b2) :
    FinAt (put5 (put5 w b1 (.slice cb cn cc) (.slice db dn dc) (.slice sb sn sc) (.slice eb en ec) (.int .i64 y.base)) b2 (.slice cb' cn' cc') (.slice db' dn' dc') (.slice sb' sn' sc') (.slice eb' en' ec') (.int .i64 z.base)) (.pointer (some ⟨b1, 0, none⟩)) l D m ∧
    FinAt (put5 (put5 w b1 (.slice cb cn cc) (.slice db dn dc) (.slice sb sn sc) (.slice eb en ec) (.int .i64 y.base)) b2 (.slice cb' cn' cc') (.slice db' dn' dc') (.slice sb' sn' sc') (.slice eb' en' ec') (.int .i64 z.base)) (.pointer (some ⟨b2, 0, none⟩)) l D m' ∧
    Below w0.heap.size w0 (put5 (put5 w b1 (.slice cb cn cc) (.slice db dn dc) (.slice sb sn sc) (.slice eb en ec) (.int .i64 y.base)) b2 (.slice cb' cn' cc') (.slice db' dn' dc') (.slice sb' sn' sc') (.slice eb' en' ec') (.int .i64 z.base)) := by
  have x1 := put5_box h1 (.slice cb cn cc) (.slice db dn dc) (.slice sb sn sc) (.slice eb en ec) (.int .i64 y.base)
  have x2 := put5_far h2 (Ne.symm hne) (.slice cb cn cc) (.slice db dn dc) (.slice sb sn sc) (.slice eb en ec) (.int .i64 y.base)
  have ly := hy.lies.put h1 (put5_off w b1 (.slice cb cn cc) (.slice db dn dc) (.slice sb sn sc) (.slice eb en ec) (.int .i64 y.base))
  have lz := hz.lies.put h1 (put5_off w b1 (.slice cb cn cc) (.slice db dn dc) (.slice sb sn sc) (.slice eb en ec) (.int .i64 y.base))
  have hb := put5_below hB k1 (.slice cb cn cc) (.slice db dn dc) (.slice sb sn sc) (.slice eb en ec) (.int .i64 y.base)
  generalize put5 w b1 (.slice cb cn cc) (.slice db dn dc) (.slice sb sn sc) (.slice eb en ec) (.int .i64 y.base) = W at *
  have o := put5_off W b2 (.slice cb' cn' cc') (.slice db' dn' dc') (.slice sb' sn' sc') (.slice eb' en' ec') (.int .i64 z.base)
  exact ⟨FinIs.at_ ⟨hy.good, ly.put x2 o⟩ (put5_far x1 hne _ _ _ _ _), FinIs.at_ ⟨hz.good, lz.put x2 o⟩ (put5_box x2 _ _ _ _ _), put5_below hb k2 _ _ _ _ _⟩
/-- The first one's block was there. -/
theorem fin_first {w0 w : World} {b1 : Nat} {cb : Option Addr} {cn cc : Nat} {db : Option Addr} {dn dc : Nat} {sb : Option Addr} {sn sc : Nat} {eb : Option Addr} {en ec : Nat} {y : Eng} {cb' : Option Addr} {cn' cc' : Nat} {db' : Option Addr} {dn' dc' : Nat} {sb' : Option Addr} {sn' sc' : Nat} {eb' : Option Addr} {en' ec' : Nat} {z : Eng} {l : List Row} {D : List Deed3} {m m' : Nat} (hy : FinIs w cb cn cc db dn dc sb sn sc eb en ec y l D m) (hz : FinIs w cb' cn' cc' db' dn' dc' sb' sn' sc' eb' en' ec' z l D m') (hB : Below w0.heap.size w0 w)
    (h1 : Box w b1 zeroA 33) (k1 : w0.heap.size ≤ b1) :
    FinAt ((put5 w b1 (.slice cb cn cc) (.slice db dn dc) (.slice sb sn sc) (.slice eb en ec) (.int .i64 y.base)).alloc (.cells #[.slice cb' cn' cc', .slice db' dn' dc', .slice sb' sn' sc', .slice eb' en' ec', .int .i64 z.base] 33)) (.pointer (some ⟨b1, 0, none⟩)) l D m ∧
    FinAt ((put5 w b1 (.slice cb cn cc) (.slice db dn dc) (.slice sb sn sc) (.slice eb en ec) (.int .i64 y.base)).alloc (.cells #[.slice cb' cn' cc', .slice db' dn' dc', .slice sb' sn' sc', .slice eb' en' ec', .int .i64 z.base] 33)) (.pointer (some ⟨w.heap.size, 0, none⟩)) l D m' ∧
    Below w0.heap.size w0 ((put5 w b1 (.slice cb cn cc) (.slice db dn dc) (.slice sb sn sc) (.slice eb en ec) (.int .i64 y.base)).alloc (.cells #[.slice cb' cn' cc', .slice db' dn' dc', .slice sb' sn' sc', .slice eb' en' ec', .int .i64 z.base] 33)) := by
  have x1 := put5_box h1 (.slice cb cn cc) (.slice db dn dc) (.slice sb sn sc) (.slice eb en ec) (.int .i64 y.base)
  have ly := hy.lies.put h1 (put5_off w b1 (.slice cb cn cc) (.slice db dn dc) (.slice sb sn sc) (.slice eb en ec) (.int .i64 y.base))
  have lz := hz.lies.put h1 (put5_off w b1 (.slice cb cn cc) (.slice db dn dc) (.slice sb sn sc) (.slice eb en ec) (.int .i64 y.base))
  have hb := put5_below hB k1 (.slice cb cn cc) (.slice db dn dc) (.slice sb sn sc) (.slice eb en ec) (.int .i64 y.base)
  have hsz := put5_size w b1 (.slice cb cn cc) (.slice db dn dc) (.slice sb sn sc) (.slice eb en ec) (.int .i64 y.base)
  rw [← hsz]
  generalize put5 w b1 (.slice cb cn cc) (.slice db dn dc) (.slice sb sn sc) (.slice eb en ec) (.int .i64 y.base) = W at *
  have g := grew W (.cells #[.slice cb' cn' cc', .slice db' dn' dc', .slice sb' sn' sc', .slice eb' en' ec', .int .i64 z.base] 33)
  exact ⟨FinIs.at_ ⟨hy.good, ly.below g⟩ (x1.below g), FinIs.at_ ⟨hz.good, lz.below g⟩ (Box.new _ _ _), below_deep hb g⟩
/-- The second one's block was there. -/
theorem fin_second {w0 w : World} {b1 : Nat} {cb : Option Addr} {cn cc : Nat} {db : Option Addr} {dn dc : Nat} {sb : Option Addr} {sn sc : Nat} {eb : Option Addr} {en ec : Nat} {y : Eng} {cb' : Option Addr} {cn' cc' : Nat} {db' : Option Addr} {dn' dc' : Nat} {sb' : Option Addr} {sn' sc' : Nat} {eb' : Option Addr} {en' ec' : Nat} {z : Eng} {l : List Row} {D : List Deed3} {m m' : Nat} (hy : FinIs w cb cn cc db dn dc sb sn sc eb en ec y l D m) (hz : FinIs w cb' cn' cc' db' dn' dc' sb' sn' sc' eb' en' ec' z l D m') (hB : Below w0.heap.size w0 w)
    (h1 : Box w b1 zeroA 33) (k1 : w0.heap.size ≤ b1) :
    FinAt ((put5 w b1 (.slice cb' cn' cc') (.slice db' dn' dc') (.slice sb' sn' sc') (.slice eb' en' ec') (.int .i64 z.base)).alloc (.cells #[.slice cb cn cc, .slice db dn dc, .slice sb sn sc, .slice eb en ec, .int .i64 y.base] 33)) (.pointer (some ⟨w.heap.size, 0, none⟩)) l D m ∧
    FinAt ((put5 w b1 (.slice cb' cn' cc') (.slice db' dn' dc') (.slice sb' sn' sc') (.slice eb' en' ec') (.int .i64 z.base)).alloc (.cells #[.slice cb cn cc, .slice db dn dc, .slice sb sn sc, .slice eb en ec, .int .i64 y.base] 33)) (.pointer (some ⟨b1, 0, none⟩)) l D m' ∧
    Below w0.heap.size w0 ((put5 w b1 (.slice cb' cn' cc') (.slice db' dn' dc') (.slice sb' sn' sc') (.slice eb' en' ec') (.int .i64 z.base)).alloc (.cells #[.slice cb cn cc, .slice db dn dc, .slice sb sn sc, .slice eb en ec, .int .i64 y.base] 33)) := by
  obtain ⟨h2, h3, h4⟩ := fin_first (m' := m) (m := m') hz hy hB h1 k1
  exact ⟨h3, h2, h4⟩
/-- Both blocks are new. -/
theorem fin_new {w0 w : World} {cb : Option Addr} {cn cc : Nat} {db : Option Addr} {dn dc : Nat} {sb : Option Addr} {sn sc : Nat} {eb : Option Addr} {en ec : Nat} {y : Eng} {cb' : Option Addr} {cn' cc' : Nat} {db' : Option Addr} {dn' dc' : Nat} {sb' : Option Addr} {sn' sc' : Nat} {eb' : Option Addr} {en' ec' : Nat} {z : Eng} {l : List Row} {D : List Deed3} {m m' : Nat} (hy : FinIs w cb cn cc db dn dc sb sn sc eb en ec y l D m) (hz : FinIs w cb' cn' cc' db' dn' dc' sb' sn' sc' eb' en' ec' z l D m') (hB : Below w0.heap.size w0 w) :
    FinAt ((w.alloc (.cells #[.slice cb cn cc, .slice db dn dc, .slice sb sn sc, .slice eb en ec, .int .i64 y.base] 33)).alloc (.cells #[.slice cb' cn' cc', .slice db' dn' dc', .slice sb' sn' sc', .slice eb' en' ec', .int .i64 z.base] 33)) (.pointer (some ⟨w.heap.size, 0, none⟩)) l D m ∧
    FinAt ((w.alloc (.cells #[.slice cb cn cc, .slice db dn dc, .slice sb sn sc, .slice eb en ec, .int .i64 y.base] 33)).alloc (.cells #[.slice cb' cn' cc', .slice db' dn' dc', .slice sb' sn' sc', .slice eb' en' ec', .int .i64 z.base] 33)) (.pointer (some ⟨w.heap.size + 1, 0, none⟩)) l D m' ∧
    Below w0.heap.size w0 ((w.alloc (.cells #[.slice cb cn cc, .slice db dn dc, .slice sb sn sc, .slice eb en ec, .int .i64 y.base] 33)).alloc (.cells #[.slice cb' cn' cc', .slice db' dn' dc', .slice sb' sn' sc', .slice eb' en' ec', .int .i64 z.base] 33)) := by
  have x1 := Box.new w #[.slice cb cn cc, .slice db dn dc, .slice sb sn sc, .slice eb en ec, .int .i64 y.base] 33
  have g1 := grew w (.cells #[.slice cb cn cc, .slice db dn dc, .slice sb sn sc, .slice eb en ec, .int .i64 y.base] 33)
  have hsz : (w.alloc (.cells #[.slice cb cn cc, .slice db dn dc, .slice sb sn sc, .slice eb en ec, .int .i64 y.base] 33)).heap.size = w.heap.size + 1 := World.size_alloc _ _
  rw [← hsz]
  have ly := hy.lies.below g1
  have lz := hz.lies.below g1
  have hb := below_deep hB g1
  generalize w.alloc (.cells #[.slice cb cn cc, .slice db dn dc, .slice sb sn sc, .slice eb en ec, .int .i64 y.base] 33) = W at *
  have g := grew W (.cells #[.slice cb' cn' cc', .slice db' dn' dc', .slice sb' sn' sc', .slice eb' en' ec', .int .i64 z.base] 33)
  exact ⟨FinIs.at_ ⟨hy.good, ly.below g⟩ (x1.below g), FinIs.at_ ⟨hz.good, lz.below g⟩ (Box.new _ _ _), below_deep hb g⟩
/-- Both blocks are new, the second one's first. -/
theorem fin_newS {w0 w : World} {cb : Option Addr} {cn cc : Nat} {db : Option Addr} {dn dc : Nat} {sb : Option Addr} {sn sc : Nat} {eb : Option Addr} {en ec : Nat} {y : Eng} {cb' : Option Addr} {cn' cc' : Nat} {db' : Option Addr} {dn' dc' : Nat} {sb' : Option Addr} {sn' sc' : Nat} {eb' : Option Addr} {en' ec' : Nat} {z : Eng} {l : List Row} {D : List Deed3} {m m' : Nat} (hy : FinIs w cb cn cc db dn dc sb sn sc eb en ec y l D m) (hz : FinIs w cb' cn' cc' db' dn' dc' sb' sn' sc' eb' en' ec' z l D m') (hB : Below w0.heap.size w0 w) :
    FinAt ((w.alloc (.cells #[.slice cb' cn' cc', .slice db' dn' dc', .slice sb' sn' sc', .slice eb' en' ec', .int .i64 z.base] 33)).alloc (.cells #[.slice cb cn cc, .slice db dn dc, .slice sb sn sc, .slice eb en ec, .int .i64 y.base] 33)) (.pointer (some ⟨w.heap.size + 1, 0, none⟩)) l D m ∧
    FinAt ((w.alloc (.cells #[.slice cb' cn' cc', .slice db' dn' dc', .slice sb' sn' sc', .slice eb' en' ec', .int .i64 z.base] 33)).alloc (.cells #[.slice cb cn cc, .slice db dn dc, .slice sb sn sc, .slice eb en ec, .int .i64 y.base] 33)) (.pointer (some ⟨w.heap.size, 0, none⟩)) l D m' ∧
    Below w0.heap.size w0 ((w.alloc (.cells #[.slice cb' cn' cc', .slice db' dn' dc', .slice sb' sn' sc', .slice eb' en' ec', .int .i64 z.base] 33)).alloc (.cells #[.slice cb cn cc, .slice db dn dc, .slice sb sn sc, .slice eb en ec, .int .i64 y.base] 33)) := by
  obtain ⟨h2, h3, h4⟩ := fin_new (m' := m) (m := m') hz hy hB
  exact ⟨h3, h2, h4⟩
theorem box_all {w : World} {b : Nat} {t : TypeId} {v0 v1 v2 v3 v4 : Value} (h : Box w b #[v0, v1, v2, v3, v4] t) :
    (w.cell? ⟨b, 0, none⟩ = some v0 ∧ w.cell? ⟨b, 1, none⟩ = some v1 ∧ w.cell? ⟨b, 2, none⟩ = some v2 ∧ w.cell? ⟨b, 3, none⟩ = some v3 ∧ w.cell? ⟨b, 4, none⟩ = some v4) ∧ (w.frozen? ⟨b, 0, none⟩ = false ∧ w.frozen? ⟨b, 1, none⟩ = false ∧ w.frozen? ⟨b, 2, none⟩ = false ∧ w.frozen? ⟨b, 3, none⟩ = false ∧ w.frozen? ⟨b, 4, none⟩ = false) ∧ b < w.heap.size := ⟨h.cells5, h.free5, h.lt⟩
theorem new_two (w : World) : Box ((w.alloc (.cells #[.slice none 0 0, .slice none 0 0, .slice none 0 0, .slice none 0 0, .int .i64 0] 33)).alloc (.cells #[.slice none 0 0, .slice none 0 0, .slice none 0 0, .slice none 0 0, .int .i64 0] 33)) (w.heap.size + 1) #[.slice none 0 0, .slice none 0 0, .slice none 0 0, .slice none 0 0, .int .i64 0] 33 := by
  have := Box.new (w.alloc (.cells #[.slice none 0 0, .slice none 0 0, .slice none 0 0, .slice none 0 0, .int .i64 0] 33)) #[.slice none 0 0, .slice none 0 0, .slice none 0 0, .slice none 0 0, .int .i64 0] 33
  rw [World.size_alloc] at this
  exact this
theorem fin_told {r0 : List Row} {D : List Deed3} {m : Nat} {bq : ByteArray → Int} {w w' : World} {x : Ending} (h : ∃ (y : Eng) (dn : Nat → Bool), Good r0 D m dn bq y ∧ (∀ i, m ≤ i → i < D.length → dn i = true) ∧ EngTold w w' y x) :
    ∃ (y : Eng) (cb : Option Addr) (cn cc : Nat) (db : Option Addr) (dn dc : Nat) (sb : Option Addr) (sn sc : Nat) (eb : Option Addr) (en ec : Nat), x = .returned (.agg #[.slice cb cn cc, .slice db dn dc, .slice sb sn sc, .slice eb en ec, .int .i64 y.base]) ∧ FinIs w' cb cn cc db dn dc sb sn sc eb en ec y r0 D m ∧ Below w.heap.size w w' := by
  obtain ⟨y, dn, G, hd, v, rfl, ⟨cb, cn, cc, db, dn', dc, sb, sn, sc, eb, en, ec, rfl, hl⟩, hb⟩ := h
  exact ⟨y, cb, cn, cc, db, dn', dc, sb, sn, sc, eb, en, ec, rfl, ⟨⟨dn, bq, G, hd⟩, hl⟩, hb⟩

set_option maxHeartbeats 16000000 in
set_option maxRecDepth 100000 in
theorem tidySame_calls (l : List Row) (BS : List (List Deed3)) (Pl : List Int) (lb : Option Addr) (ln lc : Nat) (bb : Option Addr) (bn bc : Nat) (pb : Option Addr) (pn pc : Nat) (w : World) (hG : GroundN w)
    (hh : Holds w lb ln lc l) (hsm : Small l) (hbs : BatchesIn w bb bn bc BS) (hp : Ints w pb pn pc Pl) (hN : manyB BS ≤ 1048576) :
    Calls Tryd.prog 3 #[.slice lb ln lc, .slice bb bn bc, .slice pb pn pc] w fun e w' => e = .returned (.bool true) ∧ Below w.heap.size w w' := by
  have HH := hid hh
  have HSM := hid hsm
  have HBS := hid hbs
  have HP := hid hp
  have HN := hid hN
  have HAL := hid (tlive_calls w hG)
  clear hh hsm hbs hp hN hG
  go_enter Tryd.func3, Tryd.ntmps3
  go_wp2_with fail
  refine HAL.out.mono ?_
  rintro x w0 ⟨rfl, hb0⟩
  have HB0 := hid hb0
  have HWR := hid (refWrong_holds l lb ln lc w0 HSM.out (HH.out.below hb0))
  clear hb0 HAL
  go_wp2_with fail
  refine HWR.out.mono ?_
  rintro e w1 ⟨rfl, hb1⟩
  have HB1 := hid (below_deep HB0.out hb1)
  clear hb1 HWR
  by_cases hz : wrong l = 0
  case neg =>
    have t := ne_true hz
    clear hz
    generalize wrong l = q at *
    go_wp2
    go_ret
    exact ⟨rfl, HB1.out⟩
  rw [hz]
  have HR := hid (right_of hz)
  clear hz
  have RB := hid (refBuild_calls l BS Pl lb ln lc bb bn bc pb pn pc w1 HR.out HSM.out (HH.out.below HB1.out) (HBS.out.below HB1.out) (HP.out.below (by decide) HB1.out) (Nat.le_trans HN.out (by decide)))
  go_wp2_with fail
  refine RB.out.mono ?_
  rintro x w5 ⟨v5, D, m, dq, bq, e, rfl, G, hD, hv5, hb5⟩
  obtain ⟨cb, cn, cc, db, dn, dc, sb, sn, sc, eb, en, ec, rfl, hl5⟩ := hv5
  have HGD := hid G
  have HDN := hid (Nat.le_trans hD HN.out)
  have HSI := hid (same_is G)
  have HGX := hid (mark_clear G)
  have HMK := hid G.mark
  have HG5 := hid (grew w5 (.cells #[.slice cb cn cc, .slice db dn dc, .slice sb sn sc, .slice eb en ec, .int .i64 e.base] 33))
  have HX5 := hid (Box.new w5 #[.slice cb cn cc, .slice db dn dc, .slice sb sn sc, .slice eb en ec, .int .i64 e.base] 33)
  have HL5 := hid (hl5.below HG5.out)
  have HB5 := hid (below_deep HB1.out (below_deep hb5 HG5.out))
  clear G hD hl5 hb5 RB HG5
  go_upto_region 6 with fail
  generalize w5.alloc (.cells #[.slice cb cn cc, .slice db dn dc, .slice sb sn sc, .slice eb en ec, .int .i64 e.base] 33) = A5 at *
  generalize w5.heap.size = be at *
  obtain ⟨x0, x1, x2, x3, x4⟩ := HX5.out.cells5
  have hel : be < A5.heap.size := HX5.out.lt
  have PC := hid (tidyClear_calls HGD.out (by have := HDN.out; omega) _ A5 ⟨_, _, _, _, _, _, _, _, _, _, _, _, rfl, HL5.out⟩)
  have PMW := hid (fun W hv => tidyMark_calls e (.agg #[.slice cb cn cc, .slice db dn dc, .slice sb sn sc, .slice eb en ec, .int .i64 e.base]) W hv (by rw [HGD.out.slen, HGD.out.len]; have := HDN.out; omega) HGD.out.slen HGD.out.elen)
  generalize clearE e (markE e) = x at *
  generalize markE e = n at *
  obtain ⟨xb, hxb⟩ : ∃ xb : Int, e.base + (n : Int) = xb := ⟨_, rfl⟩
  have HXB : Hid (x.base = xb) := by show _ = _; rw [HSI.out.base, hxb]
  have hsum : IntKind.i64.wrap (e.base + (n : Int)) = xb := by
    have h1 := HGD.out.base
    have h2 := HGD.out.le
    have h3 := HDN.out
    have h4 := HMK.out.le
    rw [IntKind.wrap_i64] <;> omega
  clear hxb
  go_wp2_with fail
  refine PC.out.mono ?_
  rintro x6 w6 ⟨v6, rfl, hv6, hb6⟩
  obtain ⟨cb6, cn6, cc6, db6, dn6, dc6, sb6, sn6, sc6, eb6, en6, ec6, rfl, hl6⟩ := hv6
  rw [HXB.out]
  have HG6 := hid (grew w6 (.cells #[.slice cb6 cn6 cc6, .slice db6 dn6 dc6, .slice sb6 sn6 sc6, .slice eb6 en6 ec6, .int .i64 xb] 33))
  have HY6 := hid (Box.new w6 #[.slice cb6 cn6 cc6, .slice db6 dn6 dc6, .slice sb6 sn6 sc6, .slice eb6 en6 ec6, .int .i64 xb] 33)
  have HLY6 := hid (hl6.below HG6.out)
  have HA6 := hid (below_deep hb6 HG6.out)
  have HX6 := hid (HX5.out.below HA6.out)
  have HL6 := hid (HL5.out.below HA6.out)
  have HB6 := hid (below_deep HB5.out HA6.out)
  clear hl6 hb6 PC x0 x1 x2 x3 x4 hel HX5 HL5 HG6 HA6
  go_upto_region 7 with fail
  generalize w6.alloc (.cells #[.slice cb6 cn6 cc6, .slice db6 dn6 dc6, .slice sb6 sn6 sc6, .slice eb6 en6 ec6, .int .i64 xb] 33) = A6 at *
  generalize w6.heap.size = bx at *
  obtain ⟨x0, x1, x2, x3, x4⟩ := HX6.out.cells5
  have hel : be < A6.heap.size := HX6.out.lt
  have PM := hid (PMW.out A6 ⟨_, _, _, _, _, _, _, _, _, _, _, _, rfl, HL6.out⟩)
  go_wp2_with fail
  refine PM.out.mono ?_
  rintro x7 A ⟨rfl, hb7⟩
  have HX7 := hid (HX6.out.below hb7)
  have HL7 := hid (HL6.out.below hb7)
  have HY7 := hid (HY6.out.below hb7)
  have HLY7 := hid (HLY6.out.below hb7)
  have HB7 := hid (below_deep HB6.out hb7)
  clear hb7 PM PMW x0 x1 x2 x3 x4 hel HX6 HL6 HY6 HLY6
  go_upto_region 8 with fail
  have hel : be < A.heap.size := HX7.out.lt
  have hxl : bx < A.heap.size := HY7.out.lt
  have HDR := hid (step_drew (Below.refl A.heap.size A))
  have HS0 : Hid ((fun w' => w'.cell? ⟨be, 0, none⟩ = some (.slice cb cn cc) ∧ w'.cell? ⟨be, 1, none⟩ = some (.slice db dn dc) ∧ w'.cell? ⟨be, 2, none⟩ = some (.slice sb sn sc) ∧ w'.cell? ⟨be, 3, none⟩ = some (.slice eb en ec) ∧ w'.cell? ⟨be, 4, none⟩ = some (.int .i64 e.base) ∧ w'.cell? ⟨bx, 0, none⟩ = some (.slice cb6 cn6 cc6) ∧ w'.cell? ⟨bx, 1, none⟩ = some (.slice db6 dn6 dc6) ∧ w'.cell? ⟨bx, 2, none⟩ = some (.slice sb6 sn6 sc6) ∧ w'.cell? ⟨bx, 3, none⟩ = some (.slice eb6 en6 ec6) ∧ w'.cell? ⟨bx, 4, none⟩ = some (.int .i64 xb) ∧ Below A.heap.size A w') A.drew) := by
    obtain ⟨a0, a1, a2, a3, a4⟩ := (HX7.out.below HDR.out).cells5
    obtain ⟨b0, b1, b2, b3, b4⟩ := (HY7.out.below HDR.out).cells5
    exact ⟨a0, a1, a2, a3, a4, b0, b1, b2, b3, b4, HDR.out⟩
  have HIE : Hid (∀ W, Below A.heap.size A W → EngIn W (.agg #[.slice cb cn cc, .slice db dn dc, .slice sb sn sc, .slice eb en ec, .int .i64 e.base]) e) := fun W hb => ⟨_, _, _, _, _, _, _, _, _, _, _, _, rfl, HL7.out.below hb⟩
  have HIX : Hid (∀ W, Below A.heap.size A W → EngIn W (.agg #[.slice cb6 cn6 cc6, .slice db6 dn6 dc6, .slice sb6 sn6 sc6, .slice eb6 en6 ec6, .int .i64 xb]) x) := fun W hb => ⟨_, _, _, _, _, _, _, _, _, _, _, _, by rw [HXB.out], HLY7.out.below hb⟩
  have R1 : Hid (∀ W, Below A.heap.size A W → Calls Tryd.prog 10 #[.agg #[.slice cb cn cc, .slice db dn dc, .slice sb sn sc, .slice eb en ec, .int .i64 e.base]] W fun x w' => IntsTold W w' (ints (readyE e)) x) := fun W hb =>
    refReady_calls HGD.out (by have := HDN.out; omega) _ W (HIE.out W hb)
  have R2 : Hid (∀ W, Below A.heap.size A W → Calls Tryd.prog 10 #[.agg #[.slice cb6 cn6 cc6, .slice db6 dn6 dc6, .slice sb6 sn6 sc6, .slice eb6 en6 ec6, .int .i64 xb]] W fun y w' => IntsTold W w' (ints (readyE x)) y) := fun W hb =>
    refReady_calls HGX.out (by have := HDN.out; omega) _ W (HIX.out W hb)
  go_region_held3 (fun w' => w'.cell? ⟨be, 0, none⟩ = some (.slice cb cn cc) ∧ w'.cell? ⟨be, 1, none⟩ = some (.slice db dn dc) ∧ w'.cell? ⟨be, 2, none⟩ = some (.slice sb sn sc) ∧ w'.cell? ⟨be, 3, none⟩ = some (.slice eb en ec) ∧ w'.cell? ⟨be, 4, none⟩ = some (.int .i64 e.base) ∧ w'.cell? ⟨bx, 0, none⟩ = some (.slice cb6 cn6 cc6) ∧ w'.cell? ⟨bx, 1, none⟩ = some (.slice db6 dn6 dc6) ∧ w'.cell? ⟨bx, 2, none⟩ = some (.slice sb6 sn6 sc6) ∧ w'.cell? ⟨bx, 3, none⟩ = some (.slice eb6 en6 ec6) ∧ w'.cell? ⟨bx, 4, none⟩ = some (.int .i64 xb) ∧ Below A.heap.size A w')
    (first
      | exact HS0.out
      | with_reducible exact keepE2 (by assumption) (by assumption))
    (first
      | (have hq := hb8; go_at_call 10; refine (R2.out _ ?_).mono ?_; exact heldE2 (by assumption); rintro x w9 ⟨b9, n9, c9, rfl, h9, hb9⟩)
      | (go_at_call 10; refine (R1.out _ ?_).mono ?_; exact heldE2 (by assumption); rintro x w8 ⟨b8, n8, c8, rfl, h8, hb8⟩))
  have hn8 : n8 = (readyE e).length := by have := Ints.count h8; rw [ints, List.length_map] at this; exact this
  have hn9 : n9 = (readyE x).length := by have := Ints.count h9; rw [ints, List.length_map] at this; exact this
  have hnm := Nat.le_trans h8.hdr.le h8.hdr.max
  unfold maxLen at hnm
  obtain rfl : n8 = n9 := by rw [hn8, hn9, HSI.out.ready, List.length_map]
  have HN9 := hid hn9
  have HRA := hid (h8.below (by decide) hb9)
  have HRX := hid h9
  have HD9 := hid (below_deep (below_deep HDR.out hb8) hb9)
  clear h8 h9 hb8 hb9 hn8 hn9 HS0 HDR R1 R2 hel hxl
  go_upto_region 9 with fail
  have hel : be < w9.heap.size := (HX7.out.below HD9.out).lt
  have hxl : bx < w9.heap.size := (HY7.out.below HD9.out).lt
  have HDR := hid (step_drew HD9.out)
  have HS0 : Hid ((fun w' => w'.cell? ⟨be, 0, none⟩ = some (.slice cb cn cc) ∧ w'.cell? ⟨be, 1, none⟩ = some (.slice db dn dc) ∧ w'.cell? ⟨be, 2, none⟩ = some (.slice sb sn sc) ∧ w'.cell? ⟨be, 3, none⟩ = some (.slice eb en ec) ∧ w'.cell? ⟨be, 4, none⟩ = some (.int .i64 e.base) ∧ w'.cell? ⟨bx, 0, none⟩ = some (.slice cb6 cn6 cc6) ∧ w'.cell? ⟨bx, 1, none⟩ = some (.slice db6 dn6 dc6) ∧ w'.cell? ⟨bx, 2, none⟩ = some (.slice sb6 sn6 sc6) ∧ w'.cell? ⟨bx, 3, none⟩ = some (.slice eb6 en6 ec6) ∧ w'.cell? ⟨bx, 4, none⟩ = some (.int .i64 xb) ∧ Below A.heap.size A w') w9.drew) := by
    obtain ⟨a0, a1, a2, a3, a4⟩ := (HX7.out.below HDR.out).cells5
    obtain ⟨b0, b1, b2, b3, b4⟩ := (HY7.out.below HDR.out).cells5
    exact ⟨a0, a1, a2, a3, a4, b0, b1, b2, b3, b4, HDR.out⟩
  obtain ⟨se, hse⟩ : ∃ se : Int, ((sizeC e.chains : Nat) : Int) = se := ⟨_, rfl⟩
  obtain ⟨sx, hsx⟩ : ∃ sx : Int, ((sizeC x.chains : Nat) : Int) = sx := ⟨_, rfl⟩
  have hle : sx ≤ se := by have := HSI.out.size; omega
  have hdl : decide (se < sx) = false := by simpa using hle
  have P1 : Hid (∀ W, Below A.heap.size A W → Calls Tryd.prog 11 #[.agg #[.slice cb cn cc, .slice db dn dc, .slice sb sn sc, .slice eb en ec, .int .i64 e.base]] W fun y w' => y = .returned (.int .i64 se) ∧ Below W.heap.size W w') := fun W hb => by
    rw [← hse]
    exact tidySize_calls e _ W (HGD.out.fit (by have := HDN.out; omega)) (HGD.out.few (by have := HDN.out; omega)) (HIE.out W hb)
  have P2 : Hid (∀ W, Below A.heap.size A W → Calls Tryd.prog 11 #[.agg #[.slice cb6 cn6 cc6, .slice db6 dn6 dc6, .slice sb6 sn6 sc6, .slice eb6 en6 ec6, .int .i64 xb]] W fun y w' => y = .returned (.int .i64 sx) ∧ Below W.heap.size W w') := fun W hb => by
    rw [← hsx]
    exact tidySize_calls x _ W (HGX.out.fit (by have := HDN.out; omega)) (HGX.out.few (by have := HDN.out; omega)) (HIX.out W hb)
  have P3 : Hid (∀ W, Below A.heap.size A W → Calls Tryd.prog 9 #[.agg #[.slice cb6 cn6 cc6, .slice db6 dn6 dc6, .slice sb6 sn6 sc6, .slice eb6 en6 ec6, .int .i64 xb]] W fun y w' => y = .returned (.int .i64 0) ∧ Below W.heap.size W w') := fun W hb => by
    have h := tidyMark_calls x _ W (HIX.out W hb) (by rw [HGX.out.slen, HGX.out.len]; have := HDN.out; omega) HGX.out.slen HGX.out.elen
    rw [HSI.out.mark] at h
    exact h
  have tn : ((n8 : Int) != (n8 : Int)) = false := by simp
  have tb : (xb != xb) = false := by simp
  clear hse hsx hle
  go_region_held3 (fun w' => w'.cell? ⟨be, 0, none⟩ = some (.slice cb cn cc) ∧ w'.cell? ⟨be, 1, none⟩ = some (.slice db dn dc) ∧ w'.cell? ⟨be, 2, none⟩ = some (.slice sb sn sc) ∧ w'.cell? ⟨be, 3, none⟩ = some (.slice eb en ec) ∧ w'.cell? ⟨be, 4, none⟩ = some (.int .i64 e.base) ∧ w'.cell? ⟨bx, 0, none⟩ = some (.slice cb6 cn6 cc6) ∧ w'.cell? ⟨bx, 1, none⟩ = some (.slice db6 dn6 dc6) ∧ w'.cell? ⟨bx, 2, none⟩ = some (.slice sb6 sn6 sc6) ∧ w'.cell? ⟨bx, 3, none⟩ = some (.slice eb6 en6 ec6) ∧ w'.cell? ⟨bx, 4, none⟩ = some (.int .i64 xb) ∧ Below A.heap.size A w')
    (first
      | exact HS0.out
      | with_reducible exact keepE2 (by assumption) (by assumption))
    (first
      | (have hq := hb10; go_at_call 11; refine (P1.out _ ?_).mono ?_; exact heldE2 (by assumption); rintro y w11 ⟨rfl, hb11⟩)
      | (go_at_call 11; refine (P2.out _ ?_).mono ?_; exact heldE2 (by assumption); rintro y w10 ⟨rfl, hb10⟩)
      | (go_at_call 9; refine (P3.out _ ?_).mono ?_; exact heldE2 (by assumption); rintro y w12 ⟨rfl, hb12⟩))
  have HE12 := hid (below_deep (below_deep (below_deep (step_drew (Below.refl w9.heap.size w9)) hb10) hb11) hb12)
  have HD12 := hid (below_deep HD9.out HE12.out)
  have HRA2 := hid (HRA.out.below (by decide) HE12.out)
  have HRX2 := hid (HRX.out.below (by decide) HE12.out)
  clear hb10 hb11 hb12 HS0 HDR HE12 HD9 HRA HRX P1 P2 P3 tn tb hdl hel hxl hsum
  have HGXL := hid HGX.out.len
  go_wp2
  go_loopw [64] (fun i wr => ∃ j : Nat, j ≤ n8 ∧ i = .int .i64 j ∧ Hid (Below w12.heap.size w12 wr)) (fun i _ => n8 - (intOf i).toNat)
  case atStart => exact ⟨0, Nat.zero_le _, rfl, Below.refl _ _⟩
  case round =>
    obtain ⟨j, hj, rfl, HBR⟩ := hrel
    by_cases hlt : j < n8
    · have hi : (j : Int) < (n8 : Int) := by omega
      have hjx : j < (readyE x).length := by rw [← HN9.out]; exact hlt
      have hje : j < (readyE e).length := by rw [HSI.out.ready, List.length_map]; exact hjx
      have hmem : (readyE x).getD j 0 ∈ readyE x := by simp [List.getD, hjx]
      have hql := ready_lt hmem
      have hqe : (readyE e).getD j 0 = n + (readyE x).getD j 0 := by
        rw [HSI.out.ready]
        simp [List.getD, hjx]
      obtain ⟨b1, o1, e1, hr1⟩ : ∃ b1 o1, b8 = some ⟨b1, o1, none⟩ ∧ Run wr b1 o1 (intsC (ints (readyE e))) := by
        rcases (HRA2.out.below (by decide) HBR.out).run with h | h
        · omega
        · exact h
      obtain ⟨b2, o2, e2, hr2⟩ : ∃ b2 o2, b9 = some ⟨b2, o2, none⟩ ∧ Run wr b2 o2 (intsC (ints (readyE x))) := by
        rcases (HRX2.out.below (by decide) HBR.out).run with h | h
        · omega
        · exact h
      have k1 := hr1 j _ (intsC_at (by rw [ints, List.length_map]; exact hje))
      have k2 := hr2 j _ (intsC_at (by rw [ints, List.length_map]; exact hjx))
      rw [show (ints (readyE e)).getD j 0 = ((n + (readyE x).getD j 0 : Nat) : Int) from by rw [← hqe]; simp [ints, List.getD, hje]] at k1
      rw [show (ints (readyE x)).getD j 0 = ((readyE x).getD j 0 : Int) from by simp [ints, List.getD, hjx]] at k2
      generalize (readyE x).getD j 0 = q at *
      have hw : IntKind.i64.wrap ((q : Int) + (n : Int)) = ((n + q : Nat) : Int) := by
        have h1 := HGXL.out
        have h3 := HDN.out
        have h4 := HMK.out.le
        rw [IntKind.wrap_i64] <;> omega
      generalize ((n + q : Nat) : Int) = s at *
      have ts : (s != s) = false := by simp
      have hb1 : b1 < wr.heap.size := by simpa using World.block_lt_of_cell? _ _ k1
      have hb2 : b2 < wr.heap.size := by simpa using World.block_lt_of_cell? _ _ k2
      subst e1 e2
      clear hr1 hr2 hmem hql hqe hjx hje
      go_wp2
      go_quiet (fail)
      go_wp2
      go_roundw
      case rel => exact ⟨j + 1, by omega, by go_num, below_drewN HBR.out _⟩
      case measure => simp [intOf]; omega
    · obtain rfl : j = n8 := by omega
      have HDW := hid (below_deep HD12.out HBR.out)
      clear HBR HRA2 HRX2 HN9 HGXL hlt hj HSI
      go_upto_region 17 with fail
      have PF1 := hid (fun W hb => refFin_calls HGD.out (by have := HDN.out; omega) _ W (HIE.out W hb))
      have PF2 := hid (fun W hb => refFin_calls HGX.out (by have := HDN.out; omega) _ W (HIX.out W hb))
      have HKC : Hid (∀ w', Below wr.heap.size wr w' → (w'.cell? ⟨be, 0, none⟩ = some (.slice cb cn cc) ∧ w'.cell? ⟨be, 1, none⟩ = some (.slice db dn dc) ∧ w'.cell? ⟨be, 2, none⟩ = some (.slice sb sn sc) ∧ w'.cell? ⟨be, 3, none⟩ = some (.slice eb en ec) ∧ w'.cell? ⟨be, 4, none⟩ = some (.int .i64 e.base) ∧ w'.cell? ⟨bx, 0, none⟩ = some (.slice cb6 cn6 cc6) ∧ w'.cell? ⟨bx, 1, none⟩ = some (.slice db6 dn6 dc6) ∧ w'.cell? ⟨bx, 2, none⟩ = some (.slice sb6 sn6 sc6) ∧ w'.cell? ⟨bx, 3, none⟩ = some (.slice eb6 en6 ec6) ∧ w'.cell? ⟨bx, 4, none⟩ = some (.int .i64 xb) ∧ Below wr.heap.size wr w')) := fun w' hb => by
        obtain ⟨a0, a1, a2, a3, a4⟩ := (HX7.out.below (below_deep HDW.out hb)).cells5
        obtain ⟨b0, b1, b2, b3, b4⟩ := (HY7.out.below (below_deep HDW.out hb)).cells5
        exact ⟨a0, a1, a2, a3, a4, b0, b1, b2, b3, b4, hb⟩
      have hel : be < wr.heap.size := (HX7.out.below HDW.out).lt
      have hxl : bx < wr.heap.size := (HY7.out.below HDW.out).lt
      have HD0 := hid (step_drew (Below.refl wr.heap.size wr))
      have HD1 := hid (step_drew (step_box (Below.refl wr.heap.size wr) (.cells #[.slice none 0 0, .slice none 0 0, .slice none 0 0, .slice none 0 0, .int .i64 0] 33)))
      have HD2 := hid (step_drew (step_box (step_box (Below.refl wr.heap.size wr) (.cells #[.slice none 0 0, .slice none 0 0, .slice none 0 0, .slice none 0 0, .int .i64 0] 33)) (.cells #[.slice none 0 0, .slice none 0 0, .slice none 0 0, .slice none 0 0, .int .i64 0] 33)))
      have HNA1 : Hid (Box (wr.alloc (.cells #[.slice none 0 0, .slice none 0 0, .slice none 0 0, .slice none 0 0, .int .i64 0] 33)).drew wr.heap.size #[.slice none 0 0, .slice none 0 0, .slice none 0 0, .slice none 0 0, .int .i64 0] 33) := Box.new wr _ _
      have HNA2 : Hid (Box ((wr.alloc (.cells #[.slice none 0 0, .slice none 0 0, .slice none 0 0, .slice none 0 0, .int .i64 0] 33)).alloc (.cells #[.slice none 0 0, .slice none 0 0, .slice none 0 0, .slice none 0 0, .int .i64 0] 33)).drew wr.heap.size #[.slice none 0 0, .slice none 0 0, .slice none 0 0, .slice none 0 0, .int .i64 0] 33) := Box.drew ((Box.new wr #[.slice none 0 0, .slice none 0 0, .slice none 0 0, .slice none 0 0, .int .i64 0] 33).below (grew (wr.alloc (.cells #[.slice none 0 0, .slice none 0 0, .slice none 0 0, .slice none 0 0, .int .i64 0] 33)) (.cells #[.slice none 0 0, .slice none 0 0, .slice none 0 0, .slice none 0 0, .int .i64 0] 33)))
      have HNB2 : Hid (Box ((wr.alloc (.cells #[.slice none 0 0, .slice none 0 0, .slice none 0 0, .slice none 0 0, .int .i64 0] 33)).alloc (.cells #[.slice none 0 0, .slice none 0 0, .slice none 0 0, .slice none 0 0, .int .i64 0] 33)).drew (wr.heap.size + 1) #[.slice none 0 0, .slice none 0 0, .slice none 0 0, .slice none 0 0, .int .i64 0] 33) := by
        have := Box.new (wr.alloc (.cells #[.slice none 0 0, .slice none 0 0, .slice none 0 0, .slice none 0 0, .int .i64 0] 33)) zeroA 33
        rw [World.size_alloc] at this
        exact this
      clear HX7 HY7 HL7 HLY7 HIE HIX HXB HGD HGX HH HSM HBS HP HN HB0 HB1 HR HB5 HB6
      go_cut [13, 14] (fun pv qv wx => Hid (FinAt wx pv l D m) ∧ Hid (FinAt wx qv l D (m + n)) ∧ Hid (Below wr.heap.size wr wx))
      case first =>
        go_region_held3 (fun w' => w'.cell? ⟨be, 0, none⟩ = some (.slice cb cn cc) ∧ w'.cell? ⟨be, 1, none⟩ = some (.slice db dn dc) ∧ w'.cell? ⟨be, 2, none⟩ = some (.slice sb sn sc) ∧ w'.cell? ⟨be, 3, none⟩ = some (.slice eb en ec) ∧ w'.cell? ⟨be, 4, none⟩ = some (.int .i64 e.base) ∧ w'.cell? ⟨bx, 0, none⟩ = some (.slice cb6 cn6 cc6) ∧ w'.cell? ⟨bx, 1, none⟩ = some (.slice db6 dn6 dc6) ∧ w'.cell? ⟨bx, 2, none⟩ = some (.slice sb6 sn6 sc6) ∧ w'.cell? ⟨bx, 3, none⟩ = some (.slice eb6 en6 ec6) ∧ w'.cell? ⟨bx, 4, none⟩ = some (.int .i64 xb) ∧ Below wr.heap.size wr w')
          (first
            | with_reducible exact HKC.out _ HD0.out
            | with_reducible exact HKC.out _ HD1.out
            | with_reducible exact HKC.out _ HD2.out
            | with_reducible exact HKC.out _ hb2'
            | with_reducible exact HKC.out _ (step_box hb2' _)
            | with_reducible exact HKC.out _ (step_box (step_box hb2' _) _)
            | with_reducible exact HKC.out _ (five5_below hb2' (by omega))
            | with_reducible exact HKC.out _ (step_box (five5_below hb2' (by omega)) _)
            | with_reducible exact HKC.out _ (five5_below (five5_below hb2' (by omega)) (by omega))
            | with_reducible exact HKC.out _ hb1'
            | with_reducible exact HKC.out _ (step_box hb1' _)
            | with_reducible exact HKC.out _ (step_box (step_box hb1' _) _))
          (first
            | (have hq := BB1; go_at_call 12; refine (PF2.out _ (below_deep HDW.out hb1')).mono ?_; rintro z2 w2 hz2; obtain ⟨z, cb2, cn2, cc2, db2, dn2, dc2, sb2, sn2, sc2, eb2, en2, ec2, rfl, hz2, hb2⟩ := fin_told hz2; have HZ2 := hid hz2; have hb2w : Below w1.heap.size w1 w2 := hb2; have hb2' : Below wr.heap.size wr w2 := below_deep hb1' hb2w; have HY2 := hid (HY1.out.below hb2w); have BA2 := BA1.below hb2; obtain ⟨⟨g00, g01, g02, g03, g04⟩, ⟨f00, f01, f02, f03, f04⟩, hbl0⟩ := box_all BA2; have BB2 := BB1.below hb2; obtain ⟨⟨g10, g11, g12, g13, g14⟩, ⟨f10, f11, f12, f13, f14⟩, hbl1⟩ := box_all BB2; have hsz2 := hb2'.size; have hsz1 := hb1'.size)
            | (have hq := BA1; go_at_call 12; refine (PF2.out _ (below_deep HDW.out (step_box hb1' (.cells #[.slice none 0 0, .slice none 0 0, .slice none 0 0, .slice none 0 0, .int .i64 0] 33)))).mono ?_; rintro z2 w2 hz2; obtain ⟨z, cb2, cn2, cc2, db2, dn2, dc2, sb2, sn2, sc2, eb2, en2, ec2, rfl, hz2, hb2⟩ := fin_told hz2; have HZ2 := hid hz2; have hb2w : Below w1.heap.size w1 w2 := below_deep (grew w1 (.cells #[.slice none 0 0, .slice none 0 0, .slice none 0 0, .slice none 0 0, .int .i64 0] 33)) hb2; have hb2' : Below wr.heap.size wr w2 := below_deep hb1' hb2w; have HY2 := hid (HY1.out.below hb2w); have BA2 := BA1.below hb2w; obtain ⟨⟨g00, g01, g02, g03, g04⟩, ⟨f00, f01, f02, f03, f04⟩, hbl0⟩ := box_all BA2; have BC2 := (Box.new w1 #[.slice none 0 0, .slice none 0 0, .slice none 0 0, .slice none 0 0, .int .i64 0] 33).below hb2; obtain ⟨⟨g10, g11, g12, g13, g14⟩, ⟨f10, f11, f12, f13, f14⟩, hbl1⟩ := box_all BC2; have hne1 : wr.heap.size ≠ w1.heap.size := Nat.ne_of_lt BA1.lt; have hne2 : w1.heap.size ≠ wr.heap.size := Ne.symm hne1; have hsz2 := hb2'.size; have hsz1 := hb1'.size)
            | (have hq := BA1; go_at_call 12; refine (PF2.out _ (below_deep HDW.out hb1')).mono ?_; rintro z2 w2 hz2; obtain ⟨z, cb2, cn2, cc2, db2, dn2, dc2, sb2, sn2, sc2, eb2, en2, ec2, rfl, hz2, hb2⟩ := fin_told hz2; have HZ2 := hid hz2; have hb2w : Below w1.heap.size w1 w2 := hb2; have hb2' : Below wr.heap.size wr w2 := below_deep hb1' hb2w; have HY2 := hid (HY1.out.below hb2w); have BA2 := BA1.below hb2; obtain ⟨⟨g00, g01, g02, g03, g04⟩, ⟨f00, f01, f02, f03, f04⟩, hbl0⟩ := box_all BA2; have hsz2 := hb2'.size; have hsz1 := hb1'.size)
            | (have hq := hb1'; go_at_call 12; refine (PF2.out _ (below_deep HDW.out (step_box (step_box hb1' (.cells #[.slice none 0 0, .slice none 0 0, .slice none 0 0, .slice none 0 0, .int .i64 0] 33)) (.cells #[.slice none 0 0, .slice none 0 0, .slice none 0 0, .slice none 0 0, .int .i64 0] 33)))).mono ?_; rintro z2 w2 hz2; obtain ⟨z, cb2, cn2, cc2, db2, dn2, dc2, sb2, sn2, sc2, eb2, en2, ec2, rfl, hz2, hb2⟩ := fin_told hz2; have HZ2 := hid hz2; have hb2w : Below w1.heap.size w1 w2 := below_deep (below_deep (grew w1 (.cells #[.slice none 0 0, .slice none 0 0, .slice none 0 0, .slice none 0 0, .int .i64 0] 33)) (grew (w1.alloc (.cells #[.slice none 0 0, .slice none 0 0, .slice none 0 0, .slice none 0 0, .int .i64 0] 33)) (.cells #[.slice none 0 0, .slice none 0 0, .slice none 0 0, .slice none 0 0, .int .i64 0] 33))) hb2; have hb2' : Below wr.heap.size wr w2 := below_deep hb1' hb2w; have HY2 := hid (HY1.out.below hb2w); have BC2 := ((Box.new w1 #[.slice none 0 0, .slice none 0 0, .slice none 0 0, .slice none 0 0, .int .i64 0] 33).below (grew (w1.alloc (.cells #[.slice none 0 0, .slice none 0 0, .slice none 0 0, .slice none 0 0, .int .i64 0] 33)) (.cells #[.slice none 0 0, .slice none 0 0, .slice none 0 0, .slice none 0 0, .int .i64 0] 33))).below hb2; obtain ⟨⟨g00, g01, g02, g03, g04⟩, ⟨f00, f01, f02, f03, f04⟩, hbl0⟩ := box_all BC2; have BD2 := (new_two w1).below hb2; obtain ⟨⟨g10, g11, g12, g13, g14⟩, ⟨f10, f11, f12, f13, f14⟩, hbl1⟩ := box_all BD2; have hsz2 := hb2'.size; have hsz1 := hb1'.size)
            | (have hq := hb1'; go_at_call 12; refine (PF2.out _ (below_deep HDW.out (step_box hb1' (.cells #[.slice none 0 0, .slice none 0 0, .slice none 0 0, .slice none 0 0, .int .i64 0] 33)))).mono ?_; rintro z2 w2 hz2; obtain ⟨z, cb2, cn2, cc2, db2, dn2, dc2, sb2, sn2, sc2, eb2, en2, ec2, rfl, hz2, hb2⟩ := fin_told hz2; have HZ2 := hid hz2; have hb2w : Below w1.heap.size w1 w2 := below_deep (grew w1 (.cells #[.slice none 0 0, .slice none 0 0, .slice none 0 0, .slice none 0 0, .int .i64 0] 33)) hb2; have hb2' : Below wr.heap.size wr w2 := below_deep hb1' hb2w; have HY2 := hid (HY1.out.below hb2w); have BC2 := (Box.new w1 #[.slice none 0 0, .slice none 0 0, .slice none 0 0, .slice none 0 0, .int .i64 0] 33).below hb2; obtain ⟨⟨g00, g01, g02, g03, g04⟩, ⟨f00, f01, f02, f03, f04⟩, hbl0⟩ := box_all BC2; have hsz2 := hb2'.size; have hsz1 := hb1'.size)
            | (have hq := hb1'; go_at_call 12; refine (PF2.out _ (below_deep HDW.out hb1')).mono ?_; rintro z2 w2 hz2; obtain ⟨z, cb2, cn2, cc2, db2, dn2, dc2, sb2, sn2, sc2, eb2, en2, ec2, rfl, hz2, hb2⟩ := fin_told hz2; have HZ2 := hid hz2; have hb2w : Below w1.heap.size w1 w2 := hb2; have hb2' : Below wr.heap.size wr w2 := below_deep hb1' hb2w; have HY2 := hid (HY1.out.below hb2w); have hsz2 := hb2'.size; have hsz1 := hb1'.size)
            | (go_at_call 12; refine (PF1.out _ (below_deep HDW.out HD2.out)).mono ?_; rintro z1 w1 hz1; obtain ⟨y, cb1, cn1, cc1, db1, dn1, dc1, sb1, sn1, sc1, eb1, en1, ec1, rfl, hy1, hb1⟩ := fin_told hz1; have HY1 := hid hy1; have hb1' : Below wr.heap.size wr w1 := below_deep HD2.out hb1; have BA1 := HNA2.out.below hb1; have BB1 := HNB2.out.below hb1)
            | (go_at_call 12; refine (PF1.out _ (below_deep HDW.out HD1.out)).mono ?_; rintro z1 w1 hz1; obtain ⟨y, cb1, cn1, cc1, db1, dn1, dc1, sb1, sn1, sc1, eb1, en1, ec1, rfl, hy1, hb1⟩ := fin_told hz1; have HY1 := hid hy1; have hb1' : Below wr.heap.size wr w1 := below_deep HD1.out hb1; have BA1 := HNA1.out.below hb1)
            | (go_at_call 12; refine (PF1.out _ (below_deep HDW.out HD0.out)).mono ?_; rintro z1 w1 hz1; obtain ⟨y, cb1, cn1, cc1, db1, dn1, dc1, sb1, sn1, sc1, eb1, en1, ec1, rfl, hy1, hb1⟩ := fin_told hz1; have HY1 := hid hy1; have hb1' : Below wr.heap.size wr w1 := below_deep HD0.out hb1))
        all_goals
          go_wp2
          go_meet
        case rel => exact fin_new HY2.out HZ2.out hb2'
        case rel => exact fin_newS HY2.out HZ2.out hb2'
        case rel => exact fin_first HY2.out HZ2.out hb2' BC2 (by omega)
        case rel => exact fin_both HY2.out HZ2.out hb2' BC2 BD2 (by omega) (by omega) (by omega)
        case rel => exact fin_second HY2.out HZ2.out hb2' BC2 (by omega)
        case rel => exact fin_both HY2.out HZ2.out hb2' BD2 BC2 (by omega) (by omega) (by omega)
        case rel => exact fin_first HY2.out HZ2.out hb2' BA2 (by omega)
        case rel => exact fin_both HY2.out HZ2.out hb2' BA2 BC2 (by omega) (by omega) (by omega)
        case rel => exact fin_both HY2.out HZ2.out hb2' BA2 BB2 (by omega) (by omega) (by omega)
        case rel => exact fin_second HY2.out HZ2.out hb2' BA2 (by omega)
        case rel => exact fin_both HY2.out HZ2.out hb2' BC2 BA2 (by omega) (by omega) (by omega)
        case rel => exact fin_both HY2.out HZ2.out hb2' BB2 BA2 (by omega) (by omega) (by omega)
      case rest =>
        obtain ⟨HF1, HF2, HBC⟩ := hcut
        have HB18 := hid (below_deep HB7.out (below_deep HDW.out HBC.out))
        clear HKC HD0 HD1 HD2 HNA1 HNA2 HNB2 PF1 PF2 HDW HBC hel hxl
        generalize wc = W at *
        obtain ⟨y, dy, b1', by1, cb1, cn1, cc1, db1, dn1, dc1, sb1, sn1, sc1, eb1, en1, ec1, rfl, hgy, hdy, hxy, hly⟩ := HF1.out
        obtain ⟨z, dz, b2', bz1, cb2, cn2, cc2, db2, dn2, dc2, sb2, sn2, sc2, eb2, en2, ec2, rfl, hgz, hdz, hxz, hlz⟩ := HF2.out
        have HGY := hid hgy
        have HGZ := hid hgz
        have HSY := hid (seen_end hgy hdy)
        have HSZ := hid (seen_end hgz hdz)
        have HEN := hid (done_ends hgy hgz hdy hdz)
        have hne : n ≤ en1 := by rw [Ends.count hly.en, hgy.elen, hgy.len]; have := HMK.out.le; omega
        have HXY := hid hxy
        have HLY := hid hly
        have HXZ := hid hxz
        have HLZ := hid hlz
        clear hgy hdy hxy hly hgz hdz hxz hlz HF1 HF2
        obtain ⟨x0, x1, x2, x3, x4⟩ := HXY.out.cells5
        have hyl : by1 < W.heap.size := HXY.out.lt
        have PS := hid (tidySeen_calls HGY.out (by have := HDN.out; omega) (dn1 : Int) _ W ⟨_, _, _, _, _, _, _, _, _, _, _, _, rfl, HLY.out⟩)
        unfold SeenTold at PS
        rw [HLY.out.de.len, HSY.out, ← HLY.out.de.len] at PS
        go_wp2_with fail
        refine PS.out.mono ?_
        rintro v19 w19 ⟨b19, n19, c19, rfl, h19, hb19⟩
        have HH19 := hid h19
        have HXY2 := hid (HXY.out.below hb19)
        have HLY2 := hid (HLY.out.below hb19)
        have HXZ2 := hid (HXZ.out.below hb19)
        have HLZ2 := hid (HLZ.out.below hb19)
        have HB19 := hid (below_deep HB18.out hb19)
        clear h19 hb19 PS x0 x1 x2 x3 x4 hyl HXY HLY HXZ HLZ
        obtain ⟨x0, x1, x2, x3, x4⟩ := HXZ2.out.cells5
        have hzl : bz1 < w19.heap.size := HXZ2.out.lt
        have PT := hid (tidySeen_calls HGZ.out (by have := HDN.out; omega) (dn2 : Int) _ w19 ⟨_, _, _, _, _, _, _, _, _, _, _, _, rfl, HLZ2.out⟩)
        unfold SeenTold at PT
        rw [HLZ2.out.de.len, HSZ.out, ← HLZ2.out.de.len] at PT
        go_wp2_with fail
        refine PT.out.mono ?_
        rintro v20 A20 ⟨b20, n20, c20, rfl, h20, hb20⟩
        have HH20 := hid h20
        have HH19' := hid (HH19.out.below hb20)
        have HXY3 := hid (HXY2.out.below hb20)
        have HXZ3 := hid (HXZ2.out.below hb20)
        have HEY : Hid (Ends A20 (cutB eb1 ec1 n 5) (en1 - n) (ec1 - n) z.ends) := by
          have := ends_cut (HLY2.out.below hb20).en hne
          rw [HEN.out] at this
          exact this
        have HEZ := hid (HLZ2.out.below hb20).en
        have HB20 := hid (below_deep HB19.out hb20)
        have hs3 := slice_run (t := 31) Tryd.underlying31 Tryd.sizeOf64 eb1 en1 ec1 n hne
        clear h20 hb20 PT x0 x1 x2 x3 x4 hzl HXY2 HXZ2 HLY2 HLZ2 HH19 hne
        generalize cutB eb1 ec1 n 5 = eb1' at *
        generalize en1 - n = en1' at *
        generalize ec1 - n = ec1' at *
        go_upto_region 20 with fail
        have HDR := hid (step_drew (Below.refl A20.heap.size A20))
        have HS0 : Hid ((fun w' => w'.cell? ⟨by1, 3, none⟩ = some (.slice eb1 en1 ec1) ∧ w'.cell? ⟨bz1, 3, none⟩ = some (.slice eb2 en2 ec2) ∧ Below A20.heap.size A20 w') A20.drew) :=
          ⟨(HXY3.out.below HDR.out).cell 3 _ rfl, (HXZ3.out.below HDR.out).cell 3 _ rfl, HDR.out⟩
        have P1 : Hid (∀ W, Below A20.heap.size A20 W → Calls Tryd.prog 14 #[.slice b19 n19 c19, .slice b20 n20 c20] W fun x w' => x = .returned (.bool true) ∧ Below W.heap.size W w') := fun W hb =>
          same_holds _ b19 b20 n19 n20 c19 c20 W (HH19'.out.below hb) (HH20.out.below hb)
        have P2 : Hid (∀ W, Below A20.heap.size A20 W → Calls Tryd.prog 15 #[.slice eb1' en1' ec1', .slice eb2 en2 ec2] W fun x w' => x = .returned (.bool true) ∧ Below W.heap.size W w') := fun W hb =>
          sameEnds_calls z.ends eb1' en1' ec1' eb2 en2 ec2 W (HEY.out.below (by decide) hb) (HEZ.out.below (by decide) hb)
        have hyl : by1 < A20.heap.size := HXY3.out.lt
        have hzl : bz1 < A20.heap.size := HXZ3.out.lt
        clear HXY3 HXZ3 HH19' HH20 HEY HEZ
        go_region_held3 (fun w' => w'.cell? ⟨by1, 3, none⟩ = some (.slice eb1 en1 ec1) ∧ w'.cell? ⟨bz1, 3, none⟩ = some (.slice eb2 en2 ec2) ∧ Below A20.heap.size A20 w')
          (first
            | exact HS0.out
            | with_reducible exact keepC2 (by assumption) (by assumption))
          (first
            | (go_at_call 14; refine (P1.out _ ?_).mono ?_; exact heldC2 (by assumption); rintro v21 w21 ⟨rfl, hb21⟩)
            | (go_at_call 15; refine (P2.out _ ?_).mono ?_; exact heldC2 (by assumption); rintro v22 w22 ⟨rfl, hb22⟩))
        have HBT := hid (below_deep HB20.out (below_deep (below_deep HDR.out hb21) hb22))
        go_wp2
        go_ret
        exact ⟨rfl, HBT.out⟩
end Go.Proofs.YtdnafpenljdinadDoor
