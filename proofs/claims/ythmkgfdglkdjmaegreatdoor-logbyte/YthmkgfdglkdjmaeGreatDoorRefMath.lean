/-
  What a statement's list of package-level variables says of them is what the walks ask; and how a statement is lifted that lists variables and leans on the world's shape.
  What a statement's list of package-level variables says of those that numbers' texts meet.
  How an argument that is rows is read: some list of rows lies there, within the reach of the form.
  How an argument that is a deed is read: its three slices lie there.
  Plain mathematics of the document's own Get and Put: what they come to row by row, of rows that rise.
-/
import Derived.Test.YthmkgfdglkdjmaeGreatDoorRows
import Derived.Test.YthmkgfdglkdjmaeGreatDoorGround
import Derived.ProofKit
import Derived.OpenShut
import Derived.LaidMore
import Derived.Lay
import Derived.Stop.Joined
import Derived.Stop.LaidErr
import Derived.Shelf.Vars
import Derived.Handed
import Derived.Test.YthmkgfdglkdjmaeGreatDoorConcat
import Derived.Deep.SlicePairs
import Derived.SizedLaws
import Derived.Carry
import Derived.SliceStrings
import Derived.Lib.SmallJoins
import Derived.Test.YthmkgfdglkdjmaeGreatDoorDeedMath
namespace Go.Proofs.YthmkgfdglkdjmaeGreatDoor
open Go.ChangeShapes Go.WideShapes Go.ChangeAt Go.RowKit

theorem gShapes : Tryz.prog.globalNamed "rankandfile/text.shapes" = some 0 := by kernel_rfl
theorem tShapes : (Tryz.prog.globals[0]?).map (·.type) = some 77 := by kernel_rfl
theorem gPow : Tryz.prog.globalNamed "internal/strconv.uint64pow10" = some 4 := by kernel_rfl
theorem tPow : (Tryz.prog.globals[4]?).map (·.type) = some 136 := by kernel_rfl
theorem gSyn : Tryz.prog.globalNamed "strconv.ErrSyntax" = some 2 := by kernel_rfl
theorem tSyn : (Tryz.prog.globals[2]?).map (·.type) = some 83 := by kernel_rfl
theorem gRng : Tryz.prog.globalNamed "strconv.ErrRange" = some 3 := by kernel_rfl
theorem tRng : (Tryz.prog.globals[3]?).map (·.type) = some 83 := by kernel_rfl
theorem cellsErr : Tryz.prog.cellsOf 143 = 1 := by kernel_rfl
theorem cellsStr1 : Tryz.prog.cellsOf 9 = 1 := by kernel_rfl
theorem starErr : "*" ++ "errors.errorString" = "*errors.errorString" := by decide
theorem rowErr (u : TypeId) (h : Tryz.prog.typeName? 3 u = some "*errors.errorString") : u = 141 :=
  typeName_ptr_named (nm := "errors.errorString") (by rw [starErr]; kernel_rfl) (by kernel_rfl) (by decide) u (by rw [starErr]; exact h)
theorem powData : (Rows.laid_internal_strconv_uint64pow10 : DataW Unit) = Lib.tabData .u64 Lib.pow10Tab := by kernel_rfl
def shapesZ : List T := [[], shapeT 1, shapeT 2, shapeT 3, shapeT 4, shapeT 5, shapeT 6, shapeT 7, shapeT 8, shapeT 9]
theorem shapesData : (Rows.laid_rankandfile_text_shapes : DataW Unit) = .agg (shapesZ.map fun t => .lit (.string t)) := by /- gShapes -/ kernel_rfl
theorem shapesZ_at {k : Nat} (h : k < 10) : shapesZ[k]? = some (shapeT k) := by
  have : k = 0 ∨ k = 1 ∨ k = 2 ∨ k = 3 ∨ k = 4 ∨ k = 5 ∨ k = 6 ∨ k = 7 ∨ k = 8 ∨ k = 9 := by omega
  rcases this with rfl | rfl | rfl | rfl | rfl | rfl | rfl | rfl | rfl | rfl <;> rfl

theorem shapes_read {W : World} {cs : Array Value} {fuel : Nat} {p : List MemPlace} (hv : W.var? Tryz.prog "rankandfile/text.shapes" = some cs)
    (hd : DataW.trod (fun _ => ()) Tryz.prog W 0 (fun _ => true) false fuel 77 cs.toList = some (Rows.laid_rankandfile_text_shapes, p)) (k : Nat) (hk : k < 10) : W.cell? ⟨0, k, none⟩ = some (.string (ofT (shapeT k))) := by
  obtain ⟨xs, m, _, ex, _, hl, hel⟩ := DataW.trod_array Tryz.underlying77 hd
  have hE := hel k hk
  rw [cellsStr1, Nat.mul_one, List.getElem?_eq_getElem (by omega)] at hE
  obtain ⟨z, e1, e2, _⟩ := DataW.trod_string Tryz.underlying9 hE
  rw [shapesData] at ex
  have e3 : (xs.map (·.1)) = shapesZ.map fun t => .lit (.string t) := (DataW.agg.inj (Prod.mk.inj ex).1).symm
  have e4 : (xs.map (·.1))[k]? = (shapesZ.map fun t => (DataW.lit (.string t) : DataW Unit))[k]? := by rw [e3]
  rw [List.getElem?_map, List.getElem?_map, List.getElem?_eq_getElem (by omega : k < xs.length), shapesZ_at hk, e2] at e4
  have hz : z.data.toList = shapeT k := by
    simpa using e4
  have hz2 : z = ofT (shapeT k) := by
    rw [← hz]; exact (ofT_keyT z).symm
  rw [World.var?_cell gShapes hv k, ← hz2]
  have h0 : ((cs.toList.drop k).take 1)[0]? = some (.string z) := by rw [e1]; rfl
  simpa using h0

theorem ground_of {W : World} {x0 x1 x3 x7 : String × DataW Unit} (h : laidMet Tryz.prog [x0, x1, ("internal/strconv.uint64pow10", Rows.laid_internal_strconv_uint64pow10), x3, ("strconv.ErrRange", Rows.laid_strconv_ErrRange), ("strconv.ErrSyntax", Rows.laid_strconv_ErrSyntax), ("rankandfile/text.shapes", Rows.laid_rankandfile_text_shapes), x7] W) (hsh : W.ShapedOpen Tryz.prog) : Ground W := by
  have h2 := h.tail.tail
  have h4 := h2.tail.tail
  have h5 := h4.tail
  have h6 := h5.tail
  rw [powData] at h2
  refine ⟨?_, ?_, ?_, ?_, ?_⟩
  · obtain ⟨ps, ⟨g, t, cs, fuel, p, q, hg, ht, hv, hd, _, _⟩, _, _⟩ := h6
    obtain rfl := Option.some.inj (gShapes.symm.trans hg)
    obtain rfl := Option.some.inj (tShapes.symm.trans ht)
    exact shapes_read hv hd
  · exact cell_of_shapedOpen_int (zero := #[.int .i64 0]) (t := 3) hsh (of_decide_eq_true (by kernel_rfl)) (by kernel_rfl) rfl (by kernel_rfl) (by kernel_rfl) Tryz.underlying3
  · obtain ⟨a0, s0, hv0, -, -, -⟩ := laid_sentinel h5 gSyn tSyn Tryz.underlying83 rowErr Tryz.underlying141 Tryz.underlying143 rfl rfl Tryz.underlying9 cellsErr cellsStr1
    exact ⟨_, _, hv0⟩
  · obtain ⟨a0, s0, hv0, -, -, -⟩ := laid_sentinel h4 gRng tRng Tryz.underlying83 rowErr Tryz.underlying141 Tryz.underlying143 rfl rfl Tryz.underlying9 cellsErr cellsStr1
    exact ⟨_, _, hv0⟩
  · exact Lib.tabIs_of_head gPow tPow Tryz.underlying136 Tryz.underlying122 (by kernel_rfl) (by kernel_rfl) h2

/-- A statement that lists variables and leans on the world's shape, lifted. -/
theorem lift_shaped {H : Type} {enc : TypeId × Value → H} {a : Assume} {C : Checked} {os : Os} {f : FuncId} {fn : Func} {s : ChangeSpec} {conds : List PathCond} {apart fresh handsOn again : Bool} {X : World → Array Value → Prop}
    (hX : ∀ (w w' : World) (args : Array Value), w.heap = w'.heap → X w args → X w' args)
    (own : ownKnob C.prog.godebug = none) (started : os.Started) (noInit : C.prog.inits.idxOf? f = none) (hfn : C.prog.funcs[f]? = some fn)
    (witness : ∃ (w : World) (tape : Tape) (i : Input), w.os = os ∧ (w.forCall tape i).Shaped C.prog ∧ i.vars = [] ∧ Input.okWide C.prog (w.forCall tape i) .any w.heap.size f i ∧
      ((s.pre enc C.prog fn conds apart (w.forCall tape i).memory i.args ∧ X (w.forCall tape i).memory i.args) ∧ sizedMet enc C.prog fn (OpenSpec.ofChange s) apart (w.forCall tape i).memory i.args) ∧ a.holds C.prog (lone (Frame.enter C.prog f i.args .normal) [] (w.forCall tape i)))
    (contract : ∀ (W : World) (base : Nat) (args : Array Value) (ds gs : List (DataW H)) (before : List MemPlace),
      (∀ (j : Nat) t v, fn.params[j]? = some t → args[j]? = some v → Value.okWide C.prog W .any base t v) →
      DataW.Whole enc C.prog fn.params.toList s.vars apart W args.toList ds gs before →
      X W args → W.ShapedOpen C.prog →
      Calls C.prog f args W fun e W' => ∃ v, e = .returned v ∧ s.post enc C.prog fn apart fresh handsOn again W args v W') :
    ReturnsInHanded a C os f .any (fun w args => (s.pre enc C.prog fn conds apart w args ∧ X w args) ∧ sizedMet enc C.prog fn (OpenSpec.ofChange s) apart w args) (s.post enc C.prog fn apart fresh handsOn again) := by
  refine returnsInHanded_of_calls own started noInit witness ?_
  intro w tape i _ hsh _ hok hpre _
  obtain ⟨_, _, _, fn', hfn', _, _, _, _, hval⟩ := hok
  obtain rfl : fn' = fn := Option.some.inj (hfn'.symm.trans hfn)
  obtain ⟨⟨⟨ds, gs, before, hw, _⟩, hx⟩, _⟩ := hpre
  refine (contract (w.forCall tape i) w.heap.size i.args ds gs before hval (DataW.Whole.of_heap (w' := w.forCall tape i) (by rfl) hw) (hX _ _ _ (by rfl) hx) hsh).mono fun e W' ⟨v, he, hp⟩ => ?_
  subst he
  exact ChangeSpec.post_blind hp
end Go.Proofs.YthmkgfdglkdjmaeGreatDoor

namespace Go.Proofs.YthmkgfdglkdjmaeGreatDoor
open Go.ChangeShapes Go.WideShapes Go.ChangeAt Go.RowKit

end Go.Proofs.YthmkgfdglkdjmaeGreatDoor

namespace Go.Proofs.YthmkgfdglkdjmaeGreatDoor
open Go.ChangeShapes Go.WideShapes Go.ChangeAt Go.RowKit Go.Deep

theorem own : ownKnob Tryz.prog.godebug = none := by kernel_rfl
theorem laidOut : laidOutB Tryz.prog = true := by kernel_rfl
theorem cellsStr : Tryz.prog.cellsOf 9 = 1 := by kernel_rfl
theorem cellsInt : Tryz.prog.cellsOf 3 = 1 := by kernel_rfl

end Go.Proofs.YthmkgfdglkdjmaeGreatDoor

namespace Go.Proofs.YthmkgfdglkdjmaeGreatDoor
open Go.ChangeShapes Go.WideShapes Go.ChangeAt Go.RowKit Go.Deep Go.Joins

theorem cellsDeed : Tryz.prog.cellsOf 39 = 3 := by kernel_rfl
theorem cellsInstr : Tryz.prog.cellsOf 57 = 5 := by kernel_rfl

/-- How a datum tells the room of a slice. -/
def Room {H : Type} (d : DataW H) (cap : Nat) : Prop := (d = .nil ∧ cap = 0) ∨ ∃ elems spare : List (DataW H), d = .slice elems spare ∧ elems.length + spare.length = cap

theorem open_texts {H : Type} {enc : TypeId × Value → H} {W : World} {v : Value} {fuel : Nat} {y : DataW H × List MemPlace}
    (h : DataW.trod enc Tryz.prog W 0 (fun _ => true) true fuel 36 [v] = some y) :
    ∃ a len cap l, v = .slice a len cap ∧ Texts W a len cap l ∧ SmallT l ∧ Room y.1 cap := by
  rcases open_strings Tryz.underlying36 Tryz.underlying9 cellsStr h with ⟨hcs, hx⟩ | ⟨x, len, cap, ss, hcs, _, hl, hm, hss, hx, hcell, hsm⟩
  · simp at hcs
    subst hcs
    rw [hx]
    exact ⟨none, 0, 0, [], rfl, Lies.none _ _, (fun _ h => by cases h), .inl ⟨rfl, rfl⟩⟩
  · simp at hcs
    subst hcs
    simp only [if_true] at hss
    refine ⟨some x, len, cap, ss.take len, rfl, ?_, fun s hs => hsm s (List.mem_of_mem_take hs), ?_⟩
    · refine ⟨by rw [strs_length, List.length_take]; omega, ⟨hl, hm, fun h => by cases h⟩, ?_⟩
      by_cases h0 : len = 0
      · exact .inl h0
      · right
        obtain ⟨b, off, spot⟩ := x
        have hsp : spot = none := by simpa [Addr.add] using World.cell?_spot (hcell 0 (by omega))
        subst hsp
        refine ⟨b, off, rfl, fun j u hu => ?_⟩
        have hj : j < len := by
          have := (List.getElem?_eq_some_iff.1 hu).1
          rw [strs_length, List.length_take] at this; omega
        have h1 := hcell j (by omega)
        rw [Addr.add_lit] at h1
        rw [h1]
        have : (strs (ss.take len))[j]? = some (.string (ss.getD j ByteArray.empty)) := by
          simp [strs, hj, List.getD, show j < ss.length by omega]
        rw [this] at hu
        exact hu
    · rw [hx]
      refine .inr ⟨_, _, rfl, ?_⟩
      simp [Go.ChangeShapes.strs]; omega

set_option maxRecDepth 100000 in
theorem open_codes {H : Type} {enc : TypeId × Value → H} {W : World} {v : Value} {fuel : Nat} {y : DataW H × List MemPlace}
    (h : DataW.trod enc Tryz.prog W 0 (fun _ => true) true fuel 37 [v] = some y) :
    ∃ a len cap l, v = .slice a len cap ∧ Codes W a len cap l ∧ Room y.1 cap := by
  rcases open_slice Tryz.underlying37 h with ⟨hcs, hx⟩ | ⟨x, len, cap, m, n, D, Pl, hcs, _, hl, hm, hmm, hx, hcell⟩
  · simp at hcs
    subst hcs
    rw [hx]
    exact ⟨none, 0, 0, [], rfl, Lies.none _ _, .inl ⟨rfl, rfl⟩⟩
  · simp at hcs
    subst hcs
    simp only [if_true] at hmm
    subst hmm
    have hroom : Room y.1 m := by rw [hx]; exact .inr ⟨_, _, rfl, by simp; omega⟩
    have each : ∀ i, i < len → ∃ q : Ins, W.cell? (x.add (i * 5)) = some (.int .i64 q.kind) ∧ W.cell? (x.add (i * 5 + 1)) = some (.int .i64 q.a) ∧ W.cell? (x.add (i * 5 + 2)) = some (.int .i64 q.b) ∧ W.cell? (x.add (i * 5 + 3)) = some (.int .i64 q.n) ∧ W.cell? (x.add (i * 5 + 4)) = some (.string q.key) := by
      intro i hi
      obtain ⟨cs', h1, h2⟩ := hcell i (by omega)
      rw [cellsInstr] at h1
      obtain ⟨_, hlen, hc⟩ := World.cells?_some h1
      obtain ⟨xs, k, _, _, _, hxl, hf⟩ := DataW.trod_struct Tryz.underlying57 h2
      match cs', hlen, xs, hxl with
      | [v0, v1, v2, v3, v4], _, [y0, y1, y2, y3, y4], _ =>
        have g0 := hf 0 _ rfl
        have g1 := hf 1 _ rfl
        have g2 := hf 2 _ rfl
        have g3 := hf 3 _ rfl
        have g4 := hf 4 _ rfl
        simp [cellsInt, cellsStr] at g0 g1 g2 g3 g4
        have e0 := hc 0 (by omega)
        have e1 := hc 1 (by omega)
        have e2 := hc 2 (by omega)
        have e3 := hc 3 (by omega)
        have e4 := hc 4 (by omega)
        rw [add_add] at e0 e1 e2 e3 e4
        obtain ⟨q0, hq0, _, _⟩ := DataW.trod_int Tryz.underlying3 g0
        obtain ⟨q1, hq1, _, _⟩ := DataW.trod_int Tryz.underlying3 g1
        obtain ⟨q2, hq2, _, _⟩ := DataW.trod_int Tryz.underlying3 g2
        obtain ⟨q3, hq3, _, _⟩ := DataW.trod_int Tryz.underlying3 g3
        obtain ⟨q4, hq4, _, _⟩ := DataW.trod_string Tryz.underlying9 g4
        simp at hq0 hq1 hq2 hq3 hq4
        subst hq0 hq1 hq2 hq3 hq4
        exact ⟨(q0, q1, q2, q3, q4), by simpa using e0, by simpa using e1, by simpa using e2, by simpa using e3, by simpa using e4⟩
    obtain ⟨q, hq⟩ := choose_lt each
    have hget : ∀ i, i < len → ((List.range len).map q).getD i default = q i := fun i hi => by simp [List.getD, hi]
    refine ⟨some x, len, m, (List.range len).map q, rfl, ?_, hroom⟩
    refine ⟨by rw [insCells_length]; simp, ⟨hl, hm, fun h => by cases h⟩, ?_⟩
    by_cases h0 : len = 0
    · exact .inl h0
    right
    obtain ⟨b, off, spot⟩ := x
    have hsp : spot = none := by simpa [Addr.add] using World.cell?_spot (hq 0 (by omega)).1
    subst hsp
    refine ⟨b, off, rfl, fun j u hu => ?_⟩
    have hj : j < len * 5 := by
      have := (List.getElem?_eq_some_iff.1 hu).1
      rw [insCells_length] at this; simpa using this
    have hjl : j / 5 < len := by omega
    have hat := insCells_at ((List.range len).map q) (j / 5) (by simpa using hjl) (j % 5)
    rw [hget _ hjl, show j / 5 * 5 + j % 5 = j from by omega] at hat
    obtain ⟨r0, r1, r2, r3, r4⟩ := hq _ hjl
    rw [Addr.add_lit] at r0 r1 r2 r3 r4
    have hm5 : j % 5 = 0 ∨ j % 5 = 1 ∨ j % 5 = 2 ∨ j % 5 = 3 ∨ j % 5 = 4 := by omega
    rcases hm5 with e | e | e | e | e <;> rw [e] at hat
    · have h2 := hat _ rfl
      rw [hu] at h2
      rw [show off + j = off + j / 5 * 5 from by omega, r0]; exact h2.symm
    · have h2 := hat _ rfl
      rw [hu] at h2
      rw [show off + j = off + (j / 5 * 5 + 1) from by omega, r1]; exact h2.symm
    · have h2 := hat _ rfl
      rw [hu] at h2
      rw [show off + j = off + (j / 5 * 5 + 2) from by omega, r2]; exact h2.symm
    · have h2 := hat _ rfl
      rw [hu] at h2
      rw [show off + j = off + (j / 5 * 5 + 3) from by omega, r3]; exact h2.symm
    · have h2 := hat _ rfl
      rw [hu] at h2
      rw [show off + j = off + (j / 5 * 5 + 4) from by omega, r4]; exact h2.symm

end Go.Proofs.YthmkgfdglkdjmaeGreatDoor

namespace Go.Proofs.YthmkgfdglkdjmaeGreatDoor

end Go.Proofs.YthmkgfdglkdjmaeGreatDoor
