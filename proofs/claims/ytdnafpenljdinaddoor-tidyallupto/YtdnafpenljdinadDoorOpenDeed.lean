/-
  What the program finds wrong with an instruction of a deed.
  What the program finds wrong with a deed as a whole.
  What the package-level variables hold that a deed's way to its text and back meets, and that whatever leaves old memory alone leaves them so.
  What a statement's list of package-level variables says of them is what the walks ask; and how a statement is lifted that lists variables and leans on the world's shape.
  What a statement's list of package-level variables says of those that numbers' texts meet.
  How an argument that is rows is read: some list of rows lies there, within the reach of the form.
  How an argument that is a deed is read: its three slices lie there.
-/
import Derived.Test.YtdnafpenljdinadDoorDeedWrong
import Derived.Test.YtdnafpenljdinadDoorAround
import Derived.Lib.LaidTab
import Derived.Lib.ItoaMem
import Derived.Test.YtdnafpenljdinadDoorRows
import Derived.ProofKit
import Derived.OpenShut
import Derived.LaidMore
import Derived.Lay
import Derived.Stop.Joined
import Derived.Stop.LaidErr
import Derived.Shelf.Vars
import Derived.Handed
import Derived.Deep.SlicePairs
import Derived.SizedLaws
import Derived.Carry
import Derived.SliceStrings
import Derived.Lib.SmallJoins
namespace Go.Proofs.YtdnafpenljdinadDoor
open Go.RowKit

/-- Where a deed's three slices lie, and what they hold. -/
structure DeedIn (w : World) (rb : Option Addr) (rn rc : Nat) (wb : Option Addr) (wn wc : Nat) (cb : Option Addr) (cn cc : Nat) (R W : List ByteArray) (C : List Ins) : Prop where
  tr : Texts w rb rn rc R
  tw : Texts w wb wn wc W
  cd : Codes w cb cn cc C
theorem DeedIn.below {w w' : World} {rb : Option Addr} {rn rc : Nat} {wb : Option Addr} {wn wc : Nat} {cb : Option Addr} {cn cc : Nat} {R W : List ByteArray} {C : List Ins} (h : DeedIn w rb rn rc wb wn wc cb cn cc R W C) (hb : Below w.heap.size w w') : DeedIn w' rb rn rc wb wn wc cb cn cc R W C :=
  ⟨h.tr.below (by decide) hb, h.tw.below (by decide) hb, h.cd.below (by decide) hb⟩
theorem below_deep {w w1 w2 : World} (h : Below w.heap.size w w1) (k : Below w1.heap.size w1 w2) : Below w.heap.size w w2 := h.trans (k.mono h.size)

theorem box_cell (w : World) (vs : Array Value) (t : TypeId) (j : Nat) (v : Value) (h : vs[j]? = some v) : (w.alloc (.cells vs t)).cell? ⟨w.heap.size, j, none⟩ = some v := by
  rw [World.cell?_alloc_at _ _ _ _ rfl]; exact h
theorem box_past {w : World} {b x : Nat} {v : Value} (o : Obj) (h : w.cell? ⟨b, x, none⟩ = some v) : (w.alloc o).cell? ⟨b, x, none⟩ = some v := cell_past o h
theorem kept_cell {w w' : World} {b x : Nat} {v : Value} (hb : Below w.heap.size w w') (h : w.cell? ⟨b, x, none⟩ = some v) : w'.cell? ⟨b, x, none⟩ = some v := by
  have := World.block_lt_of_cell? _ _ h
  rw [hb.cell (p := ⟨b, x, none⟩) this]; exact h

theorem size_nil {s : ByteArray} (h : s.size = 0) : s = ⟨#[]⟩ := by
  cases s with | mk d => simpa [ByteArray.size] using h
theorem size_ne {s : ByteArray} (h : s.size ≠ 0) : (s.toList == []) = false := by
  rw [ByteArray.toList_eq]
  cases s with | mk d => simpa [ByteArray.size] using h

theorem wIns_3 {R W : List ByteArray} {i : Ins} {b : Int} (h1 : 1 ≤ i.kind) (h2 : i.kind ≤ 9) (h : regsFit i = false ∨ numFit i b = false) : wIns R W i b = 3 := by
  unfold wIns; rw [if_neg (by omega), if_pos h]
theorem wIns_on {R W : List ByteArray} {i : Ins} {b : Int} (h1 : 1 ≤ i.kind) (h2 : i.kind ≤ 9) (hr : regsFit i = true) (hn : numFit i b = true) :
    wIns R W i b = if i.kind = 1 then noKey R i.key else if i.kind = 6 ∨ i.kind = 7 then noKey W i.key else if i.key.size = 0 then 0 else 2 := by
  unfold wIns; rw [if_neg (by omega), if_neg (by rw [hr, hn]; simp)]

end Go.Proofs.YtdnafpenljdinadDoor

namespace Go.Proofs.YtdnafpenljdinadDoor
open Go.RowKit

/-- Texts are no longer than a text may be. -/
def SmallT (l : List ByteArray) : Prop := ∀ x ∈ l, x.size ≤ maxLen

theorem ne_true {a b : Int} (h : a ≠ b) : (a != b) = true := by simp [h]
theorem ne_false {a b : Int} (h : a = b) : (a != b) = false := by simp [h]

end Go.Proofs.YtdnafpenljdinadDoor

namespace Go.Proofs.YtdnafpenljdinadDoor
open Go.RowKit

/-- What numbers' way to their texts and back meets. -/
structure GroundN (w : World) : Prop where
  syn : ∃ tp p, w.var? Tryd.prog "strconv.ErrSyntax" = some #[.iface tp p]
  rng : ∃ tp p, w.var? Tryd.prog "strconv.ErrRange" = some #[.iface tp p]
  tab : Lib.TabIs Tryd.prog w "internal/strconv.uint64pow10" .u64 Lib.pow10Tab
theorem var_below {P : Program} {w w' : World} {name : String} {cs : Array Value} (h : w.var? P name = some cs) (hb : Below w.heap.size w w') : w'.var? P name = some cs := by
  unfold World.var? at h ⊢
  cases hg : P.globalNamed name with
  | none => rw [hg] at h; cases h
  | some g =>
    rw [hg] at h
    simp only [Option.bind_some] at h ⊢
    have hlt : g < w.heap.size := by
      by_cases hl : g < w.heap.size
      · exact hl
      · rw [Array.getElem?_eq_none (by omega)] at h; cases h
    rw [hb.block g hlt]; exact h
theorem GroundN.below {w w' : World} (h : GroundN w) (hb : Below w.heap.size w w') : GroundN w' := by
  refine ⟨?_, ?_, ?_⟩
  · obtain ⟨t, p, hm⟩ := h.syn; exact ⟨t, p, var_below hm hb⟩
  · obtain ⟨t, p, hm⟩ := h.rng; exact ⟨t, p, var_below hm hb⟩
  · exact var_below h.tab hb
end Go.Proofs.YtdnafpenljdinadDoor

namespace Go.Proofs.YtdnafpenljdinadDoor
open Go.ChangeShapes Go.WideShapes Go.ChangeAt Go.RowKit

theorem gPow : Tryd.prog.globalNamed "internal/strconv.uint64pow10" = some 2 := by kernel_rfl
theorem tPow : (Tryd.prog.globals[2]?).map (·.type) = some 130 := by kernel_rfl
theorem gSyn : Tryd.prog.globalNamed "strconv.ErrSyntax" = some 0 := by kernel_rfl
theorem tSyn : (Tryd.prog.globals[0]?).map (·.type) = some 97 := by kernel_rfl
theorem gRng : Tryd.prog.globalNamed "strconv.ErrRange" = some 1 := by kernel_rfl
theorem tRng : (Tryd.prog.globals[1]?).map (·.type) = some 97 := by kernel_rfl
theorem cellsErr : Tryd.prog.cellsOf 128 = 1 := by kernel_rfl
theorem cellsStr1 : Tryd.prog.cellsOf 9 = 1 := by kernel_rfl
theorem starErr : "*" ++ "errors.errorString" = "*errors.errorString" := by decide
theorem rowErr (u : TypeId) (h : Tryd.prog.typeName? 3 u = some "*errors.errorString") : u = 126 :=
  typeName_ptr_named (nm := "errors.errorString") (by rw [starErr]; kernel_rfl) (by kernel_rfl) (by decide) u (by rw [starErr]; exact h)
theorem powData : (Rows.laid_internal_strconv_uint64pow10 : DataW Unit) = Lib.tabData .u64 Lib.pow10Tab := by kernel_rfl
def shapesZ : List T := [[], shapeT 1, shapeT 2, shapeT 3, shapeT 4, shapeT 5, shapeT 6, shapeT 7, shapeT 8, shapeT 9]
theorem shapesZ_at {k : Nat} (h : k < 10) : shapesZ[k]? = some (shapeT k) := by
  have : k = 0 ∨ k = 1 ∨ k = 2 ∨ k = 3 ∨ k = 4 ∨ k = 5 ∨ k = 6 ∨ k = 7 ∨ k = 8 ∨ k = 9 := by omega
  rcases this with rfl | rfl | rfl | rfl | rfl | rfl | rfl | rfl | rfl | rfl <;> rfl

/-- A statement that lists variables and leans on the world's shape, lifted. -/
theorem lift_shaped {H : Type} {enc : TypeId × Value → H} {a : Assume} {C : Checked} {os : Os} {f : FuncId} {fn : Func} {s : ChangeSpec} {conds : List PathCond} {apart fresh handsOn again : Bool} {X : World → Array Value → Prop}
    (hX : ∀ (w w' : World) (args : Array Value), w.heap = w'.heap → X w args → X w' args)
    (own : ownKnob C.prog.godebug = none) (started : os.Started) (noInit : C.prog.inits.idxOf? f = none) (hfn : C.prog.funcs[f]? = some fn)
    (witness : ∃ (w : World) (tape : Tape) (i : Input), w.os = os ∧ (w.forCall tape i).Shaped C.prog ∧ i.vars = [] ∧ Input.okWide C.prog (w.forCall tape i) .any w.heap.size f i ∧
      ((s.pre enc C.prog fn conds apart (w.forCall tape i).memory i.args ∧ X (w.forCall tape i).memory i.args) ∧ sizedMet enc C.prog fn (OpenSpec.ofChange s) apart (w.forCall tape i).memory i.args) ∧ a.holds C.prog (lone (Frame.enter C.prog f i.args .normal) [] (w.forCall tape i)))
    (contract : ∀ (W : World) (base : Nat) (args : Array Value) (ds gs : List (DataW H)) (before : List MemPlace),
      (∀ (j : Nat) t v, fn.params[j]? = some t → args[j]? = some v → Value.okWide C.prog W .any base t v) →
      DataW.Whole enc C.prog fn.params.toList s.vars apart W args.toList ds gs before →
      X W args → W.ShapedOpen C.prog →
      Calls C.prog f args W fun e W' => ∃ v, e = .returned v ∧ s.post enc C.prog fn apart fresh handsOn again W args v W') :
    ReturnsInHanded a C os f .any (fun w args => (s.pre enc C.prog fn conds apart w args ∧ X w args) ∧ sizedMet enc C.prog fn (OpenSpec.ofChange s) apart w args) (s.post enc C.prog fn apart fresh handsOn again) := by
  refine returnsInHanded_of_calls own started noInit witness ?_
  intro w tape i _ hsh _ hok hpre _
  obtain ⟨_, _, _, fn', hfn', _, _, _, _, hval⟩ := hok
  obtain rfl : fn' = fn := Option.some.inj (hfn'.symm.trans hfn)
  obtain ⟨⟨⟨ds, gs, before, hw, _⟩, hx⟩, _⟩ := hpre
  refine (contract (w.forCall tape i) w.heap.size i.args ds gs before hval (DataW.Whole.of_heap (w' := w.forCall tape i) (by rfl) hw) (hX _ _ _ (by rfl) hx) hsh).mono fun e W' ⟨v, he, hp⟩ => ?_
  subst he
  exact ChangeSpec.post_blind hp
end Go.Proofs.YtdnafpenljdinadDoor

namespace Go.Proofs.YtdnafpenljdinadDoor
open Go.ChangeShapes Go.WideShapes Go.ChangeAt Go.RowKit

theorem groundN_of {W : World} {x0 x1 : String × DataW Unit} (h : laidMet Tryd.prog [x0, x1, ("internal/strconv.uint64pow10", Rows.laid_internal_strconv_uint64pow10), ("strconv.ErrRange", Rows.laid_strconv_ErrRange), ("strconv.ErrSyntax", Rows.laid_strconv_ErrSyntax)] W) : GroundN W := by
  have h2 := h.tail.tail
  have h3 := h2.tail
  have h4 := h3.tail
  rw [powData] at h2
  refine ⟨?_, ?_, ?_⟩
  · obtain ⟨a0, s0, hv0, -, -, -⟩ := laid_sentinel h4 gSyn tSyn Tryd.underlying97 rowErr Tryd.underlying126 Tryd.underlying128 rfl rfl Tryd.underlying9 cellsErr cellsStr1
    exact ⟨_, _, hv0⟩
  · obtain ⟨a0, s0, hv0, -, -, -⟩ := laid_sentinel h3 gRng tRng Tryd.underlying97 rowErr Tryd.underlying126 Tryd.underlying128 rfl rfl Tryd.underlying9 cellsErr cellsStr1
    exact ⟨_, _, hv0⟩
  · exact Lib.tabIs_of_head gPow tPow Tryd.underlying130 Tryd.underlying112 (by kernel_rfl) (by kernel_rfl) h2
end Go.Proofs.YtdnafpenljdinadDoor

namespace Go.Proofs.YtdnafpenljdinadDoor
open Go.ChangeShapes Go.WideShapes Go.ChangeAt Go.RowKit Go.Deep

theorem own : ownKnob Tryd.prog.godebug = none := by kernel_rfl
theorem laidOut : laidOutB Tryd.prog = true := by kernel_rfl
theorem cellsPair : Tryd.prog.cellsOf 47 = 2 := by kernel_rfl
theorem bytesPair : Tryd.prog.bytesOf 47 = 24 := by kernel_rfl
theorem cellsStr : Tryd.prog.cellsOf 9 = 1 := by kernel_rfl
theorem cellsInt : Tryd.prog.cellsOf 3 = 1 := by kernel_rfl

theorem open_rows {H : Type} {enc : TypeId × Value → H} {W : World} {a : Option Addr} {len cap : Nat} {d : DataW H} {p : List MemPlace}
    (h : DataW.Trod enc Tryd.prog W 0 (fun _ => true) true 23 (.slice a len cap) d p) :
    ∃ l, Holds W a len cap l ∧ Small l ∧ (∀ x ∈ l, (Lit.int .i64 x.2).wf = true) ∧ ((d = .nil ∧ cap = 0) ∨ ∃ elems spare : List (DataW H), d = .slice elems spare ∧ elems.length + spare.length = cap) := by
  obtain ⟨fuel, hf⟩ := h
  rcases open_slice_pairs Tryd.underlying23 Tryd.underlying47 cellsPair rfl rfl cellsStr cellsInt hf with ⟨hcs, hx⟩ | ⟨x, l', c', m, n, V0, V1, D0, D1, P0, P1, hcs, _, hl, hm, hmm, hx, hcell⟩
  · simp [Value.cells] at hcs
    obtain ⟨rfl, rfl, rfl⟩ := hcs
    simp only [Prod.mk.injEq] at hx
    exact ⟨[], Holds.empty W rfl rfl ⟨Nat.le_refl _, Nat.zero_le _, fun _ => rfl⟩, fun _ h => by simp at h, fun _ h => by simp at h, .inl ⟨hx.1, rfl⟩⟩
  · simp [Value.cells] at hcs
    obtain ⟨rfl, rfl, rfl⟩ := hcs
    simp only [if_true] at hmm
    subst hmm
    simp only [Prod.mk.injEq] at hx
    have hd : (d = .nil ∧ m = 0) ∨ ∃ elems spare : List (DataW H), d = .slice elems spare ∧ elems.length + spare.length = m := .inr ⟨_, _, hx.1, by simp; omega⟩
    have each : ∀ i, i < len → ∃ q : Row, W.cell? (x.add (i * 2)) = some (.string q.1) ∧ W.cell? (x.add (i * 2 + 1)) = some (.int .i64 q.2) ∧ q.1.size ≤ maxLen ∧ (Lit.int .i64 q.2).wf = true := by
      intro i hi
      obtain ⟨h1, h2, h3, h4⟩ := hcell i (by omega)
      obtain ⟨s, hs, _, hz⟩ := DataW.trod_string Tryd.underlying9 h3
      obtain ⟨v, hv, _, hw⟩ := DataW.trod_int Tryd.underlying3 h4
      simp at hs hv
      exact ⟨(s, v), by rw [h1, hs], by rw [h2, hv], hz, hw⟩
    obtain ⟨q, hq⟩ := choose_lt each
    have hln : ((List.range len).map q).length = len := by simp
    have hget : ∀ i, i < len → ((List.range len).map q).getD i default = q i := fun i hi => by simp [List.getD, hi]
    refine ⟨(List.range len).map q, ?_, ?_, ?_, hd⟩
    · by_cases h0 : len = 0
      · exact Holds.empty W hln.symm h0 ⟨hl, hm, fun h => by cases h⟩
      · obtain ⟨b, off, spot⟩ := x
        have hsp : spot = none := by simpa [Addr.add] using World.cell?_spot (hq 0 (by omega)).1
        subst hsp
        refine Holds.cells hln.symm (fun i hi => ?_) hl hm
        rw [hln] at hi
        rw [hget i hi]
        have h1 := (hq i hi).1
        have h2 := (hq i hi).2.1
        rw [Addr.add_lit] at h1 h2
        exact ⟨h1, by rw [Nat.add_assoc]; exact h2⟩
    · intro y hy
      obtain ⟨i, hi, rfl⟩ := List.mem_map.1 hy
      exact (hq i (by simpa using hi)).2.2.1
    · intro y hy
      obtain ⟨i, hi, rfl⟩ := List.mem_map.1 hy
      exact (hq i (by simpa using hi)).2.2.2

/-- The reach of the form bounds the rows that are read. -/
theorem rows_reach {H : Type} {ts : List TypeId} {ds : List (DataW H)} {d : DataW H} {cap len : Nat} (hsz : (DataW.weightsEach Tryd.prog ts ds).all (· ≤ reachBytes) = true) {j : Nat} (ht : ts[j]? = some 23) (hdj : ds[j]? = some d)
    (hd : (d = .nil ∧ cap = 0) ∨ ∃ elems spare : List (DataW H), d = .slice elems spare ∧ elems.length + spare.length = cap) (hl : len ≤ cap) : (len + 2) * 24 ≤ 140737488355328 := by
  rcases hd with ⟨_, rfl⟩ | ⟨elems, spare, rfl, hc⟩
  · omega
  · have := sized_slice hsz ht hdj Tryd.underlying23
    rw [bytesPair, hc] at this
    simp only [reachBytes] at this
    omega
end Go.Proofs.YtdnafpenljdinadDoor

namespace Go.Proofs.YtdnafpenljdinadDoor
open Go.ChangeShapes Go.WideShapes Go.ChangeAt Go.RowKit Go.Deep Go.Joins

theorem cellsDeed : Tryd.prog.cellsOf 51 = 3 := by kernel_rfl
theorem cellsInstr : Tryd.prog.cellsOf 87 = 5 := by kernel_rfl

/-- How a datum tells the room of a slice. -/
def Room {H : Type} (d : DataW H) (cap : Nat) : Prop := (d = .nil ∧ cap = 0) ∨ ∃ elems spare : List (DataW H), d = .slice elems spare ∧ elems.length + spare.length = cap

theorem open_texts {H : Type} {enc : TypeId × Value → H} {W : World} {v : Value} {fuel : Nat} {y : DataW H × List MemPlace}
    (h : DataW.trod enc Tryd.prog W 0 (fun _ => true) true fuel 48 [v] = some y) :
    ∃ a len cap l, v = .slice a len cap ∧ Texts W a len cap l ∧ SmallT l ∧ Room y.1 cap := by
  rcases open_strings Tryd.underlying48 Tryd.underlying9 cellsStr h with ⟨hcs, hx⟩ | ⟨x, len, cap, ss, hcs, _, hl, hm, hss, hx, hcell, hsm⟩
  · simp at hcs
    subst hcs
    rw [hx]
    exact ⟨none, 0, 0, [], rfl, Lies.none _ _, (fun _ h => by cases h), .inl ⟨rfl, rfl⟩⟩
  · simp at hcs
    subst hcs
    simp only [if_true] at hss
    refine ⟨some x, len, cap, ss.take len, rfl, ?_, fun s hs => hsm s (List.mem_of_mem_take hs), ?_⟩
    · refine ⟨by rw [strs_length, List.length_take]; omega, ⟨hl, hm, fun h => by cases h⟩, ?_⟩
      by_cases h0 : len = 0
      · exact .inl h0
      · right
        obtain ⟨b, off, spot⟩ := x
        have hsp : spot = none := by simpa [Addr.add] using World.cell?_spot (hcell 0 (by omega))
        subst hsp
        refine ⟨b, off, rfl, fun j u hu => ?_⟩
        have hj : j < len := by
          have := (List.getElem?_eq_some_iff.1 hu).1
          rw [strs_length, List.length_take] at this; omega
        have h1 := hcell j (by omega)
        rw [Addr.add_lit] at h1
        rw [h1]
        have : (strs (ss.take len))[j]? = some (.string (ss.getD j ByteArray.empty)) := by
          simp [strs, hj, List.getD, show j < ss.length by omega]
        rw [this] at hu
        exact hu
    · rw [hx]
      refine .inr ⟨_, _, rfl, ?_⟩
      simp [Go.ChangeShapes.strs]; omega

set_option maxRecDepth 100000 in
theorem open_codes {H : Type} {enc : TypeId × Value → H} {W : World} {v : Value} {fuel : Nat} {y : DataW H × List MemPlace}
    (h : DataW.trod enc Tryd.prog W 0 (fun _ => true) true fuel 49 [v] = some y) :
    ∃ a len cap l, v = .slice a len cap ∧ Codes W a len cap l ∧ Room y.1 cap := by
  rcases open_slice Tryd.underlying49 h with ⟨hcs, hx⟩ | ⟨x, len, cap, m, n, D, Pl, hcs, _, hl, hm, hmm, hx, hcell⟩
  · simp at hcs
    subst hcs
    rw [hx]
    exact ⟨none, 0, 0, [], rfl, Lies.none _ _, .inl ⟨rfl, rfl⟩⟩
  · simp at hcs
    subst hcs
    simp only [if_true] at hmm
    subst hmm
    have hroom : Room y.1 m := by rw [hx]; exact .inr ⟨_, _, rfl, by simp; omega⟩
    have each : ∀ i, i < len → ∃ q : Ins, W.cell? (x.add (i * 5)) = some (.int .i64 q.kind) ∧ W.cell? (x.add (i * 5 + 1)) = some (.int .i64 q.a) ∧ W.cell? (x.add (i * 5 + 2)) = some (.int .i64 q.b) ∧ W.cell? (x.add (i * 5 + 3)) = some (.int .i64 q.n) ∧ W.cell? (x.add (i * 5 + 4)) = some (.string q.key) := by
      intro i hi
      obtain ⟨cs', h1, h2⟩ := hcell i (by omega)
      rw [cellsInstr] at h1
      obtain ⟨_, hlen, hc⟩ := World.cells?_some h1
      obtain ⟨xs, k, _, _, _, hxl, hf⟩ := DataW.trod_struct Tryd.underlying87 h2
      match cs', hlen, xs, hxl with
      | [v0, v1, v2, v3, v4], _, [y0, y1, y2, y3, y4], _ =>
        have g0 := hf 0 _ rfl
        have g1 := hf 1 _ rfl
        have g2 := hf 2 _ rfl
        have g3 := hf 3 _ rfl
        have g4 := hf 4 _ rfl
        simp [cellsInt, cellsStr] at g0 g1 g2 g3 g4
        have e0 := hc 0 (by omega)
        have e1 := hc 1 (by omega)
        have e2 := hc 2 (by omega)
        have e3 := hc 3 (by omega)
        have e4 := hc 4 (by omega)
        rw [add_add] at e0 e1 e2 e3 e4
        obtain ⟨q0, hq0, _, _⟩ := DataW.trod_int Tryd.underlying3 g0
        obtain ⟨q1, hq1, _, _⟩ := DataW.trod_int Tryd.underlying3 g1
        obtain ⟨q2, hq2, _, _⟩ := DataW.trod_int Tryd.underlying3 g2
        obtain ⟨q3, hq3, _, _⟩ := DataW.trod_int Tryd.underlying3 g3
        obtain ⟨q4, hq4, _, _⟩ := DataW.trod_string Tryd.underlying9 g4
        simp at hq0 hq1 hq2 hq3 hq4
        subst hq0 hq1 hq2 hq3 hq4
        exact ⟨(q0, q1, q2, q3, q4), by simpa using e0, by simpa using e1, by simpa using e2, by simpa using e3, by simpa using e4⟩
    obtain ⟨q, hq⟩ := choose_lt each
    have hget : ∀ i, i < len → ((List.range len).map q).getD i default = q i := fun i hi => by simp [List.getD, hi]
    refine ⟨some x, len, m, (List.range len).map q, rfl, ?_, hroom⟩
    refine ⟨by rw [insCells_length]; simp, ⟨hl, hm, fun h => by cases h⟩, ?_⟩
    by_cases h0 : len = 0
    · exact .inl h0
    right
    obtain ⟨b, off, spot⟩ := x
    have hsp : spot = none := by simpa [Addr.add] using World.cell?_spot (hq 0 (by omega)).1
    subst hsp
    refine ⟨b, off, rfl, fun j u hu => ?_⟩
    have hj : j < len * 5 := by
      have := (List.getElem?_eq_some_iff.1 hu).1
      rw [insCells_length] at this; simpa using this
    have hjl : j / 5 < len := by omega
    have hat := insCells_at ((List.range len).map q) (j / 5) (by simpa using hjl) (j % 5)
    rw [hget _ hjl, show j / 5 * 5 + j % 5 = j from by omega] at hat
    obtain ⟨r0, r1, r2, r3, r4⟩ := hq _ hjl
    rw [Addr.add_lit] at r0 r1 r2 r3 r4
    have hm5 : j % 5 = 0 ∨ j % 5 = 1 ∨ j % 5 = 2 ∨ j % 5 = 3 ∨ j % 5 = 4 := by omega
    rcases hm5 with e | e | e | e | e <;> rw [e] at hat
    · have h2 := hat _ rfl
      rw [hu] at h2
      rw [show off + j = off + j / 5 * 5 from by omega, r0]; exact h2.symm
    · have h2 := hat _ rfl
      rw [hu] at h2
      rw [show off + j = off + (j / 5 * 5 + 1) from by omega, r1]; exact h2.symm
    · have h2 := hat _ rfl
      rw [hu] at h2
      rw [show off + j = off + (j / 5 * 5 + 2) from by omega, r2]; exact h2.symm
    · have h2 := hat _ rfl
      rw [hu] at h2
      rw [show off + j = off + (j / 5 * 5 + 3) from by omega, r3]; exact h2.symm
    · have h2 := hat _ rfl
      rw [hu] at h2
      rw [show off + j = off + (j / 5 * 5 + 4) from by omega, r4]; exact h2.symm

set_option maxRecDepth 100000 in
/-- A deed that is read. -/
theorem open_deed {H : Type} {enc : TypeId × Value → H} {W : World} {r : Reach} {b0 : Nat} {v : Value} {d : DataW H} {p : List MemPlace}
    (hv : Value.okWide Tryd.prog W r b0 51 v) (h : DataW.Trod enc Tryd.prog W 0 (fun _ => true) true 51 v d p) :
    ∃ rb rn rc wb wn wc cb cn cc R Wr C, v = .agg #[.slice rb rn rc, .slice wb wn wc, .slice cb cn cc] ∧ DeedIn W rb rn rc wb wn wc cb cn cc R Wr C ∧ SmallT R ∧ SmallT Wr ∧
      ∃ d0 d1 d2 : DataW H, d = .agg [d0, d1, d2] ∧ Room d0 rc ∧ Room d1 wc ∧ Room d2 cc := by
  obtain ⟨v0, v1, v2, y0, y1, y2, n, rfl, rfl, rfl, h0, h1, h2⟩ := open_agg3 Tryd.underlying51 (by kernel_rfl) cellsDeed hv h
  obtain ⟨rb, rn, rc, R, rfl, t0, s0, m0⟩ := open_texts h0
  obtain ⟨wb, wn, wc, Wr, rfl, t1, s1, m1⟩ := open_texts h1
  obtain ⟨cb, cn, cc, C, rfl, t2, m2⟩ := open_codes h2
  exact ⟨rb, rn, rc, wb, wn, wc, cb, cn, cc, R, Wr, C, rfl, ⟨t0, t1, t2⟩, s0, s1, _, _, _, rfl, m0, m1, m2⟩
end Go.Proofs.YtdnafpenljdinadDoor
