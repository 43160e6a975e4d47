/-
  What the program finds wrong with a deed as a whole.
  What the package-level variables hold that a deed's way to its text and back meets, and that whatever leaves old memory alone leaves them so.
  What a statement's list of package-level variables says of them is what the walks ask; and how a statement is lifted that lists variables and leans on the world's shape.
  What a statement's list of package-level variables says of those that numbers' texts meet.
  How an argument that is rows is read: some list of rows lies there, within the reach of the form.
  How an argument that is a deed is read: its three slices lie there.
  Plain mathematics of the document's own Get and Put: what they come to row by row, of rows that rise.
  Plain mathematics of doing a deed on rows: the rows then are those in which keys have what the deed made, and else what they had.
-/
import Derived.Test.YtagangiilcicpaeGreatDoorDeedInstr
import Derived.Test.YtagangiilcicpaeGreatDoorLies
import Derived.Lib.LaidTab
import Derived.Lib.ItoaMem
import Derived.Test.YtagangiilcicpaeGreatDoorRows
import Derived.ProofKit
import Derived.OpenShut
import Derived.LaidMore
import Derived.Lay
import Derived.Stop.Joined
import Derived.Stop.LaidErr
import Derived.Shelf.Vars
import Derived.Handed
import Derived.Deep.SlicePairs
import Derived.SizedLaws
import Derived.Carry
import Derived.SliceStrings
import Derived.Lib.SmallJoins
import Derived.Test.YtagangiilcicpaeGreatDoorDeedMath
namespace Go.Proofs.YtagangiilcicpaeGreatDoor
open Go.RowKit

/-- Texts are no longer than a text may be. -/
def SmallT (l : List ByteArray) : Prop := ∀ x ∈ l, x.size ≤ maxLen

theorem ne_true {a b : Int} (h : a ≠ b) : (a != b) = true := by simp [h]
set_option maxHeartbeats 2000000 in
theorem wrongDeed_calls (R W : List ByteArray) (C : List Ins) (rb : Option Addr) (rn rc : Nat) (wb : Option Addr) (wn wc : Nat) (cb : Option Addr) (cn cc : Nat) (w : World) (hd : DeedIn w rb rn rc wb wn wc cb cn cc R W C) (hr : SmallT R) (hw : SmallT W) :
    Calls Tryz.prog 33 #[.agg #[.slice rb rn rc, .slice wb wn wc, .slice cb cn cc]] w fun e w' => e = .returned (.int .i64 (wDeed R W C)) ∧ Below w.heap.size w w' := by
  obtain ⟨A, hA⟩ : ∃ A, A = w.alloc (.cells #[.slice rb rn rc, .slice wb wn wc, .slice cb cn cc] 59) := ⟨_, rfl⟩
  have hb0 : Below w.heap.size w A := by rw [hA]; exact (Below.refl _ _).alloc (Nat.le_refl _) _
  have hdA := hd.below hb0
  have HR := hid (wrongKeys_calls R rb rn rc A hr hdA.tr)
  have HW := hid (wrongKeys_calls W wb wn wc A hw hdA.tw)
  have hn := Codes.count hd.cd
  have hcm := Nat.le_trans hd.cd.hdr.le hd.cd.hdr.max
  unfold maxLen at hcm
  have HQ : Hid (wDeed R W C = if wKeys R ≠ 0 then wKeys R else if wKeys W ≠ 0 then wKeys W else if 12 < C.length then 5 else wCode R W C C.length) := rfl
  generalize wDeed R W C = q at *
  generalize wKeys R = kr at *
  generalize wKeys W = kw at *
  have HN := hid hn
  have HD := hid hdA
  have HB0 := hid hb0
  clear hd hdA hn hr hw hb0
  by_cases h1 : kr ≠ 0
  · have HE : Hid (q = kr) := by show _ = _; rw [HQ.out, if_pos h1]
    have t1 := ne_true h1
    clear h1 HQ
    subst hA
    go_enter Tryz.func33, Tryz.ntmps33
    go_wp2_with fail
    refine HR.out.mono ?_
    rintro e w1 ⟨rfl, rfl⟩
    go_wp2
    go_ret
    exact ⟨ret_int HE.out.symm, HB0.out⟩
  have h1' : kr = 0 := by simpa using h1
  subst h1'
  by_cases h2 : kw ≠ 0
  · have HE : Hid (q = kw) := by show _ = _; rw [HQ.out, if_neg h1, if_pos h2]
    have t1 := ne_true h2
    clear h1 h2 HQ
    subst hA
    go_enter Tryz.func33, Tryz.ntmps33
    go_wp2_with fail
    refine HR.out.mono ?_
    rintro e w1 ⟨rfl, rfl⟩
    go_wp2_with fail
    refine HW.out.mono ?_
    rintro e w1 ⟨rfl, rfl⟩
    go_wp2
    go_ret
    exact ⟨ret_int HE.out.symm, HB0.out⟩
  have h2' : kw = 0 := by simpa using h2
  subst h2'
  by_cases h3 : 12 < cn
  · have HE : Hid (q = 5) := by show _ = _; rw [HQ.out, if_neg h1, if_neg h2, if_pos (by rw [← HN.out]; exact h3)]
    clear h1 h2 HQ
    subst hA
    go_enter Tryz.func33, Tryz.ntmps33
    go_wp2_with fail
    refine HR.out.mono ?_
    rintro e w1 ⟨rfl, rfl⟩
    go_wp2_with fail
    refine HW.out.mono ?_
    rintro e w1 ⟨rfl, rfl⟩
    go_wp2
    go_ret
    exact ⟨ret_int HE.out.symm, HB0.out⟩
  have HE : Hid (q = wCode R W C C.length) := by show _ = _; rw [HQ.out, if_neg h1, if_neg h2, if_neg (by rw [← HN.out]; exact h3)]
  clear h1 h2 HQ
  have z0 : A.cell? ⟨w.heap.size, 0, none⟩ = some (.slice rb rn rc) := by rw [hA]; exact box_cell _ _ _ _ _ rfl
  have z1 : A.cell? ⟨w.heap.size, 1, none⟩ = some (.slice wb wn wc) := by rw [hA]; exact box_cell _ _ _ _ _ rfl
  have z2 : A.cell? ⟨w.heap.size, 2, none⟩ = some (.slice cb cn cc) := by rw [hA]; exact box_cell _ _ _ _ _ rfl
  have HZ := hid (And.intro z0 (And.intro z1 z2))
  clear z0 z1 z2
  subst hA
  go_enter Tryz.func33, Tryz.ntmps33
  go_wp2_with fail
  refine HR.out.mono ?_
  rintro e w1 ⟨rfl, rfl⟩
  go_wp2_with fail
  refine HW.out.mono ?_
  rintro e w1 ⟨rfl, rfl⟩
  go_wp2_with fail
  go_loopw [26] (fun i wr => ∃ k : Nat, k ≤ cn ∧ i = .int .i64 k ∧ Hid (wCode R W C k = 0) ∧ Hid (Below (w.alloc (.cells #[.slice rb rn rc, .slice wb wn wc, .slice cb cn cc] 59)).heap.size (w.alloc (.cells #[.slice rb rn rc, .slice wb wn wc, .slice cb cn cc] 59)) wr)) (fun i _ => cn - (intOf i).toNat)
  case atStart => exact ⟨0, Nat.zero_le _, rfl, rfl, Below.refl _ _⟩
  case round =>
    obtain ⟨k, hk, rfl, HC, HB⟩ := hrel
    by_cases hlt : k < cn
    · have hkl : k < C.length := by rw [← HN.out]; exact hlt
      have hi : (k : Int) < (cn : Int) := by omega
      have HI := hid (wrongInstr_calls R W C rb rn rc wb wn wc cb cn cc k wr (HD.out.below HB.out) hkl)
      have z0 := kept_cell HB.out HZ.out.1
      have z1 := kept_cell HB.out HZ.out.2.1
      have z2 := kept_cell HB.out HZ.out.2.2
      have HX := hid (wCode_at hkl HC.out)
      have HY := hid (wCode_step (R := R) (W := W) (C := C) HC.out)
      rw [← HE.out] at HX
      generalize wIns R W (C.getD k default) ((C.length : Int) - 1 - k) = x at *
      by_cases hx : x = 0
      · subst hx
        go_wp2_with fail
        refine HI.out.mono ?_
        rintro e w2 ⟨rfl, hb2⟩
        go_wp2
        go_roundw
        case rel => exact ⟨k + 1, by omega, by go_num, HY.out (by simp), below_deep HB.out hb2⟩
        case measure => simp [intOf]; omega
      · have t1 := ne_true hx
        have HXX := hid (HX.out hx)
        clear hx
        go_wp2_with fail
        refine HI.out.mono ?_
        rintro e w2 ⟨rfl, hb2⟩
        go_wp2
        go_ret
        exact ⟨ret_int HXX.out.symm, below_deep HB0.out (below_deep HB.out hb2)⟩
    · obtain rfl : k = cn := by omega
      go_wp2
      go_ret
      exact ⟨ret_int (by rw [HE.out, ← HN.out, HC.out]), below_deep HB0.out HB.out⟩
end Go.Proofs.YtagangiilcicpaeGreatDoor

namespace Go.Proofs.YtagangiilcicpaeGreatDoor
open Go.RowKit

/-- What numbers' way to their texts and back meets. -/
structure GroundN (w : World) : Prop where
  syn : ∃ tp p, w.var? Tryz.prog "strconv.ErrSyntax" = some #[.iface tp p]
  rng : ∃ tp p, w.var? Tryz.prog "strconv.ErrRange" = some #[.iface tp p]
  tab : Lib.TabIs Tryz.prog w "internal/strconv.uint64pow10" .u64 Lib.pow10Tab
theorem var_below {P : Program} {w w' : World} {name : String} {cs : Array Value} (h : w.var? P name = some cs) (hb : Below w.heap.size w w') : w'.var? P name = some cs := by
  unfold World.var? at h ⊢
  cases hg : P.globalNamed name with
  | none => rw [hg] at h; cases h
  | some g =>
    rw [hg] at h
    simp only [Option.bind_some] at h ⊢
    have hlt : g < w.heap.size := by
      by_cases hl : g < w.heap.size
      · exact hl
      · rw [Array.getElem?_eq_none (by omega)] at h; cases h
    rw [hb.block g hlt]; exact h
theorem GroundN.below {w w' : World} (h : GroundN w) (hb : Below w.heap.size w w') : GroundN w' := by
  refine ⟨?_, ?_, ?_⟩
  · obtain ⟨t, p, hm⟩ := h.syn; exact ⟨t, p, var_below hm hb⟩
  · obtain ⟨t, p, hm⟩ := h.rng; exact ⟨t, p, var_below hm hb⟩
  · exact var_below h.tab hb
end Go.Proofs.YtagangiilcicpaeGreatDoor

namespace Go.Proofs.YtagangiilcicpaeGreatDoor
open Go.ChangeShapes Go.WideShapes Go.ChangeAt Go.RowKit

theorem gPow : Tryz.prog.globalNamed "internal/strconv.uint64pow10" = some 4 := by kernel_rfl
theorem tPow : (Tryz.prog.globals[4]?).map (·.type) = some 227 := by kernel_rfl
theorem gSyn : Tryz.prog.globalNamed "strconv.ErrSyntax" = some 2 := by kernel_rfl
theorem tSyn : (Tryz.prog.globals[2]?).map (·.type) = some 143 := by kernel_rfl
theorem gRng : Tryz.prog.globalNamed "strconv.ErrRange" = some 3 := by kernel_rfl
theorem tRng : (Tryz.prog.globals[3]?).map (·.type) = some 143 := by kernel_rfl
theorem cellsErr : Tryz.prog.cellsOf 242 = 1 := by kernel_rfl
theorem cellsStr1 : Tryz.prog.cellsOf 9 = 1 := by kernel_rfl
theorem starErr : "*" ++ "errors.errorString" = "*errors.errorString" := by decide
theorem rowErr (u : TypeId) (h : Tryz.prog.typeName? 3 u = some "*errors.errorString") : u = 240 :=
  typeName_ptr_named (nm := "errors.errorString") (by rw [starErr]; kernel_rfl) (by kernel_rfl) (by decide) u (by rw [starErr]; exact h)
theorem powData : (Rows.laid_internal_strconv_uint64pow10 : DataW Unit) = Lib.tabData .u64 Lib.pow10Tab := by kernel_rfl
/-- A statement that lists variables and leans on the world's shape, lifted. -/
theorem lift_shaped {H : Type} {enc : TypeId × Value → H} {a : Assume} {C : Checked} {os : Os} {f : FuncId} {fn : Func} {s : ChangeSpec} {conds : List PathCond} {apart fresh handsOn again : Bool} {X : World → Array Value → Prop}
    (hX : ∀ (w w' : World) (args : Array Value), w.heap = w'.heap → X w args → X w' args)
    (own : ownKnob C.prog.godebug = none) (started : os.Started) (noInit : C.prog.inits.idxOf? f = none) (hfn : C.prog.funcs[f]? = some fn)
    (witness : ∃ (w : World) (tape : Tape) (i : Input), w.os = os ∧ (w.forCall tape i).Shaped C.prog ∧ i.vars = [] ∧ Input.okWide C.prog (w.forCall tape i) .any w.heap.size f i ∧
      ((s.pre enc C.prog fn conds apart (w.forCall tape i).memory i.args ∧ X (w.forCall tape i).memory i.args) ∧ sizedMet enc C.prog fn (OpenSpec.ofChange s) apart (w.forCall tape i).memory i.args) ∧ a.holds C.prog (lone (Frame.enter C.prog f i.args .normal) [] (w.forCall tape i)))
    (contract : ∀ (W : World) (base : Nat) (args : Array Value) (ds gs : List (DataW H)) (before : List MemPlace),
      (∀ (j : Nat) t v, fn.params[j]? = some t → args[j]? = some v → Value.okWide C.prog W .any base t v) →
      DataW.Whole enc C.prog fn.params.toList s.vars apart W args.toList ds gs before →
      X W args → W.ShapedOpen C.prog →
      Calls C.prog f args W fun e W' => ∃ v, e = .returned v ∧ s.post enc C.prog fn apart fresh handsOn again W args v W') :
    ReturnsInHanded a C os f .any (fun w args => (s.pre enc C.prog fn conds apart w args ∧ X w args) ∧ sizedMet enc C.prog fn (OpenSpec.ofChange s) apart w args) (s.post enc C.prog fn apart fresh handsOn again) := by
  refine returnsInHanded_of_calls own started noInit witness ?_
  intro w tape i _ hsh _ hok hpre _
  obtain ⟨_, _, _, fn', hfn', _, _, _, _, hval⟩ := hok
  obtain rfl : fn' = fn := Option.some.inj (hfn'.symm.trans hfn)
  obtain ⟨⟨⟨ds, gs, before, hw, _⟩, hx⟩, _⟩ := hpre
  refine (contract (w.forCall tape i) w.heap.size i.args ds gs before hval (DataW.Whole.of_heap (w' := w.forCall tape i) (by rfl) hw) (hX _ _ _ (by rfl) hx) hsh).mono fun e W' ⟨v, he, hp⟩ => ?_
  subst he
  exact ChangeSpec.post_blind hp
end Go.Proofs.YtagangiilcicpaeGreatDoor

namespace Go.Proofs.YtagangiilcicpaeGreatDoor
open Go.ChangeShapes Go.WideShapes Go.ChangeAt Go.RowKit

theorem groundN_of {W : World} {x0 x1 : String × DataW Unit} (h : laidMet Tryz.prog [x0, x1, ("internal/strconv.uint64pow10", Rows.laid_internal_strconv_uint64pow10), ("strconv.ErrRange", Rows.laid_strconv_ErrRange), ("strconv.ErrSyntax", Rows.laid_strconv_ErrSyntax)] W) : GroundN W := by
  have h2 := h.tail.tail
  have h3 := h2.tail
  have h4 := h3.tail
  rw [powData] at h2
  refine ⟨?_, ?_, ?_⟩
  · obtain ⟨a0, s0, hv0, -, -, -⟩ := laid_sentinel h4 gSyn tSyn Tryz.underlying143 rowErr Tryz.underlying240 Tryz.underlying242 rfl rfl Tryz.underlying9 cellsErr cellsStr1
    exact ⟨_, _, hv0⟩
  · obtain ⟨a0, s0, hv0, -, -, -⟩ := laid_sentinel h3 gRng tRng Tryz.underlying143 rowErr Tryz.underlying240 Tryz.underlying242 rfl rfl Tryz.underlying9 cellsErr cellsStr1
    exact ⟨_, _, hv0⟩
  · exact Lib.tabIs_of_head gPow tPow Tryz.underlying227 Tryz.underlying210 (by kernel_rfl) (by kernel_rfl) h2
end Go.Proofs.YtagangiilcicpaeGreatDoor

namespace Go.Proofs.YtagangiilcicpaeGreatDoor
open Go.ChangeShapes Go.WideShapes Go.ChangeAt Go.RowKit Go.Deep

theorem own : ownKnob Tryz.prog.godebug = none := by kernel_rfl
theorem laidOut : laidOutB Tryz.prog = true := by kernel_rfl
theorem cellsStr : Tryz.prog.cellsOf 9 = 1 := by kernel_rfl
theorem cellsInt : Tryz.prog.cellsOf 3 = 1 := by kernel_rfl

end Go.Proofs.YtagangiilcicpaeGreatDoor

namespace Go.Proofs.YtagangiilcicpaeGreatDoor
open Go.ChangeShapes Go.WideShapes Go.ChangeAt Go.RowKit Go.Deep Go.Joins

theorem cellsDeed : Tryz.prog.cellsOf 59 = 3 := by kernel_rfl
theorem cellsInstr : Tryz.prog.cellsOf 91 = 5 := by kernel_rfl

/-- How a datum tells the room of a slice. -/
def Room {H : Type} (d : DataW H) (cap : Nat) : Prop := (d = .nil ∧ cap = 0) ∨ ∃ elems spare : List (DataW H), d = .slice elems spare ∧ elems.length + spare.length = cap

theorem open_texts {H : Type} {enc : TypeId × Value → H} {W : World} {v : Value} {fuel : Nat} {y : DataW H × List MemPlace}
    (h : DataW.trod enc Tryz.prog W 0 (fun _ => true) true fuel 56 [v] = some y) :
    ∃ a len cap l, v = .slice a len cap ∧ Texts W a len cap l ∧ SmallT l ∧ Room y.1 cap := by
  rcases open_strings Tryz.underlying56 Tryz.underlying9 cellsStr h with ⟨hcs, hx⟩ | ⟨x, len, cap, ss, hcs, _, hl, hm, hss, hx, hcell, hsm⟩
  · simp at hcs
    subst hcs
    rw [hx]
    exact ⟨none, 0, 0, [], rfl, Lies.none _ _, (fun _ h => by cases h), .inl ⟨rfl, rfl⟩⟩
  · simp at hcs
    subst hcs
    simp only [if_true] at hss
    refine ⟨some x, len, cap, ss.take len, rfl, ?_, fun s hs => hsm s (List.mem_of_mem_take hs), ?_⟩
    · refine ⟨by rw [strs_length, List.length_take]; omega, ⟨hl, hm, fun h => by cases h⟩, ?_⟩
      by_cases h0 : len = 0
      · exact .inl h0
      · right
        obtain ⟨b, off, spot⟩ := x
        have hsp : spot = none := by simpa [Addr.add] using World.cell?_spot (hcell 0 (by omega))
        subst hsp
        refine ⟨b, off, rfl, fun j u hu => ?_⟩
        have hj : j < len := by
          have := (List.getElem?_eq_some_iff.1 hu).1
          rw [strs_length, List.length_take] at this; omega
        have h1 := hcell j (by omega)
        rw [Addr.add_lit] at h1
        rw [h1]
        have : (strs (ss.take len))[j]? = some (.string (ss.getD j ByteArray.empty)) := by
          simp [strs, hj, List.getD, show j < ss.length by omega]
        rw [this] at hu
        exact hu
    · rw [hx]
      refine .inr ⟨_, _, rfl, ?_⟩
      simp [Go.ChangeShapes.strs]; omega

set_option maxRecDepth 100000 in
theorem open_codes {H : Type} {enc : TypeId × Value → H} {W : World} {v : Value} {fuel : Nat} {y : DataW H × List MemPlace}
    (h : DataW.trod enc Tryz.prog W 0 (fun _ => true) true fuel 57 [v] = some y) :
    ∃ a len cap l, v = .slice a len cap ∧ Codes W a len cap l ∧ Room y.1 cap := by
  rcases open_slice Tryz.underlying57 h with ⟨hcs, hx⟩ | ⟨x, len, cap, m, n, D, Pl, hcs, _, hl, hm, hmm, hx, hcell⟩
  · simp at hcs
    subst hcs
    rw [hx]
    exact ⟨none, 0, 0, [], rfl, Lies.none _ _, .inl ⟨rfl, rfl⟩⟩
  · simp at hcs
    subst hcs
    simp only [if_true] at hmm
    subst hmm
    have hroom : Room y.1 m := by rw [hx]; exact .inr ⟨_, _, rfl, by simp; omega⟩
    have each : ∀ i, i < len → ∃ q : Ins, W.cell? (x.add (i * 5)) = some (.int .i64 q.kind) ∧ W.cell? (x.add (i * 5 + 1)) = some (.int .i64 q.a) ∧ W.cell? (x.add (i * 5 + 2)) = some (.int .i64 q.b) ∧ W.cell? (x.add (i * 5 + 3)) = some (.int .i64 q.n) ∧ W.cell? (x.add (i * 5 + 4)) = some (.string q.key) := by
      intro i hi
      obtain ⟨cs', h1, h2⟩ := hcell i (by omega)
      rw [cellsInstr] at h1
      obtain ⟨_, hlen, hc⟩ := World.cells?_some h1
      obtain ⟨xs, k, _, _, _, hxl, hf⟩ := DataW.trod_struct Tryz.underlying91 h2
      match cs', hlen, xs, hxl with
      | [v0, v1, v2, v3, v4], _, [y0, y1, y2, y3, y4], _ =>
        have g0 := hf 0 _ rfl
        have g1 := hf 1 _ rfl
        have g2 := hf 2 _ rfl
        have g3 := hf 3 _ rfl
        have g4 := hf 4 _ rfl
        simp [cellsInt, cellsStr] at g0 g1 g2 g3 g4
        have e0 := hc 0 (by omega)
        have e1 := hc 1 (by omega)
        have e2 := hc 2 (by omega)
        have e3 := hc 3 (by omega)
        have e4 := hc 4 (by omega)
        rw [add_add] at e0 e1 e2 e3 e4
        obtain ⟨q0, hq0, _, _⟩ := DataW.trod_int Tryz.underlying3 g0
        obtain ⟨q1, hq1, _, _⟩ := DataW.trod_int Tryz.underlying3 g1
        obtain ⟨q2, hq2, _, _⟩ := DataW.trod_int Tryz.underlying3 g2
        obtain ⟨q3, hq3, _, _⟩ := DataW.trod_int Tryz.underlying3 g3
        obtain ⟨q4, hq4, _, _⟩ := DataW.trod_string Tryz.underlying9 g4
        simp at hq0 hq1 hq2 hq3 hq4
        subst hq0 hq1 hq2 hq3 hq4
        exact ⟨(q0, q1, q2, q3, q4), by simpa using e0, by simpa using e1, by simpa using e2, by simpa using e3, by simpa using e4⟩
    obtain ⟨q, hq⟩ := choose_lt each
    have hget : ∀ i, i < len → ((List.range len).map q).getD i default = q i := fun i hi => by simp [List.getD, hi]
    refine ⟨some x, len, m, (List.range len).map q, rfl, ?_, hroom⟩
    refine ⟨by rw [insCells_length]; simp, ⟨hl, hm, fun h => by cases h⟩, ?_⟩
    by_cases h0 : len = 0
    · exact .inl h0
    right
    obtain ⟨b, off, spot⟩ := x
    have hsp : spot = none := by simpa [Addr.add] using World.cell?_spot (hq 0 (by omega)).1
    subst hsp
    refine ⟨b, off, rfl, fun j u hu => ?_⟩
    have hj : j < len * 5 := by
      have := (List.getElem?_eq_some_iff.1 hu).1
      rw [insCells_length] at this; simpa using this
    have hjl : j / 5 < len := by omega
    have hat := insCells_at ((List.range len).map q) (j / 5) (by simpa using hjl) (j % 5)
    rw [hget _ hjl, show j / 5 * 5 + j % 5 = j from by omega] at hat
    obtain ⟨r0, r1, r2, r3, r4⟩ := hq _ hjl
    rw [Addr.add_lit] at r0 r1 r2 r3 r4
    have hm5 : j % 5 = 0 ∨ j % 5 = 1 ∨ j % 5 = 2 ∨ j % 5 = 3 ∨ j % 5 = 4 := by omega
    rcases hm5 with e | e | e | e | e <;> rw [e] at hat
    · have h2 := hat _ rfl
      rw [hu] at h2
      rw [show off + j = off + j / 5 * 5 from by omega, r0]; exact h2.symm
    · have h2 := hat _ rfl
      rw [hu] at h2
      rw [show off + j = off + (j / 5 * 5 + 1) from by omega, r1]; exact h2.symm
    · have h2 := hat _ rfl
      rw [hu] at h2
      rw [show off + j = off + (j / 5 * 5 + 2) from by omega, r2]; exact h2.symm
    · have h2 := hat _ rfl
      rw [hu] at h2
      rw [show off + j = off + (j / 5 * 5 + 3) from by omega, r3]; exact h2.symm
    · have h2 := hat _ rfl
      rw [hu] at h2
      rw [show off + j = off + (j / 5 * 5 + 4) from by omega, r4]; exact h2.symm

end Go.Proofs.YtagangiilcicpaeGreatDoor

namespace Go.Proofs.YtagangiilcicpaeGreatDoor

end Go.Proofs.YtagangiilcicpaeGreatDoor

namespace Go.Proofs.YtagangiilcicpaeGreatDoor
open Go.RowKit

/-- Is there something at k? -/
def isThere (l : List Row) (m : Made) (k : ByteArray) : Bool := match m k with
  | some (some _) => true
  | some none => false
  | none => isAt k l
/-- The rows L are l with what was made. -/
structure Over (L l : List Row) (m : Made) : Prop where
  srt : Srt L
  at_ : ∀ k, isAt k L = isThere l m k
  num_ : ∀ k, num k L = look (fun k => num k l) m k

theorem Over.start {l : List Row} (h : Srt l) : Over l l (fun _ => none) := ⟨h, fun _ => rfl, fun _ => rfl⟩
theorem Over.ins {L l : List Row} {m : Made} (h : Over L l m) (k : ByteArray) (n : Int) : Over (ins k n L) l (setM m k (some n)) := by
  refine ⟨srt_ins h.srt, fun j => ?_, fun j => ?_⟩
  · by_cases e : j = k
    · subst e; rw [isAt_ins]; simp [isThere, setM]
    · rw [(other_ins n e L h.srt).1, h.at_ j]; simp [isThere, setM, e]
  · by_cases e : j = k
    · subst e; rw [num_ins]; simp [look, setM]
    · rw [(other_ins n e L h.srt).2, h.num_ j]; simp [look, setM, e]
theorem num_del (k : ByteArray) {l : List Row} (h : Srt l) : num k (del k l) = 0 := num_not k _ (isAt_del k l h)
theorem Over.del {L l : List Row} {m : Made} (h : Over L l m) (k : ByteArray) : Over (del k L) l (setM m k none) := by
  refine ⟨srt_del h.srt, fun j => ?_, fun j => ?_⟩
  · by_cases e : j = k
    · subst e; rw [isAt_del _ _ h.srt]; simp [isThere, setM]
    · rw [(other_del e L h.srt).1, h.at_ j]; simp [isThere, setM, e]
  · by_cases e : j = k
    · subst e; rw [num_del _ h.srt]; simp [look, setM]
    · rw [(other_del e L h.srt).2, h.num_ j]; simp [look, setM, e]

/-- A key is given what was made, or loses what it has. -/
def putOne (l : List Row) (x : ByteArray × Option Int) : List Row := match x.2 with
  | some n => ins x.1 n l
  | none => del x.1 l
/-- What is told of a list of keys. -/
def madeOf (V : List (ByteArray × Option Int)) (m0 : Made) : Made := V.foldl (fun m x => setM m x.1 x.2) m0
theorem over_foldl : ∀ (V : List (ByteArray × Option Int)) (L l : List Row) (m : Made), Over L l m → Over (V.foldl putOne L) l (madeOf V m)
  | [], _, _, _, h => h
  | (k, some n) :: V, L, l, _, h => over_foldl V (ins k n L) l _ (h.ins k n)
  | (k, none) :: V, L, l, _, h => over_foldl V (del k L) l _ (h.del k)
theorem has_cons (w : ByteArray) (W : List ByteArray) (k : ByteArray) : has (w :: W) k = (decide (w = k) || has W k) := by simp [has]
theorem madeOf_vers (m : Made) : ∀ (W : List ByteArray) (m0 : Made), (∀ k, m0 k = none ∨ m0 k = m k) → ∀ k, madeOf (vers m W) m0 k = if (has W k && (m k).isSome) = true then m k else m0 k
  | [], m0, _, k => by simp [vers, madeOf, has]
  | w :: W, m0, h, k => by
    have hv : vers m (w :: W) = (match m w with | some o => [(w, o)] | none => []) ++ vers m W := by
      unfold vers
      rw [List.filterMap_cons]
      cases e : m w <;> simp
    rw [hv, has_cons]
    cases e : m w with
    | none =>
      simp only [List.nil_append]
      rw [madeOf_vers m W m0 h k]
      by_cases ek : w = k
      · subst ek; simp [e]
      · simp [ek]
    | some o =>
      show madeOf (vers m W) (setM m0 w o) k = _
      have h2 : ∀ j, setM m0 w o j = none ∨ setM m0 w o j = m j := by
        intro j
        by_cases ej : j = w
        · subst ej; right; simp [setM, e]
        · rcases h j with g | g
          · left; simp [setM, ej, g]
          · right; simp [setM, ej, g]
      rw [madeOf_vers m W (setM m0 w o) h2 k]
      by_cases ek : w = k
      · subst ek
        simp [e, setM]
      · have ek' : ¬ k = w := fun x => ek x.symm
        simp [ek, setM, ek']
theorem exec_keys (v : ByteArray → Int) (W : List ByteArray) : ∀ (l : List Ins) (s : Nat) (r : Nat → Int) (m : Made), (∀ i ∈ l, (i.kind = 6 ∨ i.kind = 7) → i.key ∈ W) → (∀ k, (m k).isSome = true → k ∈ W) → ∀ k, ((exec v l s r m).2.1 k).isSome = true → k ∈ W
  | [], _, _, _, _, hm => fun k h => hm k (by simpa [exec] using h)
  | i :: l, s + 1, r, m, hl, hm => fun k h => by
    rw [exec] at h
    exact exec_keys v W l s r m (fun j hj => hl j (by simp [hj])) hm k h
  | i :: l, 0, r, m, hl, hm => fun k h => by
    have hl' : ∀ j ∈ l, (j.kind = 6 ∨ j.kind = 7) → j.key ∈ W := fun j hj => hl j (by simp [hj])
    have hset : ∀ o, (i.kind = 6 ∨ i.kind = 7) → ∀ j, (setM m i.key o j).isSome = true → j ∈ W := fun o hk j hj => by
      by_cases e : j = i.key
      · rw [e]; exact hl i (by simp) hk
      · exact hm j (by simpa [setM, e] using hj)
    rw [exec] at h
    split at h
    · exact exec_keys v W l _ _ m hl' hm k h
    split at h
    · exact exec_keys v W l _ _ m hl' hm k h
    split at h
    · exact exec_keys v W l _ _ m hl' hm k h
    split at h
    · exact exec_keys v W l _ _ m hl' hm k h
    split at h
    · exact exec_keys v W l _ _ m hl' hm k h
    split at h
    · rename_i hk
      exact exec_keys v W l _ _ _ hl' (hset _ (.inl hk)) k h
    split at h
    · rename_i hk
      exact exec_keys v W l _ _ _ hl' (hset _ (.inr hk)) k h
    split at h
    · exact exec_keys v W l _ _ m hl' hm k h
    split at h
    · exact hm k h
    · exact exec_keys v W l _ _ m hl' hm k h
theorem right_keys {R W : List ByteArray} {C : List Ins} (h : RightD R W C) : ∀ i ∈ C, (i.kind = 6 ∨ i.kind = 7) → i.key ∈ W := fun i hi hk => by
  obtain ⟨j, hj, rfl⟩ := List.getElem_of_mem hi
  have := (right_instr (h.i j hj)).write
  simp only [List.getD, List.getElem?_eq_getElem hj, Option.getD_some] at this
  exact has_iff.1 (this hk)
end Go.Proofs.YtagangiilcicpaeGreatDoor
