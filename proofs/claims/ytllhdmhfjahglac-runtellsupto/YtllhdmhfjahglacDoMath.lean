/-
  What the program finds wrong with a deed as a whole.
  How an argument that is a deed is read: its three slices lie there.
  Plain mathematics of the document's own Get and Put: what they come to row by row, of rows that rise.
  Plain mathematics of doing a deed on rows: the rows then are those in which keys have what the deed made, and else what they had.
-/
import Derived.Test.YtllhdmhfjahglacDeedInstr
import Derived.Test.YtllhdmhfjahglacLies
import Derived.SliceStrings
import Derived.Lib.SmallJoins
import Derived.Test.YtllhdmhfjahglacMath
import Derived.Test.YtllhdmhfjahglacDeedKeys
namespace Go.Proofs.Ytllhdmhfjahglac
open Go.RowKit

/-- Texts are no longer than a text may be. -/
def SmallT (l : List ByteArray) : Prop := ∀ x ∈ l, x.size ≤ maxLen

theorem ne_true {a b : Int} (h : a ≠ b) : (a != b) = true := by simp [h]
theorem ne_false {a b : Int} (h : a = b) : (a != b) = false := by simp [h]

set_option maxHeartbeats 2000000 in
theorem wrongDeed_calls (R W : List ByteArray) (C : List Ins) (rb : Option Addr) (rn rc : Nat) (wb : Option Addr) (wn wc : Nat) (cb : Option Addr) (cn cc : Nat) (w : World) (hd : DeedIn w rb rn rc wb wn wc cb cn cc R W C) (hr : SmallT R) (hw : SmallT W) :
    Calls Try.prog 43 #[.agg #[.slice rb rn rc, .slice wb wn wc, .slice cb cn cc]] w fun e w' => e = .returned (.int .i64 (wDeed R W C)) ∧ Below w.heap.size w w' := by
  obtain ⟨A, hA⟩ : ∃ A, A = w.alloc (.cells #[.slice rb rn rc, .slice wb wn wc, .slice cb cn cc] 51) := ⟨_, rfl⟩
  have hb0 : Below w.heap.size w A := by rw [hA]; exact (Below.refl _ _).alloc (Nat.le_refl _) _
  have hdA := hd.below hb0
  have HR := hid (wrongKeys_calls R rb rn rc A hr hdA.tr)
  have HW := hid (wrongKeys_calls W wb wn wc A hw hdA.tw)
  have hn := Codes.count hd.cd
  have hcm := Nat.le_trans hd.cd.hdr.le hd.cd.hdr.max
  unfold maxLen at hcm
  have HQ : Hid (wDeed R W C = if wKeys R ≠ 0 then wKeys R else if wKeys W ≠ 0 then wKeys W else if 12 < C.length then 5 else wCode R W C C.length) := rfl
  generalize wDeed R W C = q at *
  generalize wKeys R = kr at *
  generalize wKeys W = kw at *
  have HN := hid hn
  have HD := hid hdA
  have HB0 := hid hb0
  clear hd hdA hn hr hw hb0
  by_cases h1 : kr ≠ 0
  · have HE : Hid (q = kr) := by show _ = _; rw [HQ.out, if_pos h1]
    have t1 := ne_true h1
    clear h1 HQ
    subst hA
    go_enter Try.func43, Try.ntmps43
    go_wp2_with fail
    refine HR.out.mono ?_
    rintro e w1 ⟨rfl, rfl⟩
    go_wp2
    go_ret
    exact ⟨ret_int HE.out.symm, HB0.out⟩
  have h1' : kr = 0 := by simpa using h1
  subst h1'
  by_cases h2 : kw ≠ 0
  · have HE : Hid (q = kw) := by show _ = _; rw [HQ.out, if_neg h1, if_pos h2]
    have t1 := ne_true h2
    clear h1 h2 HQ
    subst hA
    go_enter Try.func43, Try.ntmps43
    go_wp2_with fail
    refine HR.out.mono ?_
    rintro e w1 ⟨rfl, rfl⟩
    go_wp2_with fail
    refine HW.out.mono ?_
    rintro e w1 ⟨rfl, rfl⟩
    go_wp2
    go_ret
    exact ⟨ret_int HE.out.symm, HB0.out⟩
  have h2' : kw = 0 := by simpa using h2
  subst h2'
  by_cases h3 : 12 < cn
  · have HE : Hid (q = 5) := by show _ = _; rw [HQ.out, if_neg h1, if_neg h2, if_pos (by rw [← HN.out]; exact h3)]
    clear h1 h2 HQ
    subst hA
    go_enter Try.func43, Try.ntmps43
    go_wp2_with fail
    refine HR.out.mono ?_
    rintro e w1 ⟨rfl, rfl⟩
    go_wp2_with fail
    refine HW.out.mono ?_
    rintro e w1 ⟨rfl, rfl⟩
    go_wp2
    go_ret
    exact ⟨ret_int HE.out.symm, HB0.out⟩
  have HE : Hid (q = wCode R W C C.length) := by show _ = _; rw [HQ.out, if_neg h1, if_neg h2, if_neg (by rw [← HN.out]; exact h3)]
  clear h1 h2 HQ
  have z0 : A.cell? ⟨w.heap.size, 0, none⟩ = some (.slice rb rn rc) := by rw [hA]; exact box_cell _ _ _ _ _ rfl
  have z1 : A.cell? ⟨w.heap.size, 1, none⟩ = some (.slice wb wn wc) := by rw [hA]; exact box_cell _ _ _ _ _ rfl
  have z2 : A.cell? ⟨w.heap.size, 2, none⟩ = some (.slice cb cn cc) := by rw [hA]; exact box_cell _ _ _ _ _ rfl
  have HZ := hid (And.intro z0 (And.intro z1 z2))
  clear z0 z1 z2
  subst hA
  go_enter Try.func43, Try.ntmps43
  go_wp2_with fail
  refine HR.out.mono ?_
  rintro e w1 ⟨rfl, rfl⟩
  go_wp2_with fail
  refine HW.out.mono ?_
  rintro e w1 ⟨rfl, rfl⟩
  go_wp2_with fail
  go_loopw [26] (fun i wr => ∃ k : Nat, k ≤ cn ∧ i = .int .i64 k ∧ Hid (wCode R W C k = 0) ∧ Hid (Below (w.alloc (.cells #[.slice rb rn rc, .slice wb wn wc, .slice cb cn cc] 51)).heap.size (w.alloc (.cells #[.slice rb rn rc, .slice wb wn wc, .slice cb cn cc] 51)) wr)) (fun i _ => cn - (intOf i).toNat)
  case atStart => exact ⟨0, Nat.zero_le _, rfl, rfl, Below.refl _ _⟩
  case round =>
    obtain ⟨k, hk, rfl, HC, HB⟩ := hrel
    by_cases hlt : k < cn
    · have hkl : k < C.length := by rw [← HN.out]; exact hlt
      have hi : (k : Int) < (cn : Int) := by omega
      have HI := hid (wrongInstr_calls R W C rb rn rc wb wn wc cb cn cc k wr (HD.out.below HB.out) hkl)
      have z0 := kept_cell HB.out HZ.out.1
      have z1 := kept_cell HB.out HZ.out.2.1
      have z2 := kept_cell HB.out HZ.out.2.2
      have HX := hid (wCode_at hkl HC.out)
      have HY := hid (wCode_step (R := R) (W := W) (C := C) HC.out)
      rw [← HE.out] at HX
      generalize wIns R W (C.getD k default) ((C.length : Int) - 1 - k) = x at *
      by_cases hx : x = 0
      · subst hx
        go_wp2_with fail
        refine HI.out.mono ?_
        rintro e w2 ⟨rfl, hb2⟩
        go_wp2
        go_roundw
        case rel => exact ⟨k + 1, by omega, by go_num, HY.out (by simp), below_deep HB.out hb2⟩
        case measure => simp [intOf]; omega
      · have t1 := ne_true hx
        have HXX := hid (HX.out hx)
        clear hx
        go_wp2_with fail
        refine HI.out.mono ?_
        rintro e w2 ⟨rfl, hb2⟩
        go_wp2
        go_ret
        exact ⟨ret_int HXX.out.symm, below_deep HB0.out (below_deep HB.out hb2)⟩
    · obtain rfl : k = cn := by omega
      go_wp2
      go_ret
      exact ⟨ret_int (by rw [HE.out, ← HN.out, HC.out]), below_deep HB0.out HB.out⟩
end Go.Proofs.Ytllhdmhfjahglac

namespace Go.Proofs.Ytllhdmhfjahglac
open Go.ChangeShapes Go.WideShapes Go.ChangeAt Go.RowKit Go.Deep Go.Joins

theorem cellsDeed : Try.prog.cellsOf 51 = 3 := by kernel_rfl
theorem cellsInstr : Try.prog.cellsOf 105 = 5 := by kernel_rfl

/-- How a datum tells the room of a slice. -/
def Room {H : Type} (d : DataW H) (cap : Nat) : Prop := (d = .nil ∧ cap = 0) ∨ ∃ elems spare : List (DataW H), d = .slice elems spare ∧ elems.length + spare.length = cap

theorem open_texts {H : Type} {enc : TypeId × Value → H} {W : World} {v : Value} {fuel : Nat} {y : DataW H × List MemPlace}
    (h : DataW.trod enc Try.prog W 0 (fun _ => true) true fuel 48 [v] = some y) :
    ∃ a len cap l, v = .slice a len cap ∧ Texts W a len cap l ∧ SmallT l ∧ Room y.1 cap := by
  rcases open_strings Try.underlying48 Try.underlying9 cellsStr h with ⟨hcs, hx⟩ | ⟨x, len, cap, ss, hcs, _, hl, hm, hss, hx, hcell, hsm⟩
  · simp at hcs
    subst hcs
    rw [hx]
    exact ⟨none, 0, 0, [], rfl, Lies.none _ _, (fun _ h => by cases h), .inl ⟨rfl, rfl⟩⟩
  · simp at hcs
    subst hcs
    simp only [if_true] at hss
    refine ⟨some x, len, cap, ss.take len, rfl, ?_, fun s hs => hsm s (List.mem_of_mem_take hs), ?_⟩
    · refine ⟨by rw [strs_length, List.length_take]; omega, ⟨hl, hm, fun h => by cases h⟩, ?_⟩
      by_cases h0 : len = 0
      · exact .inl h0
      · right
        obtain ⟨b, off, spot⟩ := x
        have hsp : spot = none := by simpa [Addr.add] using World.cell?_spot (hcell 0 (by omega))
        subst hsp
        refine ⟨b, off, rfl, fun j u hu => ?_⟩
        have hj : j < len := by
          have := (List.getElem?_eq_some_iff.1 hu).1
          rw [strs_length, List.length_take] at this; omega
        have h1 := hcell j (by omega)
        rw [Addr.add_lit] at h1
        rw [h1]
        have : (strs (ss.take len))[j]? = some (.string (ss.getD j ByteArray.empty)) := by
          simp [strs, hj, List.getD, show j < ss.length by omega]
        rw [this] at hu
        exact hu
    · rw [hx]
      refine .inr ⟨_, _, rfl, ?_⟩
      simp [Go.ChangeShapes.strs]; omega

set_option maxRecDepth 100000 in
theorem open_codes {H : Type} {enc : TypeId × Value → H} {W : World} {v : Value} {fuel : Nat} {y : DataW H × List MemPlace}
    (h : DataW.trod enc Try.prog W 0 (fun _ => true) true fuel 49 [v] = some y) :
    ∃ a len cap l, v = .slice a len cap ∧ Codes W a len cap l ∧ Room y.1 cap := by
  rcases open_slice Try.underlying49 h with ⟨hcs, hx⟩ | ⟨x, len, cap, m, n, D, Pl, hcs, _, hl, hm, hmm, hx, hcell⟩
  · simp at hcs
    subst hcs
    rw [hx]
    exact ⟨none, 0, 0, [], rfl, Lies.none _ _, .inl ⟨rfl, rfl⟩⟩
  · simp at hcs
    subst hcs
    simp only [if_true] at hmm
    subst hmm
    have hroom : Room y.1 m := by rw [hx]; exact .inr ⟨_, _, rfl, by simp; omega⟩
    have each : ∀ i, i < len → ∃ q : Ins, W.cell? (x.add (i * 5)) = some (.int .i64 q.kind) ∧ W.cell? (x.add (i * 5 + 1)) = some (.int .i64 q.a) ∧ W.cell? (x.add (i * 5 + 2)) = some (.int .i64 q.b) ∧ W.cell? (x.add (i * 5 + 3)) = some (.int .i64 q.n) ∧ W.cell? (x.add (i * 5 + 4)) = some (.string q.key) := by
      intro i hi
      obtain ⟨cs', h1, h2⟩ := hcell i (by omega)
      rw [cellsInstr] at h1
      obtain ⟨_, hlen, hc⟩ := World.cells?_some h1
      obtain ⟨xs, k, _, _, _, hxl, hf⟩ := DataW.trod_struct Try.underlying105 h2
      match cs', hlen, xs, hxl with
      | [v0, v1, v2, v3, v4], _, [y0, y1, y2, y3, y4], _ =>
        have g0 := hf 0 _ rfl
        have g1 := hf 1 _ rfl
        have g2 := hf 2 _ rfl
        have g3 := hf 3 _ rfl
        have g4 := hf 4 _ rfl
        simp [cellsInt, cellsStr] at g0 g1 g2 g3 g4
        have e0 := hc 0 (by omega)
        have e1 := hc 1 (by omega)
        have e2 := hc 2 (by omega)
        have e3 := hc 3 (by omega)
        have e4 := hc 4 (by omega)
        rw [add_add] at e0 e1 e2 e3 e4
        obtain ⟨q0, hq0, _, _⟩ := DataW.trod_int Try.underlying3 g0
        obtain ⟨q1, hq1, _, _⟩ := DataW.trod_int Try.underlying3 g1
        obtain ⟨q2, hq2, _, _⟩ := DataW.trod_int Try.underlying3 g2
        obtain ⟨q3, hq3, _, _⟩ := DataW.trod_int Try.underlying3 g3
        obtain ⟨q4, hq4, _, _⟩ := DataW.trod_string Try.underlying9 g4
        simp at hq0 hq1 hq2 hq3 hq4
        subst hq0 hq1 hq2 hq3 hq4
        exact ⟨(q0, q1, q2, q3, q4), by simpa using e0, by simpa using e1, by simpa using e2, by simpa using e3, by simpa using e4⟩
    obtain ⟨q, hq⟩ := choose_lt each
    have hget : ∀ i, i < len → ((List.range len).map q).getD i default = q i := fun i hi => by simp [List.getD, hi]
    refine ⟨some x, len, m, (List.range len).map q, rfl, ?_, hroom⟩
    refine ⟨by rw [insCells_length]; simp, ⟨hl, hm, fun h => by cases h⟩, ?_⟩
    by_cases h0 : len = 0
    · exact .inl h0
    right
    obtain ⟨b, off, spot⟩ := x
    have hsp : spot = none := by simpa [Addr.add] using World.cell?_spot (hq 0 (by omega)).1
    subst hsp
    refine ⟨b, off, rfl, fun j u hu => ?_⟩
    have hj : j < len * 5 := by
      have := (List.getElem?_eq_some_iff.1 hu).1
      rw [insCells_length] at this; simpa using this
    have hjl : j / 5 < len := by omega
    have hat := insCells_at ((List.range len).map q) (j / 5) (by simpa using hjl) (j % 5)
    rw [hget _ hjl, show j / 5 * 5 + j % 5 = j from by omega] at hat
    obtain ⟨r0, r1, r2, r3, r4⟩ := hq _ hjl
    rw [Addr.add_lit] at r0 r1 r2 r3 r4
    have hm5 : j % 5 = 0 ∨ j % 5 = 1 ∨ j % 5 = 2 ∨ j % 5 = 3 ∨ j % 5 = 4 := by omega
    rcases hm5 with e | e | e | e | e <;> rw [e] at hat
    · have h2 := hat _ rfl
      rw [hu] at h2
      rw [show off + j = off + j / 5 * 5 from by omega, r0]; exact h2.symm
    · have h2 := hat _ rfl
      rw [hu] at h2
      rw [show off + j = off + (j / 5 * 5 + 1) from by omega, r1]; exact h2.symm
    · have h2 := hat _ rfl
      rw [hu] at h2
      rw [show off + j = off + (j / 5 * 5 + 2) from by omega, r2]; exact h2.symm
    · have h2 := hat _ rfl
      rw [hu] at h2
      rw [show off + j = off + (j / 5 * 5 + 3) from by omega, r3]; exact h2.symm
    · have h2 := hat _ rfl
      rw [hu] at h2
      rw [show off + j = off + (j / 5 * 5 + 4) from by omega, r4]; exact h2.symm

set_option maxRecDepth 100000 in
/-- A deed that is read. -/
theorem open_deed {H : Type} {enc : TypeId × Value → H} {W : World} {r : Reach} {b0 : Nat} {v : Value} {d : DataW H} {p : List MemPlace}
    (hv : Value.okWide Try.prog W r b0 51 v) (h : DataW.Trod enc Try.prog W 0 (fun _ => true) true 51 v d p) :
    ∃ rb rn rc wb wn wc cb cn cc R Wr C, v = .agg #[.slice rb rn rc, .slice wb wn wc, .slice cb cn cc] ∧ DeedIn W rb rn rc wb wn wc cb cn cc R Wr C ∧ SmallT R ∧ SmallT Wr ∧
      ∃ d0 d1 d2 : DataW H, d = .agg [d0, d1, d2] ∧ Room d0 rc ∧ Room d1 wc ∧ Room d2 cc := by
  obtain ⟨v0, v1, v2, y0, y1, y2, n, rfl, rfl, rfl, h0, h1, h2⟩ := open_agg3 Try.underlying51 (by kernel_rfl) cellsDeed hv h
  obtain ⟨rb, rn, rc, R, rfl, t0, s0, m0⟩ := open_texts h0
  obtain ⟨wb, wn, wc, Wr, rfl, t1, s1, m1⟩ := open_texts h1
  obtain ⟨cb, cn, cc, C, rfl, t2, m2⟩ := open_codes h2
  exact ⟨rb, rn, rc, wb, wn, wc, cb, cn, cc, R, Wr, C, rfl, ⟨t0, t1, t2⟩, s0, s1, _, _, _, rfl, m0, m1, m2⟩
end Go.Proofs.Ytllhdmhfjahglac

namespace Go.Proofs.Ytllhdmhfjahglac

theorem get_found {k : ByteArray} : ∀ {l : List Row} {i : Nat}, Srt l → i < l.length → (l.getD i default).1 = k → isAt k l = true ∧ num k l = (l.getD i default).2
  | [], _, _, h, _ => absurd h (Nat.not_lt_zero _)
  | x :: l, 0, _, _, h => by
    have h' : x.1 = k := by simpa using h
    simp [isAt, num, h', less_irrefl]
  | x :: l, i + 1, hs, hi, h => by
    obtain ⟨hx, hl⟩ := srt_cons.1 hs
    have hi' : i < l.length := by simpa using hi
    have h' : (l.getD i default).1 = k := by simpa using h
    have hlt : less x.1 k = true := by rw [← h']; exact hx _ (mem_getD hi')
    have ih := get_found hl hi' h'
    rw [isAt, num, if_pos hlt, if_pos hlt]
    exact ⟨ih.1, by rw [ih.2]; simp⟩
theorem get_none {k : ByteArray} : ∀ {l : List Row}, (∀ j, j < l.length → (l.getD j default).1 ≠ k) → isAt k l = false ∧ num k l = 0
  | [], _ => ⟨rfl, rfl⟩
  | x :: l, h => by
    have h0 := h 0 (by simp)
    simp at h0
    have ih := get_none (l := l) fun j hj => by simpa using h (j + 1) (by simpa using hj)
    rcases less_cases x.1 k with g | g | g
    · simp [isAt, num, g, ih]
    · exact absurd g h0
    · simp [isAt, num, g, less_asymm g]

/-- Are all keys below k? -/
def allLess (k : ByteArray) (p : List Row) : Bool := p.all fun y => less y.1 k
/-- What Put comes to: k has n, or nothing. -/
def refOut (has : Bool) (k : ByteArray) (n : Int) (p : List Row) : List Row := if has = true then ins k n p else del k p
/-- What is there while it goes on, behind the rows p. -/
def stOut (has : Bool) (k : ByteArray) (n : Int) (p : List Row) : List Row := if allLess k p = true then p else refOut has k n p

theorem allLess_snoc (k : ByteArray) (p : List Row) (x : Row) : allLess k (p ++ [x]) = (allLess k p && less x.1 k) := by simp [allLess]

theorem ins_less {k : ByteArray} {n : Int} {q : List Row} : ∀ {p : List Row}, allLess k p = true → ins k n (p ++ q) = p ++ ins k n q
  | [], _ => rfl
  | x :: p, h => by
    have h' : less x.1 k = true ∧ allLess k p = true := by simpa [allLess] using h
    simp [ins, h'.1, ins_less h'.2]
theorem del_less {k : ByteArray} {q : List Row} : ∀ {p : List Row}, allLess k p = true → del k (p ++ q) = p ++ del k q
  | [], _ => rfl
  | x :: p, h => by
    have h' : less x.1 k = true ∧ allLess k p = true := by simpa [allLess] using h
    simp [del, h'.1, del_less h'.2]
theorem ins_done {k : ByteArray} {n : Int} {q : List Row} : ∀ {p : List Row}, allLess k p = false → ins k n (p ++ q) = ins k n p ++ q
  | [], h => by simp [allLess] at h
  | x :: p, h => by
    cases g : less x.1 k with
    | true =>
      have h' : allLess k p = false := by simpa [allLess, g] using h
      simp [ins, g, ins_done h']
    | false => cases g2 : less k x.1 <;> simp [ins, g, g2]
theorem del_done {k : ByteArray} {q : List Row} : ∀ {p : List Row}, allLess k p = false → del k (p ++ q) = del k p ++ q
  | [], h => by simp [allLess] at h
  | x :: p, h => by
    cases g : less x.1 k with
    | true =>
      have h' : allLess k p = false := by simpa [allLess, g] using h
      simp [del, g, del_done h']
    | false => cases g2 : less k x.1 <;> simp [del, g, g2]

theorem st_less {has : Bool} {k : ByteArray} {n : Int} {p : List Row} {x : Row} (h : allLess k p = true) (hx : less x.1 k = true) : stOut has k n (p ++ [x]) = stOut has k n p ++ [x] := by
  simp [stOut, allLess_snoc, h, hx]
theorem st_eq {has : Bool} {k : ByteArray} {n : Int} {p : List Row} {x : Row} (h : allLess k p = true) (hx : x.1 = k) : stOut has k n (p ++ [x]) = stOut has k n p ++ if has = true then [(k, n)] else [] := by
  cases has <;> simp [stOut, allLess_snoc, h, hx, less_irrefl, refOut, ins_less h, del_less h, ins, del]
theorem st_more {has : Bool} {k : ByteArray} {n : Int} {p : List Row} {x : Row} (h : allLess k p = true) (hx : less k x.1 = true) : stOut has k n (p ++ [x]) = (stOut has k n p ++ if has = true then [(k, n)] else []) ++ [x] := by
  cases has <;> simp [stOut, allLess_snoc, h, hx, less_asymm hx, refOut, ins_less h, del_less h, ins, del]
theorem st_done {has : Bool} {k : ByteArray} {n : Int} {p : List Row} {x : Row} (h : allLess k p = false) : stOut has k n (p ++ [x]) = stOut has k n p ++ [x] := by
  cases has <;> simp [stOut, allLess_snoc, h, refOut, ins_done h, del_done h]
theorem st_end {has : Bool} {k : ByteArray} {n : Int} {p : List Row} (h : allLess k p = true) : refOut has k n p = stOut has k n p ++ if has = true then [(k, n)] else [] := by
  have e1 := ins_less (n := n) (q := []) h
  have e2 := del_less (q := []) h
  simp only [List.append_nil] at e1 e2
  cases has <;> simp [stOut, h, refOut, e1, e2, ins, del]
theorem st_fin {has : Bool} {k : ByteArray} {n : Int} {p : List Row} (h : allLess k p = false) : refOut has k n p = stOut has k n p := by simp [stOut, h]

/-- Who comes behind one that is not below k is above k. -/
theorem more_of_done {k : ByteArray} {l : List Row} {i : Nat} (hs : Srt l) (hi : i < l.length) (h : allLess k (l.take i) = false) : less k (l.getD i default).1 = true := by
  simp only [allLess, List.all_eq_false] at h
  obtain ⟨y, hy, hn⟩ := h
  obtain ⟨j, hj, e⟩ := List.getElem_of_mem hy
  have hj' : j < i := by simp at hj; omega
  have h1 := srt_getD hs hj' hi
  have e' : l.getD j default = y := by rw [← e]; simp [List.getD, show j < l.length by omega]
  rw [e'] at h1
  rcases less_cases y.1 k with g | g | g
  · exact absurd g (by simpa using hn)
  · rw [← g]; exact h1
  · exact less_trans g h1
theorem take_next {l : List Row} {i : Nat} (h : i < l.length) : l.take (i + 1) = l.take i ++ [l.getD i default] := by
  rw [List.take_succ_eq_append_getElem h]; simp [List.getD, h]
theorem stOut_len {has : Bool} {k : ByteArray} {n : Int} {p : List Row} : (stOut has k n p).length ≤ p.length + 1 := by
  have h1 := ins_length k n p
  have h2 := del_length k p
  unfold stOut refOut
  split
  · omega
  · split <;> omega
end Go.Proofs.Ytllhdmhfjahglac

namespace Go.Proofs.Ytllhdmhfjahglac
open Go.RowKit

/-- Is there something at k? -/
def isThere (l : List Row) (m : Made) (k : ByteArray) : Bool := match m k with
  | some (some _) => true
  | some none => false
  | none => isAt k l
/-- The rows L are l with what was made. -/
structure Over (L l : List Row) (m : Made) : Prop where
  srt : Srt L
  at_ : ∀ k, isAt k L = isThere l m k
  num_ : ∀ k, num k L = look (fun k => num k l) m k

theorem Over.start {l : List Row} (h : Srt l) : Over l l (fun _ => none) := ⟨h, fun _ => rfl, fun _ => rfl⟩
theorem Over.ins {L l : List Row} {m : Made} (h : Over L l m) (k : ByteArray) (n : Int) : Over (ins k n L) l (setM m k (some n)) := by
  refine ⟨srt_ins h.srt, fun j => ?_, fun j => ?_⟩
  · by_cases e : j = k
    · subst e; rw [isAt_ins]; simp [isThere, setM]
    · rw [(other_ins n e L h.srt).1, h.at_ j]; simp [isThere, setM, e]
  · by_cases e : j = k
    · subst e; rw [num_ins]; simp [look, setM]
    · rw [(other_ins n e L h.srt).2, h.num_ j]; simp [look, setM, e]
theorem num_del (k : ByteArray) {l : List Row} (h : Srt l) : num k (del k l) = 0 := num_not k _ (isAt_del k l h)
theorem Over.del {L l : List Row} {m : Made} (h : Over L l m) (k : ByteArray) : Over (del k L) l (setM m k none) := by
  refine ⟨srt_del h.srt, fun j => ?_, fun j => ?_⟩
  · by_cases e : j = k
    · subst e; rw [isAt_del _ _ h.srt]; simp [isThere, setM]
    · rw [(other_del e L h.srt).1, h.at_ j]; simp [isThere, setM, e]
  · by_cases e : j = k
    · subst e; rw [num_del _ h.srt]; simp [look, setM]
    · rw [(other_del e L h.srt).2, h.num_ j]; simp [look, setM, e]

/-- Rows that rise are told by what keys have. -/
theorem srt_ext : ∀ {a b : List Row}, Srt a → Srt b → (∀ k, isAt k a = isAt k b) → (∀ k, num k a = num k b) → a = b
  | [], [], _, _, _, _ => rfl
  | [], y :: b, _, _, h, _ => by
    have := h y.1
    simp [isAt, less_irrefl] at this
  | x :: a, [], _, _, h, _ => by
    have := h x.1
    simp [isAt, less_irrefl] at this
  | x :: a, y :: b, ha, hb, h, hn => by
    obtain ⟨hx, ha'⟩ := srt_cons.1 ha
    obtain ⟨hy, hb'⟩ := srt_cons.1 hb
    have e1 : x.1 = y.1 := by
      rcases less_cases x.1 y.1 with g | g | g
      · have := h x.1
        simp [isAt, less_irrefl, g, less_asymm g] at this
      · exact g
      · have := h y.1
        simp [isAt, less_irrefl, g, less_asymm g] at this
    have e2 : x.2 = y.2 := by
      have := hn x.1
      rw [num, num, e1] at this
      simpa [less_irrefl] using this
    have exy : x = y := Prod.ext e1 e2
    subst exy
    have step : ∀ k, isAt k a = isAt k b ∧ num k a = num k b := by
      intro k
      have h1 := h k
      have h2 := hn k
      rcases less_cases x.1 k with g | g | g
      · simp only [isAt, num, g, if_true] at h1 h2
        exact ⟨h1, h2⟩
      · have f1 := isAt_front (k := k) (l := a) fun y hy => by rw [← g]; exact hx y hy
        have f2 := isAt_front (k := k) (l := b) fun y hy' => by rw [← g]; exact hy y hy'
        rw [f1.1, f1.2, f2.1, f2.2]; exact ⟨rfl, rfl⟩
      · have f1 := isAt_front (k := k) (l := a) fun y hy => less_trans g (hx y hy)
        have f2 := isAt_front (k := k) (l := b) fun y hy' => less_trans g (hy y hy')
        rw [f1.1, f1.2, f2.1, f2.2]; exact ⟨rfl, rfl⟩
    rw [srt_ext ha' hb' (fun k => (step k).1) (fun k => (step k).2)]
theorem Over.one {L L' l : List Row} {m : Made} (h : Over L l m) (h' : Over L' l m) : L = L' :=
  srt_ext h.srt h'.srt (fun k => by rw [h.at_, h'.at_]) (fun k => by rw [h.num_, h'.num_])

/-- A key is given what was made, or loses what it has. -/
def putOne (l : List Row) (x : ByteArray × Option Int) : List Row := match x.2 with
  | some n => ins x.1 n l
  | none => del x.1 l
/-- What is told of a list of keys. -/
def madeOf (V : List (ByteArray × Option Int)) (m0 : Made) : Made := V.foldl (fun m x => setM m x.1 x.2) m0
theorem over_foldl : ∀ (V : List (ByteArray × Option Int)) (L l : List Row) (m : Made), Over L l m → Over (V.foldl putOne L) l (madeOf V m)
  | [], _, _, _, h => h
  | (k, some n) :: V, L, l, _, h => over_foldl V (ins k n L) l _ (h.ins k n)
  | (k, none) :: V, L, l, _, h => over_foldl V (del k L) l _ (h.del k)
theorem has_cons (w : ByteArray) (W : List ByteArray) (k : ByteArray) : has (w :: W) k = (decide (w = k) || has W k) := by simp [has]
theorem madeOf_vers (m : Made) : ∀ (W : List ByteArray) (m0 : Made), (∀ k, m0 k = none ∨ m0 k = m k) → ∀ k, madeOf (vers m W) m0 k = if (has W k && (m k).isSome) = true then m k else m0 k
  | [], m0, _, k => by simp [vers, madeOf, has]
  | w :: W, m0, h, k => by
    have hv : vers m (w :: W) = (match m w with | some o => [(w, o)] | none => []) ++ vers m W := by
      unfold vers
      rw [List.filterMap_cons]
      cases e : m w <;> simp
    rw [hv, has_cons]
    cases e : m w with
    | none =>
      simp only [List.nil_append]
      rw [madeOf_vers m W m0 h k]
      by_cases ek : w = k
      · subst ek; simp [e]
      · simp [ek]
    | some o =>
      show madeOf (vers m W) (setM m0 w o) k = _
      have h2 : ∀ j, setM m0 w o j = none ∨ setM m0 w o j = m j := by
        intro j
        by_cases ej : j = w
        · subst ej; right; simp [setM, e]
        · rcases h j with g | g
          · left; simp [setM, ej, g]
          · right; simp [setM, ej, g]
      rw [madeOf_vers m W (setM m0 w o) h2 k]
      by_cases ek : w = k
      · subst ek
        simp [e, setM]
      · have ek' : ¬ k = w := fun x => ek x.symm
        simp [ek, setM, ek']
theorem exec_keys (v : ByteArray → Int) (W : List ByteArray) : ∀ (l : List Ins) (s : Nat) (r : Nat → Int) (m : Made), (∀ i ∈ l, (i.kind = 6 ∨ i.kind = 7) → i.key ∈ W) → (∀ k, (m k).isSome = true → k ∈ W) → ∀ k, ((exec v l s r m).2.1 k).isSome = true → k ∈ W
  | [], _, _, _, _, hm => fun k h => hm k (by simpa [exec] using h)
  | i :: l, s + 1, r, m, hl, hm => fun k h => by
    rw [exec] at h
    exact exec_keys v W l s r m (fun j hj => hl j (by simp [hj])) hm k h
  | i :: l, 0, r, m, hl, hm => fun k h => by
    have hl' : ∀ j ∈ l, (j.kind = 6 ∨ j.kind = 7) → j.key ∈ W := fun j hj => hl j (by simp [hj])
    have hset : ∀ o, (i.kind = 6 ∨ i.kind = 7) → ∀ j, (setM m i.key o j).isSome = true → j ∈ W := fun o hk j hj => by
      by_cases e : j = i.key
      · rw [e]; exact hl i (by simp) hk
      · exact hm j (by simpa [setM, e] using hj)
    rw [exec] at h
    split at h
    · exact exec_keys v W l _ _ m hl' hm k h
    split at h
    · exact exec_keys v W l _ _ m hl' hm k h
    split at h
    · exact exec_keys v W l _ _ m hl' hm k h
    split at h
    · exact exec_keys v W l _ _ m hl' hm k h
    split at h
    · exact exec_keys v W l _ _ m hl' hm k h
    split at h
    · rename_i hk
      exact exec_keys v W l _ _ _ hl' (hset _ (.inl hk)) k h
    split at h
    · rename_i hk
      exact exec_keys v W l _ _ _ hl' (hset _ (.inr hk)) k h
    split at h
    · exact exec_keys v W l _ _ m hl' hm k h
    split at h
    · exact hm k h
    · exact exec_keys v W l _ _ m hl' hm k h
theorem right_keys {R W : List ByteArray} {C : List Ins} (h : RightD R W C) : ∀ i ∈ C, (i.kind = 6 ∨ i.kind = 7) → i.key ∈ W := fun i hi hk => by
  obtain ⟨j, hj, rfl⟩ := List.getElem_of_mem hi
  have := (right_instr (h.i j hj)).write
  simp only [List.getD, List.getElem?_eq_getElem hj, Option.getD_some] at this
  exact has_iff.1 (this hk)
/-- All that a deed makes it names. -/
theorem putAll_one {l L : List Row} {m : Made} {W : List ByteArray} (hs : Srt l) (hL : Over L l m) (hW : ∀ k, (m k).isSome = true → k ∈ W) : (vers m W).foldl putOne l = L := by
  have h1 := over_foldl (vers m W) l l (fun _ => none) (Over.start hs)
  have e : madeOf (vers m W) (fun _ => none) = m := by
    funext k
    rw [madeOf_vers m W _ (fun _ => .inl rfl) k]
    cases e : m k with
    | none => simp
    | some o => simp [has_iff.2 (hW k (by simp [e]))]
  rw [e] at h1
  exact h1.one hL
end Go.Proofs.Ytllhdmhfjahglac
