/-
  The program's search among texts, and what it finds wrong with keys.
  What the program finds wrong with a deed.
  What the program finds wrong with an instruction of a deed.
  What the program finds wrong with a deed as a whole.
  How an argument that is a deed is read: its three slices lie there.
  Plain mathematics of the document's own Get and Put: what they come to row by row, of rows that rise.
-/
import Derived.Test.YtdnafpenljdinadDeedMath
import Derived.Test.YtdnafpenljdinadConcat
import Derived.SliceStrings
import Derived.Lib.SmallJoins
import Derived.Test.YtdnafpenljdinadMath
namespace Go.Proofs.Ytdnafpenljdinad
open Go.RowKit

theorem streq_true {a b : ByteArray} (h : a = b) : (a.toList == b.toList) = true := by subst h; simp
theorem streq_false {a b : ByteArray} (h : a ≠ b) : (a.toList == b.toList) = false := by simpa using fun e => h (toList_inj e)

/-- The document's own search. -/
theorem refIn_calls (l : List ByteArray) (base : Option Addr) (n c : Nat) (k : ByteArray) (w : World) (ha : Texts w base n c l) :
    Calls Try.prog 44 #[.slice base n c, .string k] w fun e w' => e = .returned (.bool (has l k)) ∧ w = w' := by
  have HN := hid (Texts.count ha)
  have hm := Nat.le_trans ha.hdr.le ha.hdr.max
  unfold maxLen at hm
  by_cases h0 : n = 0
  · subst h0
    have hl : l = [] := List.eq_nil_of_length_eq_zero (by have := HN.out; omega)
    subst hl
    clear ha
    go_enter Try.func44, Try.ntmps44
    go_wp2
    go_loop [9] (fun i => i = .int .i64 0) (fun _ => 0)
    case atStart => rfl
    case round =>
      obtain rfl := hrel
      go_wp2
      go_ret
      exact ⟨rfl, rfl⟩
  rcases ha.run with h | ⟨b, o, rfl, h1⟩
  · exact absurd h h0
  have HC := hid h1
  clear h1 h0 ha
  go_enter Try.func44, Try.ntmps44
  go_wp2
  go_loop [9] (fun i => ∃ j : Nat, j ≤ n ∧ i = .int .i64 j ∧ Hid (has (l.take j) k = false)) (fun i => n - (intOf i).toNat)
  case atStart => exact ⟨0, Nat.zero_le _, rfl, rfl⟩
  case round =>
    obtain ⟨j, hj, rfl, HH⟩ := hrel
    by_cases hlt : j < n
    · have hjl : j < l.length := by rw [← HN.out]; exact hlt
      have c1 := HC.out j _ (strs_at hjl)
      have hi : (j : Int) < (n : Int) := by omega
      have HT := hid (has_snoc (l.take j) (l.getD j default) k)
      rw [← take_snoc_getD hjl, HH.out] at HT
      generalize l.getD j default = x at *
      by_cases hx : x = k
      · have hs := streq_true hx
        have HF : Hid (has l k = true) := by
          show _ = _
          refine has_take_true (i := j + 1) ?_
          rw [HT.out]; simp [hx]
        clear hx
        go_wp2
        go_ret
        exact ⟨ret_bool HF.out.symm, rfl⟩
      · have hs := streq_false hx
        have HF : Hid (has (l.take (j + 1)) k = false) := by
          show _ = _
          rw [HT.out]; simpa using hx
        clear hx
        go_wp2
        go_round
        case rel => exact ⟨j + 1, by omega, by go_num, HF⟩
        case measure => simp [intOf]; omega
    · go_wp2
      go_ret
      refine ⟨ret_bool ?_, rfl⟩
      have : l.take j = l := List.take_of_length_le (by rw [← HN.out]; omega)
      rw [← this, HH.out]

end Go.Proofs.Ytdnafpenljdinad

namespace Go.Proofs.Ytdnafpenljdinad
open Go.RowKit

/-- An instruction's cells. -/
def insVal (i : Ins) : List Value := [.int .i64 i.kind, .int .i64 i.a, .int .i64 i.b, .int .i64 i.n, .string i.key]
def insCells : List Ins → List Value
  | [] => []
  | i :: l => insVal i ++ insCells l
theorem insCells_length : ∀ l, (insCells l).length = l.length * 5
  | [] => rfl
  | i :: l => by simp [insCells, insVal, insCells_length l]; omega
theorem insCells_one : ∀ l, ∀ u ∈ insCells l, u.oneCell' = true
  | [], _, h => by cases h
  | i :: l, u, h => by
    simp only [insCells, insVal, List.cons_append, List.nil_append, List.mem_cons] at h
    rcases h with rfl | rfl | rfl | rfl | rfl | h
    · rfl
    · rfl
    · rfl
    · rfl
    · rfl
    · exact insCells_one l u h
theorem insCells_at : ∀ (l : List Ins) (k : Nat), k < l.length → ∀ j u, (insVal (l.getD k default))[j]? = some u → (insCells l)[k * 5 + j]? = some u
  | [], k, h => absurd h (Nat.not_lt_zero _)
  | x :: l, 0, _ => fun j u hu => by
    rw [insCells, List.getElem?_append_left]
    · simpa using hu
    · simpa using (List.getElem?_eq_some_iff.1 hu).1
  | x :: l, k + 1, h => fun j u hu => by
    have := insCells_at l k (by simpa using h) j u (by simpa using hu)
    rw [insCells, List.getElem?_append_right (by simp [insVal]; omega)]
    simp only [insVal, List.length_cons, List.length_nil]
    rw [show (k + 1) * 5 + j - (0 + 1 + 1 + 1 + 1 + 1) = k * 5 + j from by omega]
    exact this
abbrev Codes (w : World) (base : Option Addr) (n c : Nat) (l : List Ins) : Prop := Lies w 5 base n c (insCells l)
theorem Codes.count {w : World} {base : Option Addr} {n c : Nat} {l : List Ins} (h : Codes w base n c l) : n = l.length := by have := h.len; rw [insCells_length] at this; omega
theorem Codes.cells {w : World} {b o : Nat} {l : List Ins} (h : Run w b o (insCells l)) {k : Nat} (hk : k < l.length) :
    w.cell? ⟨b, o + k * 5, none⟩ = some (.int .i64 (l.getD k default).kind) ∧ w.cell? ⟨b, o + k * 5 + 1, none⟩ = some (.int .i64 (l.getD k default).a) ∧ w.cell? ⟨b, o + k * 5 + 2, none⟩ = some (.int .i64 (l.getD k default).b) ∧
    w.cell? ⟨b, o + k * 5 + 3, none⟩ = some (.int .i64 (l.getD k default).n) ∧ w.cell? ⟨b, o + k * 5 + 4, none⟩ = some (.string (l.getD k default).key) :=
  ⟨h _ _ (insCells_at l k hk 0 _ rfl), h _ _ (insCells_at l k hk 1 _ rfl), h _ _ (insCells_at l k hk 2 _ rfl), h _ _ (insCells_at l k hk 3 _ rfl), h _ _ (insCells_at l k hk 4 _ rfl)⟩

theorem dec_true {a b : Int} (h : a = b) : (a == b) = true := by simp [h]
theorem dec_false {a b : Int} (h : a ≠ b) : (a == b) = false := by simp [h]

end Go.Proofs.Ytdnafpenljdinad

namespace Go.Proofs.Ytdnafpenljdinad
open Go.RowKit

/-- Where a deed's three slices lie, and what they hold. -/
structure DeedIn (w : World) (rb : Option Addr) (rn rc : Nat) (wb : Option Addr) (wn wc : Nat) (cb : Option Addr) (cn cc : Nat) (R W : List ByteArray) (C : List Ins) : Prop where
  tr : Texts w rb rn rc R
  tw : Texts w wb wn wc W
  cd : Codes w cb cn cc C
theorem DeedIn.below {w w' : World} {rb : Option Addr} {rn rc : Nat} {wb : Option Addr} {wn wc : Nat} {cb : Option Addr} {cn cc : Nat} {R W : List ByteArray} {C : List Ins} (h : DeedIn w rb rn rc wb wn wc cb cn cc R W C) (hb : Below w.heap.size w w') : DeedIn w' rb rn rc wb wn wc cb cn cc R W C :=
  ⟨h.tr.below (by decide) hb, h.tw.below (by decide) hb, h.cd.below (by decide) hb⟩
theorem below_deep {w w1 w2 : World} (h : Below w.heap.size w w1) (k : Below w1.heap.size w1 w2) : Below w.heap.size w w2 := h.trans (k.mono h.size)

theorem box_cell (w : World) (vs : Array Value) (t : TypeId) (j : Nat) (v : Value) (h : vs[j]? = some v) : (w.alloc (.cells vs t)).cell? ⟨w.heap.size, j, none⟩ = some v := by
  rw [World.cell?_alloc_at _ _ _ _ rfl]; exact h
theorem box_past {w : World} {b x : Nat} {v : Value} (o : Obj) (h : w.cell? ⟨b, x, none⟩ = some v) : (w.alloc o).cell? ⟨b, x, none⟩ = some v := cell_past o h
theorem kept_cell {w w' : World} {b x : Nat} {v : Value} (hb : Below w.heap.size w w') (h : w.cell? ⟨b, x, none⟩ = some v) : w'.cell? ⟨b, x, none⟩ = some v := by
  have := World.block_lt_of_cell? _ _ h
  rw [hb.cell (p := ⟨b, x, none⟩) this]; exact h

theorem size_nil {s : ByteArray} (h : s.size = 0) : s = ⟨#[]⟩ := by
  cases s with | mk d => simpa [ByteArray.size] using h
theorem size_ne {s : ByteArray} (h : s.size ≠ 0) : (s.toList == []) = false := by
  rw [ByteArray.toList_eq]
  cases s with | mk d => simpa [ByteArray.size] using h

theorem wIns_3 {R W : List ByteArray} {i : Ins} {b : Int} (h1 : 1 ≤ i.kind) (h2 : i.kind ≤ 9) (h : regsFit i = false ∨ numFit i b = false) : wIns R W i b = 3 := by
  unfold wIns; rw [if_neg (by omega), if_pos h]
theorem wIns_on {R W : List ByteArray} {i : Ins} {b : Int} (h1 : 1 ≤ i.kind) (h2 : i.kind ≤ 9) (hr : regsFit i = true) (hn : numFit i b = true) :
    wIns R W i b = if i.kind = 1 then noKey R i.key else if i.kind = 6 ∨ i.kind = 7 then noKey W i.key else if i.key.size = 0 then 0 else 2 := by
  unfold wIns; rw [if_neg (by omega), if_neg (by rw [hr, hn]; simp)]

end Go.Proofs.Ytdnafpenljdinad

namespace Go.Proofs.Ytdnafpenljdinad
open Go.RowKit

/-- Texts are no longer than a text may be. -/
def SmallT (l : List ByteArray) : Prop := ∀ x ∈ l, x.size ≤ maxLen

theorem ne_true {a b : Int} (h : a ≠ b) : (a != b) = true := by simp [h]
theorem ne_false {a b : Int} (h : a = b) : (a != b) = false := by simp [h]

end Go.Proofs.Ytdnafpenljdinad

namespace Go.Proofs.Ytdnafpenljdinad
open Go.ChangeShapes Go.WideShapes Go.ChangeAt Go.RowKit Go.Deep Go.Joins

theorem cellsDeed : Try.prog.cellsOf 64 = 3 := by kernel_rfl
theorem cellsInstr : Try.prog.cellsOf 88 = 5 := by kernel_rfl

/-- How a datum tells the room of a slice. -/
def Room {H : Type} (d : DataW H) (cap : Nat) : Prop := (d = .nil ∧ cap = 0) ∨ ∃ elems spare : List (DataW H), d = .slice elems spare ∧ elems.length + spare.length = cap

theorem open_texts {H : Type} {enc : TypeId × Value → H} {W : World} {v : Value} {fuel : Nat} {y : DataW H × List MemPlace}
    (h : DataW.trod enc Try.prog W 0 (fun _ => true) true fuel 61 [v] = some y) :
    ∃ a len cap l, v = .slice a len cap ∧ Texts W a len cap l ∧ SmallT l ∧ Room y.1 cap := by
  rcases open_strings Try.underlying61 Try.underlying9 cellsStr h with ⟨hcs, hx⟩ | ⟨x, len, cap, ss, hcs, _, hl, hm, hss, hx, hcell, hsm⟩
  · simp at hcs
    subst hcs
    rw [hx]
    exact ⟨none, 0, 0, [], rfl, Lies.none _ _, (fun _ h => by cases h), .inl ⟨rfl, rfl⟩⟩
  · simp at hcs
    subst hcs
    simp only [if_true] at hss
    refine ⟨some x, len, cap, ss.take len, rfl, ?_, fun s hs => hsm s (List.mem_of_mem_take hs), ?_⟩
    · refine ⟨by rw [strs_length, List.length_take]; omega, ⟨hl, hm, fun h => by cases h⟩, ?_⟩
      by_cases h0 : len = 0
      · exact .inl h0
      · right
        obtain ⟨b, off, spot⟩ := x
        have hsp : spot = none := by simpa [Addr.add] using World.cell?_spot (hcell 0 (by omega))
        subst hsp
        refine ⟨b, off, rfl, fun j u hu => ?_⟩
        have hj : j < len := by
          have := (List.getElem?_eq_some_iff.1 hu).1
          rw [strs_length, List.length_take] at this; omega
        have h1 := hcell j (by omega)
        rw [Addr.add_lit] at h1
        rw [h1]
        have : (strs (ss.take len))[j]? = some (.string (ss.getD j ByteArray.empty)) := by
          simp [strs, hj, List.getD, show j < ss.length by omega]
        rw [this] at hu
        exact hu
    · rw [hx]
      refine .inr ⟨_, _, rfl, ?_⟩
      simp [Go.ChangeShapes.strs]; omega

set_option maxRecDepth 100000 in
theorem open_codes {H : Type} {enc : TypeId × Value → H} {W : World} {v : Value} {fuel : Nat} {y : DataW H × List MemPlace}
    (h : DataW.trod enc Try.prog W 0 (fun _ => true) true fuel 62 [v] = some y) :
    ∃ a len cap l, v = .slice a len cap ∧ Codes W a len cap l ∧ Room y.1 cap := by
  rcases open_slice Try.underlying62 h with ⟨hcs, hx⟩ | ⟨x, len, cap, m, n, D, Pl, hcs, _, hl, hm, hmm, hx, hcell⟩
  · simp at hcs
    subst hcs
    rw [hx]
    exact ⟨none, 0, 0, [], rfl, Lies.none _ _, .inl ⟨rfl, rfl⟩⟩
  · simp at hcs
    subst hcs
    simp only [if_true] at hmm
    subst hmm
    have hroom : Room y.1 m := by rw [hx]; exact .inr ⟨_, _, rfl, by simp; omega⟩
    have each : ∀ i, i < len → ∃ q : Ins, W.cell? (x.add (i * 5)) = some (.int .i64 q.kind) ∧ W.cell? (x.add (i * 5 + 1)) = some (.int .i64 q.a) ∧ W.cell? (x.add (i * 5 + 2)) = some (.int .i64 q.b) ∧ W.cell? (x.add (i * 5 + 3)) = some (.int .i64 q.n) ∧ W.cell? (x.add (i * 5 + 4)) = some (.string q.key) := by
      intro i hi
      obtain ⟨cs', h1, h2⟩ := hcell i (by omega)
      rw [cellsInstr] at h1
      obtain ⟨_, hlen, hc⟩ := World.cells?_some h1
      obtain ⟨xs, k, _, _, _, hxl, hf⟩ := DataW.trod_struct Try.underlying88 h2
      match cs', hlen, xs, hxl with
      | [v0, v1, v2, v3, v4], _, [y0, y1, y2, y3, y4], _ =>
        have g0 := hf 0 _ rfl
        have g1 := hf 1 _ rfl
        have g2 := hf 2 _ rfl
        have g3 := hf 3 _ rfl
        have g4 := hf 4 _ rfl
        simp [cellsInt, cellsStr] at g0 g1 g2 g3 g4
        have e0 := hc 0 (by omega)
        have e1 := hc 1 (by omega)
        have e2 := hc 2 (by omega)
        have e3 := hc 3 (by omega)
        have e4 := hc 4 (by omega)
        rw [add_add] at e0 e1 e2 e3 e4
        obtain ⟨q0, hq0, _, _⟩ := DataW.trod_int Try.underlying3 g0
        obtain ⟨q1, hq1, _, _⟩ := DataW.trod_int Try.underlying3 g1
        obtain ⟨q2, hq2, _, _⟩ := DataW.trod_int Try.underlying3 g2
        obtain ⟨q3, hq3, _, _⟩ := DataW.trod_int Try.underlying3 g3
        obtain ⟨q4, hq4, _, _⟩ := DataW.trod_string Try.underlying9 g4
        simp at hq0 hq1 hq2 hq3 hq4
        subst hq0 hq1 hq2 hq3 hq4
        exact ⟨(q0, q1, q2, q3, q4), by simpa using e0, by simpa using e1, by simpa using e2, by simpa using e3, by simpa using e4⟩
    obtain ⟨q, hq⟩ := choose_lt each
    have hget : ∀ i, i < len → ((List.range len).map q).getD i default = q i := fun i hi => by simp [List.getD, hi]
    refine ⟨some x, len, m, (List.range len).map q, rfl, ?_, hroom⟩
    refine ⟨by rw [insCells_length]; simp, ⟨hl, hm, fun h => by cases h⟩, ?_⟩
    by_cases h0 : len = 0
    · exact .inl h0
    right
    obtain ⟨b, off, spot⟩ := x
    have hsp : spot = none := by simpa [Addr.add] using World.cell?_spot (hq 0 (by omega)).1
    subst hsp
    refine ⟨b, off, rfl, fun j u hu => ?_⟩
    have hj : j < len * 5 := by
      have := (List.getElem?_eq_some_iff.1 hu).1
      rw [insCells_length] at this; simpa using this
    have hjl : j / 5 < len := by omega
    have hat := insCells_at ((List.range len).map q) (j / 5) (by simpa using hjl) (j % 5)
    rw [hget _ hjl, show j / 5 * 5 + j % 5 = j from by omega] at hat
    obtain ⟨r0, r1, r2, r3, r4⟩ := hq _ hjl
    rw [Addr.add_lit] at r0 r1 r2 r3 r4
    have hm5 : j % 5 = 0 ∨ j % 5 = 1 ∨ j % 5 = 2 ∨ j % 5 = 3 ∨ j % 5 = 4 := by omega
    rcases hm5 with e | e | e | e | e <;> rw [e] at hat
    · have h2 := hat _ rfl
      rw [hu] at h2
      rw [show off + j = off + j / 5 * 5 from by omega, r0]; exact h2.symm
    · have h2 := hat _ rfl
      rw [hu] at h2
      rw [show off + j = off + (j / 5 * 5 + 1) from by omega, r1]; exact h2.symm
    · have h2 := hat _ rfl
      rw [hu] at h2
      rw [show off + j = off + (j / 5 * 5 + 2) from by omega, r2]; exact h2.symm
    · have h2 := hat _ rfl
      rw [hu] at h2
      rw [show off + j = off + (j / 5 * 5 + 3) from by omega, r3]; exact h2.symm
    · have h2 := hat _ rfl
      rw [hu] at h2
      rw [show off + j = off + (j / 5 * 5 + 4) from by omega, r4]; exact h2.symm

set_option maxRecDepth 100000 in
/-- A deed that is read. -/
theorem open_deed {H : Type} {enc : TypeId × Value → H} {W : World} {r : Reach} {b0 : Nat} {v : Value} {d : DataW H} {p : List MemPlace}
    (hv : Value.okWide Try.prog W r b0 64 v) (h : DataW.Trod enc Try.prog W 0 (fun _ => true) true 64 v d p) :
    ∃ rb rn rc wb wn wc cb cn cc R Wr C, v = .agg #[.slice rb rn rc, .slice wb wn wc, .slice cb cn cc] ∧ DeedIn W rb rn rc wb wn wc cb cn cc R Wr C ∧ SmallT R ∧ SmallT Wr ∧
      ∃ d0 d1 d2 : DataW H, d = .agg [d0, d1, d2] ∧ Room d0 rc ∧ Room d1 wc ∧ Room d2 cc := by
  obtain ⟨v0, v1, v2, y0, y1, y2, n, rfl, rfl, rfl, h0, h1, h2⟩ := open_agg3 Try.underlying64 (by kernel_rfl) cellsDeed hv h
  obtain ⟨rb, rn, rc, R, rfl, t0, s0, m0⟩ := open_texts h0
  obtain ⟨wb, wn, wc, Wr, rfl, t1, s1, m1⟩ := open_texts h1
  obtain ⟨cb, cn, cc, C, rfl, t2, m2⟩ := open_codes h2
  exact ⟨rb, rn, rc, wb, wn, wc, cb, cn, cc, R, Wr, C, rfl, ⟨t0, t1, t2⟩, s0, s1, _, _, _, rfl, m0, m1, m2⟩
end Go.Proofs.Ytdnafpenljdinad

namespace Go.Proofs.Ytdnafpenljdinad

theorem get_found {k : ByteArray} : ∀ {l : List Row} {i : Nat}, Srt l → i < l.length → (l.getD i default).1 = k → isAt k l = true ∧ num k l = (l.getD i default).2
  | [], _, _, h, _ => absurd h (Nat.not_lt_zero _)
  | x :: l, 0, _, _, h => by
    have h' : x.1 = k := by simpa using h
    simp [isAt, num, h', less_irrefl]
  | x :: l, i + 1, hs, hi, h => by
    obtain ⟨hx, hl⟩ := srt_cons.1 hs
    have hi' : i < l.length := by simpa using hi
    have h' : (l.getD i default).1 = k := by simpa using h
    have hlt : less x.1 k = true := by rw [← h']; exact hx _ (mem_getD hi')
    have ih := get_found hl hi' h'
    rw [isAt, num, if_pos hlt, if_pos hlt]
    exact ⟨ih.1, by rw [ih.2]; simp⟩
theorem get_none {k : ByteArray} : ∀ {l : List Row}, (∀ j, j < l.length → (l.getD j default).1 ≠ k) → isAt k l = false ∧ num k l = 0
  | [], _ => ⟨rfl, rfl⟩
  | x :: l, h => by
    have h0 := h 0 (by simp)
    simp at h0
    have ih := get_none (l := l) fun j hj => by simpa using h (j + 1) (by simpa using hj)
    rcases less_cases x.1 k with g | g | g
    · simp [isAt, num, g, ih]
    · exact absurd g h0
    · simp [isAt, num, g, less_asymm g]

/-- Are all keys below k? -/
def allLess (k : ByteArray) (p : List Row) : Bool := p.all fun y => less y.1 k
/-- What Put comes to: k has n, or nothing. -/
def refOut (has : Bool) (k : ByteArray) (n : Int) (p : List Row) : List Row := if has = true then ins k n p else del k p
/-- What is there while it goes on, behind the rows p. -/
def stOut (has : Bool) (k : ByteArray) (n : Int) (p : List Row) : List Row := if allLess k p = true then p else refOut has k n p

theorem allLess_snoc (k : ByteArray) (p : List Row) (x : Row) : allLess k (p ++ [x]) = (allLess k p && less x.1 k) := by simp [allLess]

theorem ins_less {k : ByteArray} {n : Int} {q : List Row} : ∀ {p : List Row}, allLess k p = true → ins k n (p ++ q) = p ++ ins k n q
  | [], _ => rfl
  | x :: p, h => by
    have h' : less x.1 k = true ∧ allLess k p = true := by simpa [allLess] using h
    simp [ins, h'.1, ins_less h'.2]
theorem del_less {k : ByteArray} {q : List Row} : ∀ {p : List Row}, allLess k p = true → del k (p ++ q) = p ++ del k q
  | [], _ => rfl
  | x :: p, h => by
    have h' : less x.1 k = true ∧ allLess k p = true := by simpa [allLess] using h
    simp [del, h'.1, del_less h'.2]
theorem ins_done {k : ByteArray} {n : Int} {q : List Row} : ∀ {p : List Row}, allLess k p = false → ins k n (p ++ q) = ins k n p ++ q
  | [], h => by simp [allLess] at h
  | x :: p, h => by
    cases g : less x.1 k with
    | true =>
      have h' : allLess k p = false := by simpa [allLess, g] using h
      simp [ins, g, ins_done h']
    | false => cases g2 : less k x.1 <;> simp [ins, g, g2]
theorem del_done {k : ByteArray} {q : List Row} : ∀ {p : List Row}, allLess k p = false → del k (p ++ q) = del k p ++ q
  | [], h => by simp [allLess] at h
  | x :: p, h => by
    cases g : less x.1 k with
    | true =>
      have h' : allLess k p = false := by simpa [allLess, g] using h
      simp [del, g, del_done h']
    | false => cases g2 : less k x.1 <;> simp [del, g, g2]

theorem st_less {has : Bool} {k : ByteArray} {n : Int} {p : List Row} {x : Row} (h : allLess k p = true) (hx : less x.1 k = true) : stOut has k n (p ++ [x]) = stOut has k n p ++ [x] := by
  simp [stOut, allLess_snoc, h, hx]
theorem st_eq {has : Bool} {k : ByteArray} {n : Int} {p : List Row} {x : Row} (h : allLess k p = true) (hx : x.1 = k) : stOut has k n (p ++ [x]) = stOut has k n p ++ if has = true then [(k, n)] else [] := by
  cases has <;> simp [stOut, allLess_snoc, h, hx, less_irrefl, refOut, ins_less h, del_less h, ins, del]
theorem st_more {has : Bool} {k : ByteArray} {n : Int} {p : List Row} {x : Row} (h : allLess k p = true) (hx : less k x.1 = true) : stOut has k n (p ++ [x]) = (stOut has k n p ++ if has = true then [(k, n)] else []) ++ [x] := by
  cases has <;> simp [stOut, allLess_snoc, h, hx, less_asymm hx, refOut, ins_less h, del_less h, ins, del]
theorem st_done {has : Bool} {k : ByteArray} {n : Int} {p : List Row} {x : Row} (h : allLess k p = false) : stOut has k n (p ++ [x]) = stOut has k n p ++ [x] := by
  cases has <;> simp [stOut, allLess_snoc, h, refOut, ins_done h, del_done h]
theorem st_end {has : Bool} {k : ByteArray} {n : Int} {p : List Row} (h : allLess k p = true) : refOut has k n p = stOut has k n p ++ if has = true then [(k, n)] else [] := by
  have e1 := ins_less (n := n) (q := []) h
  have e2 := del_less (q := []) h
  simp only [List.append_nil] at e1 e2
  cases has <;> simp [stOut, h, refOut, e1, e2, ins, del]
theorem st_fin {has : Bool} {k : ByteArray} {n : Int} {p : List Row} (h : allLess k p = false) : refOut has k n p = stOut has k n p := by simp [stOut, h]

/-- Who comes behind one that is not below k is above k. -/
theorem more_of_done {k : ByteArray} {l : List Row} {i : Nat} (hs : Srt l) (hi : i < l.length) (h : allLess k (l.take i) = false) : less k (l.getD i default).1 = true := by
  simp only [allLess, List.all_eq_false] at h
  obtain ⟨y, hy, hn⟩ := h
  obtain ⟨j, hj, e⟩ := List.getElem_of_mem hy
  have hj' : j < i := by simp at hj; omega
  have h1 := srt_getD hs hj' hi
  have e' : l.getD j default = y := by rw [← e]; simp [List.getD, show j < l.length by omega]
  rw [e'] at h1
  rcases less_cases y.1 k with g | g | g
  · exact absurd g (by simpa using hn)
  · rw [← g]; exact h1
  · exact less_trans g h1
theorem take_next {l : List Row} {i : Nat} (h : i < l.length) : l.take (i + 1) = l.take i ++ [l.getD i default] := by
  rw [List.take_succ_eq_append_getElem h]; simp [List.getD, h]
theorem stOut_len {has : Bool} {k : ByteArray} {n : Int} {p : List Row} : (stOut has k n p).length ≤ p.length + 1 := by
  have h1 := ins_length k n p
  have h2 := del_length k p
  unfold stOut refOut
  split
  · omega
  · split <;> omega
end Go.Proofs.Ytdnafpenljdinad
