/-
  How an argument that is a deed is read: its three slices lie there.
  Plain mathematics of the document's own Get and Put: what they come to row by row, of rows that rise.
  Plain mathematics of doing a deed on rows: the rows then are those in which keys have what the deed made, and else what they had.
  Plain mathematics of deeds that are done one by one on rows: what keys have then, that rows stay right, and that deeds which share nothing may go in either order.
  What it means that a slice in memory holds deeds, and ends of deeds.
  How an argument that is deeds is read: each one's three slices lie there.
-/
import Derived.Test.YtlhaeeenkgkdaaaGreatDoorOpen
import Derived.SliceStrings
import Derived.Lib.SmallJoins
import Derived.Test.YtlhaeeenkgkdaaaGreatDoorTextMath
import Derived.Test.YtlhaeeenkgkdaaaGreatDoorAround
namespace Go.Proofs.YtlhaeeenkgkdaaaGreatDoor
open Go.ChangeShapes Go.WideShapes Go.ChangeAt Go.RowKit Go.Deep Go.Joins

theorem cellsDeed : Tryz.prog.cellsOf 44 = 3 := by kernel_rfl
theorem cellsInstr : Tryz.prog.cellsOf 72 = 5 := by kernel_rfl

def Room {H : Type} (d : DataW H) (cap : Nat) : Prop := (d = .nil ∧ cap = 0) ∨ ∃ elems spare : List (DataW H), d = .slice elems spare ∧ elems.length + spare.length = cap

theorem open_texts {H : Type} {enc : TypeId × Value → H} {W : World} {v : Value} {fuel : Nat} {y : DataW H × List MemPlace}
   (h : DataW.trod enc Tryz.prog W 0 (fun _ => true) true fuel 41 [v] = some y) :
   ∃ a len cap l, v = .slice a len cap ∧ Texts W a len cap l ∧ SmallT l ∧ Room y.1 cap := by
 rcases open_strings Tryz.underlying41 Tryz.underlying9 cellsStr h with ⟨hcs, hx⟩ | ⟨x, len, cap, ss, hcs, _, hl, hm, hss, hx, hcell, hsm⟩
 · simp at hcs
   subst hcs
   rw [hx]
   exact ⟨none, 0, 0, [], rfl, Lies.none _ _, (fun _ h => by cases h), .inl ⟨rfl, rfl⟩⟩
 · simp at hcs
   subst hcs
   simp only [if_true] at hss
   refine ⟨some x, len, cap, ss.take len, rfl, ?_, fun s hs => hsm s (List.mem_of_mem_take hs), ?_⟩
   · refine ⟨by rw [strs_length, List.length_take]; omega, ⟨hl, hm, fun h => by cases h⟩, ?_⟩
     by_cases h0 : len = 0
     · exact .inl h0
     · right
       obtain ⟨b, off, spot⟩ := x
       have hsp : spot = none := by simpa [Addr.add] using World.cell?_spot (hcell 0 (by omega))
       subst hsp
       refine ⟨b, off, rfl, fun j u hu => ?_⟩
       have hj : j < len := by
         have := (List.getElem?_eq_some_iff.1 hu).1
         rw [strs_length, List.length_take] at this; omega
       have h1 := hcell j (by omega)
       rw [Addr.add_lit] at h1
       rw [h1]
       have : (strs (ss.take len))[j]? = some (.string (ss.getD j ByteArray.empty)) := by
         simp [strs, hj, List.getD, show j < ss.length by omega]
       rw [this] at hu
       exact hu
   · rw [hx]
     refine .inr ⟨_, _, rfl, ?_⟩
     simp [Go.ChangeShapes.strs]; omega

set_option maxRecDepth 100000 in
theorem open_codes {H : Type} {enc : TypeId × Value → H} {W : World} {v : Value} {fuel : Nat} {y : DataW H × List MemPlace}
   (h : DataW.trod enc Tryz.prog W 0 (fun _ => true) true fuel 42 [v] = some y) :
   ∃ a len cap l, v = .slice a len cap ∧ Codes W a len cap l ∧ Room y.1 cap := by
 rcases open_slice Tryz.underlying42 h with ⟨hcs, hx⟩ | ⟨x, len, cap, m, n, D, Pl, hcs, _, hl, hm, hmm, hx, hcell⟩
 · simp at hcs
   subst hcs
   rw [hx]
   exact ⟨none, 0, 0, [], rfl, Lies.none _ _, .inl ⟨rfl, rfl⟩⟩
 · simp at hcs
   subst hcs
   simp only [if_true] at hmm
   subst hmm
   have hroom : Room y.1 m := by rw [hx]; exact .inr ⟨_, _, rfl, by simp; omega⟩
   have each : ∀ i, i < len → ∃ q : Ins, W.cell? (x.add (i * 5)) = some (.int .i64 q.kind) ∧ W.cell? (x.add (i * 5 + 1)) = some (.int .i64 q.a) ∧ W.cell? (x.add (i * 5 + 2)) = some (.int .i64 q.b) ∧ W.cell? (x.add (i * 5 + 3)) = some (.int .i64 q.n) ∧ W.cell? (x.add (i * 5 + 4)) = some (.string q.key) := by
     intro i hi
     obtain ⟨cs', h1, h2⟩ := hcell i (by omega)
     rw [cellsInstr] at h1
     obtain ⟨_, hlen, hc⟩ := World.cells?_some h1
     obtain ⟨xs, k, _, _, _, hxl, hf⟩ := DataW.trod_struct Tryz.underlying72 h2
     match cs', hlen, xs, hxl with
     | [v0, v1, v2, v3, v4], _, [y0, y1, y2, y3, y4], _ =>
       have g0 := hf 0 _ rfl
       have g1 := hf 1 _ rfl
       have g2 := hf 2 _ rfl
       have g3 := hf 3 _ rfl
       have g4 := hf 4 _ rfl
       simp [cellsInt, cellsStr] at g0 g1 g2 g3 g4
       have e0 := hc 0 (by omega)
       have e1 := hc 1 (by omega)
       have e2 := hc 2 (by omega)
       have e3 := hc 3 (by omega)
       have e4 := hc 4 (by omega)
       rw [add_add] at e0 e1 e2 e3 e4
       obtain ⟨q0, hq0, _, _⟩ := DataW.trod_int Tryz.underlying3 g0
       obtain ⟨q1, hq1, _, _⟩ := DataW.trod_int Tryz.underlying3 g1
       obtain ⟨q2, hq2, _, _⟩ := DataW.trod_int Tryz.underlying3 g2
       obtain ⟨q3, hq3, _, _⟩ := DataW.trod_int Tryz.underlying3 g3
       obtain ⟨q4, hq4, _, _⟩ := DataW.trod_string Tryz.underlying9 g4
       simp at hq0 hq1 hq2 hq3 hq4
       subst hq0 hq1 hq2 hq3 hq4
       exact ⟨(q0, q1, q2, q3, q4), by simpa using e0, by simpa using e1, by simpa using e2, by simpa using e3, by simpa using e4⟩
   obtain ⟨q, hq⟩ := choose_lt each
   have hget : ∀ i, i < len → ((List.range len).map q).getD i default = q i := fun i hi => by simp [List.getD, hi]
   refine ⟨some x, len, m, (List.range len).map q, rfl, ?_, hroom⟩
   refine ⟨by rw [insCells_length]; simp, ⟨hl, hm, fun h => by cases h⟩, ?_⟩
   by_cases h0 : len = 0
   · exact .inl h0
   right
   obtain ⟨b, off, spot⟩ := x
   have hsp : spot = none := by simpa [Addr.add] using World.cell?_spot (hq 0 (by omega)).1
   subst hsp
   refine ⟨b, off, rfl, fun j u hu => ?_⟩
   have hj : j < len * 5 := by
     have := (List.getElem?_eq_some_iff.1 hu).1
     rw [insCells_length] at this; simpa using this
   have hjl : j / 5 < len := by omega
   have hat := insCells_at ((List.range len).map q) (j / 5) (by simpa using hjl) (j % 5)
   rw [hget _ hjl, show j / 5 * 5 + j % 5 = j from by omega] at hat
   obtain ⟨r0, r1, r2, r3, r4⟩ := hq _ hjl
   rw [Addr.add_lit] at r0 r1 r2 r3 r4
   have hm5 : j % 5 = 0 ∨ j % 5 = 1 ∨ j % 5 = 2 ∨ j % 5 = 3 ∨ j % 5 = 4 := by omega
   rcases hm5 with e | e | e | e | e <;> rw [e] at hat
   · have h2 := hat _ rfl
     rw [hu] at h2
     rw [show off + j = off + j / 5 * 5 from by omega, r0]; exact h2.symm
   · have h2 := hat _ rfl
     rw [hu] at h2
     rw [show off + j = off + (j / 5 * 5 + 1) from by omega, r1]; exact h2.symm
   · have h2 := hat _ rfl
     rw [hu] at h2
     rw [show off + j = off + (j / 5 * 5 + 2) from by omega, r2]; exact h2.symm
   · have h2 := hat _ rfl
     rw [hu] at h2
     rw [show off + j = off + (j / 5 * 5 + 3) from by omega, r3]; exact h2.symm
   · have h2 := hat _ rfl
     rw [hu] at h2
     rw [show off + j = off + (j / 5 * 5 + 4) from by omega, r4]; exact h2.symm

end Go.Proofs.YtlhaeeenkgkdaaaGreatDoor

namespace Go.Proofs.YtlhaeeenkgkdaaaGreatDoor

theorem get_found {k : ByteArray} : ∀ {l : List Row} {i : Nat}, Srt l → i < l.length → (l.getD i default).1 = k → isAt k l = true ∧ num k l = (l.getD i default).2
 | [], _, _, h, _ => absurd h (Nat.not_lt_zero _)
 | x :: l, 0, _, _, h => by
   have h' : x.1 = k := by simpa using h
   simp [isAt, num, h', less_irrefl]
 | x :: l, i + 1, hs, hi, h => by
   obtain ⟨hx, hl⟩ := srt_cons.1 hs
   have hi' : i < l.length := by simpa using hi
   have h' : (l.getD i default).1 = k := by simpa using h
   have hlt : less x.1 k = true := by rw [← h']; exact hx _ (mem_getD hi')
   have ih := get_found hl hi' h'
   rw [isAt, num, if_pos hlt, if_pos hlt]
   exact ⟨ih.1, by rw [ih.2]; simp⟩
theorem get_none {k : ByteArray} : ∀ {l : List Row}, (∀ j, j < l.length → (l.getD j default).1 ≠ k) → isAt k l = false ∧ num k l = 0
 | [], _ => ⟨rfl, rfl⟩
 | x :: l, h => by
   have h0 := h 0 (by simp)
   simp at h0
   have ih := get_none (l := l) fun j hj => by simpa using h (j + 1) (by simpa using hj)
   rcases less_cases x.1 k with g | g | g
   · simp [isAt, num, g, ih]
   · exact absurd g h0
   · simp [isAt, num, g, less_asymm g]

def allLess (k : ByteArray) (p : List Row) : Bool := p.all fun y => less y.1 k
def refOut (has : Bool) (k : ByteArray) (n : Int) (p : List Row) : List Row := if has = true then ins k n p else del k p
def stOut (has : Bool) (k : ByteArray) (n : Int) (p : List Row) : List Row := if allLess k p = true then p else refOut has k n p

theorem allLess_snoc (k : ByteArray) (p : List Row) (x : Row) : allLess k (p ++ [x]) = (allLess k p && less x.1 k) := by simp [allLess]

theorem ins_less {k : ByteArray} {n : Int} {q : List Row} : ∀ {p : List Row}, allLess k p = true → ins k n (p ++ q) = p ++ ins k n q
 | [], _ => rfl
 | x :: p, h => by
   have h' : less x.1 k = true ∧ allLess k p = true := by simpa [allLess] using h
   simp [ins, h'.1, ins_less h'.2]
theorem del_less {k : ByteArray} {q : List Row} : ∀ {p : List Row}, allLess k p = true → del k (p ++ q) = p ++ del k q
 | [], _ => rfl
 | x :: p, h => by
   have h' : less x.1 k = true ∧ allLess k p = true := by simpa [allLess] using h
   simp [del, h'.1, del_less h'.2]
theorem ins_done {k : ByteArray} {n : Int} {q : List Row} : ∀ {p : List Row}, allLess k p = false → ins k n (p ++ q) = ins k n p ++ q
 | [], h => by simp [allLess] at h
 | x :: p, h => by
   cases g : less x.1 k with
   | true =>
     have h' : allLess k p = false := by simpa [allLess, g] using h
     simp [ins, g, ins_done h']
   | false => cases g2 : less k x.1 <;> simp [ins, g, g2]
theorem del_done {k : ByteArray} {q : List Row} : ∀ {p : List Row}, allLess k p = false → del k (p ++ q) = del k p ++ q
 | [], h => by simp [allLess] at h
 | x :: p, h => by
   cases g : less x.1 k with
   | true =>
     have h' : allLess k p = false := by simpa [allLess, g] using h
     simp [del, g, del_done h']
   | false => cases g2 : less k x.1 <;> simp [del, g, g2]

theorem st_less {has : Bool} {k : ByteArray} {n : Int} {p : List Row} {x : Row} (h : allLess k p = true) (hx : less x.1 k = true) : stOut has k n (p ++ [x]) = stOut has k n p ++ [x] := by
 simp [stOut, allLess_snoc, h, hx]
theorem st_eq {has : Bool} {k : ByteArray} {n : Int} {p : List Row} {x : Row} (h : allLess k p = true) (hx : x.1 = k) : stOut has k n (p ++ [x]) = stOut has k n p ++ if has = true then [(k, n)] else [] := by
 cases has <;> simp [stOut, allLess_snoc, h, hx, less_irrefl, refOut, ins_less h, del_less h, ins, del]
theorem st_more {has : Bool} {k : ByteArray} {n : Int} {p : List Row} {x : Row} (h : allLess k p = true) (hx : less k x.1 = true) : stOut has k n (p ++ [x]) = (stOut has k n p ++ if has = true then [(k, n)] else []) ++ [x] := by
 cases has <;> simp [stOut, allLess_snoc, h, hx, less_asymm hx, refOut, ins_less h, del_less h, ins, del]
theorem st_done {has : Bool} {k : ByteArray} {n : Int} {p : List Row} {x : Row} (h : allLess k p = false) : stOut has k n (p ++ [x]) = stOut has k n p ++ [x] := by
 cases has <;> simp [stOut, allLess_snoc, h, refOut, ins_done h, del_done h]
theorem st_end {has : Bool} {k : ByteArray} {n : Int} {p : List Row} (h : allLess k p = true) : refOut has k n p = stOut has k n p ++ if has = true then [(k, n)] else [] := by
 have e1 := ins_less (n := n) (q := []) h
 have e2 := del_less (q := []) h
 simp only [List.append_nil] at e1 e2
 cases has <;> simp [stOut, h, refOut, e1, e2, ins, del]
theorem st_fin {has : Bool} {k : ByteArray} {n : Int} {p : List Row} (h : allLess k p = false) : refOut has k n p = stOut has k n p := by simp [stOut, h]

theorem more_of_done {k : ByteArray} {l : List Row} {i : Nat} (hs : Srt l) (hi : i < l.length) (h : allLess k (l.take i) = false) : less k (l.getD i default).1 = true := by
 simp only [allLess, List.all_eq_false] at h
 obtain ⟨y, hy, hn⟩ := h
 obtain ⟨j, hj, e⟩ := List.getElem_of_mem hy
 have hj' : j < i := by simp at hj; omega
 have h1 := srt_getD hs hj' hi
 have e' : l.getD j default = y := by rw [← e]; simp [List.getD, show j < l.length by omega]
 rw [e'] at h1
 rcases less_cases y.1 k with g | g | g
 · exact absurd g (by simpa using hn)
 · rw [← g]; exact h1
 · exact less_trans g h1
theorem take_next {l : List Row} {i : Nat} (h : i < l.length) : l.take (i + 1) = l.take i ++ [l.getD i default] := by
 rw [List.take_succ_eq_append_getElem h]; simp [List.getD, h]
end Go.Proofs.YtlhaeeenkgkdaaaGreatDoor

namespace Go.Proofs.YtlhaeeenkgkdaaaGreatDoor
open Go.RowKit

def isThere (l : List Row) (m : Made) (k : ByteArray) : Bool := match m k with
 | some (some _) => true
 | some none => false
 | none => isAt k l
structure Over (L l : List Row) (m : Made) : Prop where
 srt : Srt L
 at_ : ∀ k, isAt k L = isThere l m k
 num_ : ∀ k, num k L = look (fun k => num k l) m k

theorem Over.start {l : List Row} (h : Srt l) : Over l l (fun _ => none) := ⟨h, fun _ => rfl, fun _ => rfl⟩
theorem Over.ins {L l : List Row} {m : Made} (h : Over L l m) (k : ByteArray) (n : Int) : Over (ins k n L) l (setM m k (some n)) := by
 refine ⟨srt_ins h.srt, fun j => ?_, fun j => ?_⟩
 · by_cases e : j = k
   · subst e; rw [isAt_ins]; simp [isThere, setM]
   · rw [(other_ins n e L h.srt).1, h.at_ j]; simp [isThere, setM, e]
 · by_cases e : j = k
   · subst e; rw [num_ins]; simp [look, setM]
   · rw [(other_ins n e L h.srt).2, h.num_ j]; simp [look, setM, e]
theorem num_del (k : ByteArray) {l : List Row} (h : Srt l) : num k (del k l) = 0 := num_not k _ (isAt_del k l h)
theorem Over.del {L l : List Row} {m : Made} (h : Over L l m) (k : ByteArray) : Over (del k L) l (setM m k none) := by
 refine ⟨srt_del h.srt, fun j => ?_, fun j => ?_⟩
 · by_cases e : j = k
   · subst e; rw [isAt_del _ _ h.srt]; simp [isThere, setM]
   · rw [(other_del e L h.srt).1, h.at_ j]; simp [isThere, setM, e]
 · by_cases e : j = k
   · subst e; rw [num_del _ h.srt]; simp [look, setM]
   · rw [(other_del e L h.srt).2, h.num_ j]; simp [look, setM, e]

theorem srt_ext : ∀ {a b : List Row}, Srt a → Srt b → (∀ k, isAt k a = isAt k b) → (∀ k, num k a = num k b) → a = b
 | [], [], _, _, _, _ => rfl
 | [], y :: b, _, _, h, _ => by
   have := h y.1
   simp [isAt, less_irrefl] at this
 | x :: a, [], _, _, h, _ => by
   have := h x.1
   simp [isAt, less_irrefl] at this
 | x :: a, y :: b, ha, hb, h, hn => by
   obtain ⟨hx, ha'⟩ := srt_cons.1 ha
   obtain ⟨hy, hb'⟩ := srt_cons.1 hb
   have e1 : x.1 = y.1 := by
     rcases less_cases x.1 y.1 with g | g | g
     · have := h x.1
       simp [isAt, less_irrefl, g, less_asymm g] at this
     · exact g
     · have := h y.1
       simp [isAt, less_irrefl, g, less_asymm g] at this
   have e2 : x.2 = y.2 := by
     have := hn x.1
     rw [num, num, e1] at this
     simpa [less_irrefl] using this
   have exy : x = y := Prod.ext e1 e2
   subst exy
   have step : ∀ k, isAt k a = isAt k b ∧ num k a = num k b := by
     intro k
     have h1 := h k
     have h2 := hn k
     rcases less_cases x.1 k with g | g | g
     · simp only [isAt, num, g, if_true] at h1 h2
       exact ⟨h1, h2⟩
     · have f1 := isAt_front (k := k) (l := a) fun y hy => by rw [← g]; exact hx y hy
       have f2 := isAt_front (k := k) (l := b) fun y hy' => by rw [← g]; exact hy y hy'
       rw [f1.1, f1.2, f2.1, f2.2]; exact ⟨rfl, rfl⟩
     · have f1 := isAt_front (k := k) (l := a) fun y hy => less_trans g (hx y hy)
       have f2 := isAt_front (k := k) (l := b) fun y hy' => less_trans g (hy y hy')
       rw [f1.1, f1.2, f2.1, f2.2]; exact ⟨rfl, rfl⟩
   rw [srt_ext ha' hb' (fun k => (step k).1) (fun k => (step k).2)]
theorem Over.one {L L' l : List Row} {m : Made} (h : Over L l m) (h' : Over L' l m) : L = L' :=
 srt_ext h.srt h'.srt (fun k => by rw [h.at_, h'.at_]) (fun k => by rw [h.num_, h'.num_])

def putOne (l : List Row) (x : ByteArray × Option Int) : List Row := match x.2 with
 | some n => ins x.1 n l
 | none => del x.1 l
def madeOf (V : List (ByteArray × Option Int)) (m0 : Made) : Made := V.foldl (fun m x => setM m x.1 x.2) m0
theorem over_foldl : ∀ (V : List (ByteArray × Option Int)) (L l : List Row) (m : Made), Over L l m → Over (V.foldl putOne L) l (madeOf V m)
 | [], _, _, _, h => h
 | (k, some n) :: V, L, l, _, h => over_foldl V (ins k n L) l _ (h.ins k n)
 | (k, none) :: V, L, l, _, h => over_foldl V (del k L) l _ (h.del k)
theorem has_cons (w : ByteArray) (W : List ByteArray) (k : ByteArray) : has (w :: W) k = (decide (w = k) || has W k) := by simp [has]
theorem madeOf_vers (m : Made) : ∀ (W : List ByteArray) (m0 : Made), (∀ k, m0 k = none ∨ m0 k = m k) → ∀ k, madeOf (vers m W) m0 k = if (has W k && (m k).isSome) = true then m k else m0 k
 | [], m0, _, k => by simp [vers, madeOf, has]
 | w :: W, m0, h, k => by
   have hv : vers m (w :: W) = (match m w with | some o => [(w, o)] | none => []) ++ vers m W := by
     unfold vers
     rw [List.filterMap_cons]
     cases e : m w <;> simp
   rw [hv, has_cons]
   cases e : m w with
   | none =>
     simp only [List.nil_append]
     rw [madeOf_vers m W m0 h k]
     by_cases ek : w = k
     · subst ek; simp [e]
     · simp [ek]
   | some o =>
     show madeOf (vers m W) (setM m0 w o) k = _
     have h2 : ∀ j, setM m0 w o j = none ∨ setM m0 w o j = m j := by
       intro j
       by_cases ej : j = w
       · subst ej; right; simp [setM, e]
       · rcases h j with g | g
         · left; simp [setM, ej, g]
         · right; simp [setM, ej, g]
     rw [madeOf_vers m W (setM m0 w o) h2 k]
     by_cases ek : w = k
     · subst ek
       simp [e, setM]
     · have ek' : ¬ k = w := fun x => ek x.symm
       simp [ek, setM, ek']
theorem exec_keys (v : ByteArray → Int) (W : List ByteArray) : ∀ (l : List Ins) (s : Nat) (r : Nat → Int) (m : Made), (∀ i ∈ l, (i.kind = 6 ∨ i.kind = 7) → i.key ∈ W) → (∀ k, (m k).isSome = true → k ∈ W) → ∀ k, ((exec v l s r m).2.1 k).isSome = true → k ∈ W
 | [], _, _, _, _, hm => fun k h => hm k (by simpa [exec] using h)
 | i :: l, s + 1, r, m, hl, hm => fun k h => by
   rw [exec] at h
   exact exec_keys v W l s r m (fun j hj => hl j (by simp [hj])) hm k h
 | i :: l, 0, r, m, hl, hm => fun k h => by
   have hl' : ∀ j ∈ l, (j.kind = 6 ∨ j.kind = 7) → j.key ∈ W := fun j hj => hl j (by simp [hj])
   have hset : ∀ o, (i.kind = 6 ∨ i.kind = 7) → ∀ j, (setM m i.key o j).isSome = true → j ∈ W := fun o hk j hj => by
     by_cases e : j = i.key
     · rw [e]; exact hl i (by simp) hk
     · exact hm j (by simpa [setM, e] using hj)
   rw [exec] at h
   split at h
   · exact exec_keys v W l _ _ m hl' hm k h
   split at h
   · exact exec_keys v W l _ _ m hl' hm k h
   split at h
   · exact exec_keys v W l _ _ m hl' hm k h
   split at h
   · exact exec_keys v W l _ _ m hl' hm k h
   split at h
   · exact exec_keys v W l _ _ m hl' hm k h
   split at h
   · rename_i hk
     exact exec_keys v W l _ _ _ hl' (hset _ (.inl hk)) k h
   split at h
   · rename_i hk
     exact exec_keys v W l _ _ _ hl' (hset _ (.inr hk)) k h
   split at h
   · exact exec_keys v W l _ _ m hl' hm k h
   split at h
   · exact hm k h
   · exact exec_keys v W l _ _ m hl' hm k h
theorem right_keys {R W : List ByteArray} {C : List Ins} (h : RightD R W C) : ∀ i ∈ C, (i.kind = 6 ∨ i.kind = 7) → i.key ∈ W := fun i hi hk => by
 obtain ⟨j, hj, rfl⟩ := List.getElem_of_mem hi
 have := (right_instr (h.i j hj)).write
 simp only [List.getD, List.getElem?_eq_getElem hj, Option.getD_some] at this
 exact has_iff.1 (this hk)
end Go.Proofs.YtlhaeeenkgkdaaaGreatDoor

namespace Go.Proofs.YtlhaeeenkgkdaaaGreatDoor
open Go.RowKit

abbrev Deed3 := List ByteArray × List ByteArray × List Ins
abbrev End3 := Bool × (Nat → Int)
def exD (l : List Row) (d : Deed3) : (Nat → Int) × Made × Bool := exec (fun k => num k l) d.2.2 0 zeroR zeroM
def doD (l : List Row) (d : Deed3) : List Row := if (exD l d).2.2 = true then l else (vers (exD l d).2.1 d.2.1).foldl putOne l
def endD (l : List Row) (d : Deed3) : End3 := ((exD l d).2.2, (exD l d).1)
def allD : List Row → List Deed3 → List Row
 | l, [] => l
 | l, d :: ds => allD (doD l d) ds
def RightDD (d : Deed3) : Prop := RightD d.1 d.2.1 d.2.2

theorem exD_keys {l : List Row} {d : Deed3} (h : RightDD d) : ∀ k, ((exD l d).2.1 k).isSome = true → k ∈ d.2.1 :=
 exec_keys _ d.2.1 d.2.2 0 zeroR zeroM (right_keys h) (fun k hk => by simp [zeroM] at hk)
theorem doD_fail {l : List Row} {d : Deed3} (h : (exD l d).2.2 = true) : doD l d = l := if_pos h
theorem doD_over {l : List Row} {d : Deed3} (hs : Srt l) (hd : RightDD d) (h : (exD l d).2.2 = false) : Over (doD l d) l (exD l d).2.1 := by
 have e : doD l d = (vers (exD l d).2.1 d.2.1).foldl putOne l := if_neg (by rw [h]; simp)
 have h1 := over_foldl (vers (exD l d).2.1 d.2.1) l l (fun _ => none) (Over.start hs)
 have e2 : madeOf (vers (exD l d).2.1 d.2.1) (fun _ => none) = (exD l d).2.1 := by
   funext k
   rw [madeOf_vers _ _ _ (fun _ => .inl rfl) k]
   cases e : (exD l d).2.1 k with
   | none => simp
   | some o => simp [has_iff.2 (exD_keys (l := l) hd k (by simp [e]))]
 rw [e2] at h1
 rw [e]; exact h1
theorem over_doD {L l : List Row} {d : Deed3} (hs : Srt l) (hd : RightDD d) (h : (exD l d).2.2 = false) (hL : Over L l (exD l d).2.1) : L = doD l d := hL.one (doD_over hs hd h)
theorem doD_num {l : List Row} {d : Deed3} (hs : Srt l) (hd : RightDD d) (k : ByteArray) : num k (doD l d) = if (exD l d).2.2 = true then num k l else look (fun k => num k l) (exD l d).2.1 k := by
 cases h : (exD l d).2.2 with
 | true => rw [doD_fail h]; simp
 | false => rw [(doD_over hs hd h).num_ k]; simp
theorem doD_at {l : List Row} {d : Deed3} (hs : Srt l) (hd : RightDD d) (k : ByteArray) : isAt k (doD l d) = if (exD l d).2.2 = true then isAt k l else isThere l (exD l d).2.1 k := by
 cases h : (exD l d).2.2 with
 | true => rw [doD_fail h]; simp
 | false => rw [(doD_over hs hd h).at_ k]; simp
theorem doD_else {l : List Row} {d : Deed3} (hs : Srt l) (hd : RightDD d) {k : ByteArray} (hk : k ∉ d.2.1) : num k (doD l d) = num k l ∧ isAt k (doD l d) = isAt k l := by
 have hm : (exD l d).2.1 k = none := by
   cases e : (exD l d).2.1 k with
   | none => rfl
   | some o => exact absurd (exD_keys (l := l) hd k (by simp [e])) hk
 rw [doD_num hs hd, doD_at hs hd]
 constructor
 · split
   · rfl
   · simp [look, hm]
 · split
   · rfl
   · simp [isThere, hm]

theorem rnd_lo (x : Int) : -1073741824 ≤ rnd x := by
 unfold rnd; have := Int.tmod_lt_of_pos (-(wrap64 x)) (show (0 : Int) < 1073741825 by decide); rw [Int.neg_tmod] at this; omega
theorem rnd_hi (x : Int) : rnd x ≤ 1073741824 := by
 unfold rnd; have := Int.tmod_lt_of_pos (wrap64 x) (show (0 : Int) < 1073741825 by decide); omega
def InR (x : Int) : Prop := -1073741824 ≤ x ∧ x ≤ 1073741824
theorem inR_zero : InR 0 := ⟨by decide, by decide⟩
theorem inR_rnd (x : Int) : InR (rnd x) := ⟨rnd_lo x, rnd_hi x⟩
theorem inR_set {r : Nat → Int} (h : ∀ i, InR (r i)) (a : Nat) {x : Int} (hx : InR x) : ∀ i, InR (setR r a x i) := fun i => by
 unfold setR; split
 · exact hx
 · exact h i
def InM (m : Made) : Prop := ∀ k n, m k = some (some n) → InR n
theorem inM_set {m : Made} (h : InM m) (k : ByteArray) {o : Option Int} (ho : ∀ n, o = some n → InR n) : InM (setM m k o) := fun j n e => by
 unfold setM at e; split at e
 · exact ho n (Option.some.inj e)
 · exact h j n e
theorem inR_look {v : ByteArray → Int} {m : Made} (hv : ∀ k, InR (v k)) (hm : InM m) (k : ByteArray) : InR (look v m k) := by
 unfold look; split
 · rename_i n e; exact hm k n e
 · exact inR_zero
 · exact hv k
theorem exec_inR {v : ByteArray → Int} (hv : ∀ k, InR (v k)) : ∀ (l : List Ins) (s : Nat) (r : Nat → Int) (m : Made), (∀ i ∈ l, InR i.n) → (∀ i, InR (r i)) → InM m → (∀ i, InR ((exec v l s r m).1 i)) ∧ InM (exec v l s r m).2.1
 | [], _, r, m, _, hr, hm => by rw [exec]; exact ⟨hr, hm⟩
 | i :: l, s + 1, r, m, hl, hr, hm => by
   rw [exec]; exact exec_inR hv l s r m (fun j hj => hl j (by simp [hj])) hr hm
 | i :: l, 0, r, m, hl, hr, hm => by
   have hl' : ∀ j ∈ l, InR j.n := fun j hj => hl j (by simp [hj])
   rw [exec]
   split
   · exact exec_inR hv l _ _ _ hl' (inR_set hr _ (inR_look hv hm _)) hm
   split
   · exact exec_inR hv l _ _ _ hl' (inR_set hr _ (hl i (by simp))) hm
   split
   · exact exec_inR hv l _ _ _ hl' (inR_set hr _ (inR_rnd _)) hm
   split
   · exact exec_inR hv l _ _ _ hl' (inR_set hr _ (inR_rnd _)) hm
   split
   · exact exec_inR hv l _ _ _ hl' (inR_set hr _ (inR_rnd _)) hm
   split
   · exact exec_inR hv l _ _ _ hl' hr (inM_set hm _ (fun n e => by cases e; exact hr _))
   split
   · exact exec_inR hv l _ _ _ hl' hr (inM_set hm _ (fun n e => by cases e))
   split
   · exact exec_inR hv l _ _ _ hl' hr hm
   split
   · exact ⟨hr, hm⟩
   · exact exec_inR hv l _ _ _ hl' hr hm
theorem num_inR {l : List Row} (h : Right l) (k : ByteArray) : InR (num k l) := by
 induction l with
 | nil => exact inR_zero
 | cons x l ih =>
   have hx : InR x.2 := ⟨h.lo x (by simp), h.hi x (by simp)⟩
   have ht : Right l := ⟨(srt_cons.1 h.srt).2, fun y hy => h.key y (by simp [hy]), fun y hy => h.lo y (by simp [hy]), fun y hy => h.hi y (by simp [hy])⟩
   have hn := ih ht
   unfold num
   repeat' split
   all_goals first | exact hx | exact hn | exact inR_zero
theorem right_nums {d : Deed3} (h : RightDD d) : ∀ i ∈ d.2.2, InR i.n := fun i hi => by
 obtain ⟨j, hj, rfl⟩ := List.getElem_of_mem hi
 have hc := h.c
 have := right_norm (by omega) (h.i j hj)
 simp only [List.getD, List.getElem?_eq_getElem hj, Option.getD_some] at this
 exact ⟨this.lo, this.hi⟩
theorem right_putOne {l : List Row} (h : Right l) {x : ByteArray × Option Int} (hk : keyB x.1 = true) (hn : ∀ n, x.2 = some n → InR n) : Right (putOne l x) := by
 unfold putOne
 split
 · rename_i n e; exact right_ins h hk (hn n e).1 (hn n e).2
 · exact right_del h
theorem right_foldl : ∀ (V : List (ByteArray × Option Int)) {l : List Row}, Right l → (∀ x ∈ V, keyB x.1 = true ∧ ∀ n, x.2 = some n → InR n) → Right (V.foldl putOne l)
 | [], _, h, _ => h
 | x :: V, l, h, hV => right_foldl V (right_putOne h (hV x (by simp)).1 (hV x (by simp)).2) (fun y hy => hV y (by simp [hy]))
theorem vers_mem {m : Made} {W : List ByteArray} {x : ByteArray × Option Int} (h : x ∈ vers m W) : x.1 ∈ W ∧ m x.1 = some x.2 := by
 unfold vers at h
 obtain ⟨k, hk, e⟩ := List.mem_filterMap.1 h
 cases e2 : m k with
 | none => rw [e2] at e; cases e
 | some o =>
   rw [e2] at e
   simp only [Option.map_some, Option.some.injEq] at e
   subst e
   exact ⟨hk, e2⟩
theorem doD_right {l : List Row} {d : Deed3} (h : Right l) (hd : RightDD d) : Right (doD l d) := by
 cases hf : (exD l d).2.2 with
 | true => rw [doD_fail hf]; exact h
 | false =>
   unfold doD
   rw [if_neg (by rw [hf]; simp)]
   refine right_foldl _ h fun x hx => ?_
   obtain ⟨h1, h2⟩ := vers_mem hx
   refine ⟨wKeys_key hd.w h1, fun n e => ?_⟩
   rw [e] at h2
   exact (exec_inR (num_inR h) d.2.2 0 zeroR zeroM (right_nums hd) (fun _ => inR_zero) (fun k n e => by cases e)).2 x.1 n h2
theorem exec_same {v v' : ByteArray → Int} : ∀ (l : List Ins) (s : Nat) (r : Nat → Int) (m : Made), (∀ i ∈ l, i.kind = 1 → v i.key = v' i.key) → exec v l s r m = exec v' l s r m
 | [], _, _, _, _ => rfl
 | i :: l, s + 1, r, m, h => by
   rw [exec, exec]; exact exec_same l s r m (fun j hj => h j (by simp [hj]))
 | i :: l, 0, r, m, h => by
   have h' : ∀ j ∈ l, j.kind = 1 → v j.key = v' j.key := fun j hj => h j (by simp [hj])
   rw [exec, exec]
   split
   · rename_i hk
     have : look v m i.key = look v' m i.key := by
       unfold look; split
       · rfl
       · rfl
       · exact h i (by simp) hk
     rw [this]
     exact exec_same l _ _ _ h'
   repeat' split
   all_goals first | rfl | exact exec_same l _ _ _ h'
theorem right_loads {d : Deed3} (h : RightDD d) : ∀ i ∈ d.2.2, i.kind = 1 → i.key ∈ d.1 := fun i hi hk => by
 obtain ⟨j, hj, rfl⟩ := List.getElem_of_mem hi
 have := (right_instr (h.i j hj)).load
 simp only [List.getD, List.getElem?_eq_getElem hj, Option.getD_some] at this
 exact has_iff.1 (this hk)
end Go.Proofs.YtlhaeeenkgkdaaaGreatDoor

namespace Go.Proofs.YtlhaeeenkgkdaaaGreatDoor
open Go.RowKit

def DeedHere (w : World) (b o : Nat) (d : Deed3) : Prop := ∃ rb rn rc wb wn wc cb cn cc, w.cell? ⟨b, o, none⟩ = some (.slice rb rn rc) ∧ w.cell? ⟨b, o + 1, none⟩ = some (.slice wb wn wc) ∧ w.cell? ⟨b, o + 2, none⟩ = some (.slice cb cn cc) ∧
 DeedIn w rb rn rc wb wn wc cb cn cc d.1 d.2.1 d.2.2 ∧ SmallT d.1 ∧ SmallT d.2.1
theorem DeedHere.below {w w' : World} {b o : Nat} {d : Deed3} (h : DeedHere w b o d) (hb : Below w.heap.size w w') : DeedHere w' b o d := by
 obtain ⟨rb, rn, rc, wb, wn, wc, cb, cn, cc, h0, h1, h2, h3, h4⟩ := h
 exact ⟨rb, rn, rc, wb, wn, wc, cb, cn, cc, kept_cell hb h0, kept_cell hb h1, kept_cell hb h2, h3.below hb, h4⟩
structure DeedsIn (w : World) (base : Option Addr) (n c : Nat) (D : List Deed3) : Prop where
 len : n = D.length
 hdr : Hdr base n c
 run : n = 0 ∨ ∃ b o, base = some ⟨b, o, none⟩ ∧ ∀ i, i < n → DeedHere w b (o + i * 3) (D.getD i default)
theorem DeedsIn.below {w w' : World} {base : Option Addr} {n c : Nat} {D : List Deed3} (h : DeedsIn w base n c D) (hb : Below w.heap.size w w') : DeedsIn w' base n c D := by
 refine ⟨h.len, h.hdr, ?_⟩
 rcases h.run with h0 | ⟨b, o, e, hr⟩
 · exact .inl h0
 · exact .inr ⟨b, o, e, fun i hi => (hr i hi).below hb⟩
def RightDs (D : List Deed3) : Prop := ∀ d ∈ D, RightDD d
theorem right_wDeed {R W : List ByteArray} {C : List Ins} (h : RightD R W C) : wDeed R W C = 0 := by
 unfold wDeed
 rw [if_neg (by rw [h.r]; simp), if_neg (by rw [h.w]; simp), if_neg (by have := h.c; omega)]
 have : ∀ k, k ≤ C.length → wCode R W C k = 0 := by
   intro k
   induction k with
   | zero => intro _; rfl
   | succ k ih => intro hk; exact wCode_step (ih (by omega)) (h.i k (by omega))
 exact this _ (Nat.le_refl _)

def endCell (e : End3) : List Value := [.bool e.1, .int .i64 (e.2 0), .int .i64 (e.2 1), .int .i64 (e.2 2), .int .i64 (e.2 3)]
def endCells : List End3 → List Value
 | [] => []
 | e :: l => endCell e ++ endCells l
theorem endCells_length : ∀ l, (endCells l).length = l.length * 5
 | [] => rfl
 | e :: l => by simp [endCells, endCell, endCells_length l]; omega
theorem endCells_append : ∀ l m, endCells (l ++ m) = endCells l ++ endCells m
 | [], _ => rfl
 | e :: l, m => by simp [endCells, endCells_append l m]
theorem endCell_one (e : End3) : ∀ u ∈ endCell e, u.oneCell' = true := fun u hu => by
 simp [endCell] at hu; rcases hu with rfl | rfl | rfl | rfl | rfl <;> rfl
theorem endCells_one : ∀ l, ∀ u ∈ endCells l, u.oneCell' = true
 | [], _, h => by cases h
 | e :: l, u, h => by
   simp only [endCells, List.mem_append] at h
   rcases h with h | h
   · exact endCell_one e u h
   · exact endCells_one l u h
theorem endCells_at : ∀ (l : List End3) (k : Nat), k < l.length → ∀ j u, (endCell (l.getD k default))[j]? = some u → (endCells l)[k * 5 + j]? = some u
 | [], k, h => absurd h (Nat.not_lt_zero _)
 | e :: l, 0, _ => fun j u hu => by
   rw [endCells, List.getElem?_append_left]
   · simpa using hu
   · simpa using (List.getElem?_eq_some_iff.1 hu).1
 | e :: l, k + 1, h => fun j u hu => by
   have := endCells_at l k (by simpa using h) j u (by simpa using hu)
   rw [endCells, List.getElem?_append_right (by simp [endCell]; omega)]
   rw [show (k + 1) * 5 + j - (endCell e).length = k * 5 + j from by simp [endCell]; omega]
   exact this
abbrev Ends (w : World) (base : Option Addr) (n c : Nat) (E : List End3) : Prop := Lies w 5 base n c (endCells E)
theorem Ends.count {w : World} {base : Option Addr} {n c : Nat} {E : List End3} (h : Ends w base n c E) : n = E.length := by have := h.len; rw [endCells_length] at this; omega
theorem Ends.cells {w : World} {b o : Nat} {E : List End3} (h : Run w b o (endCells E)) {k : Nat} (hk : k < E.length) :
   w.cell? ⟨b, o + k * 5, none⟩ = some (.bool (E.getD k default).1) ∧ w.cell? ⟨b, o + k * 5 + 1, none⟩ = some (.int .i64 ((E.getD k default).2 0)) ∧ w.cell? ⟨b, o + k * 5 + 2, none⟩ = some (.int .i64 ((E.getD k default).2 1)) ∧
     w.cell? ⟨b, o + k * 5 + 3, none⟩ = some (.int .i64 ((E.getD k default).2 2)) ∧ w.cell? ⟨b, o + k * 5 + 4, none⟩ = some (.int .i64 ((E.getD k default).2 3)) := by
 have key : ∀ j u, (endCell (E.getD k default))[j]? = some u → w.cell? ⟨b, o + k * 5 + j, none⟩ = some u := fun j u hu => by
   rw [Nat.add_assoc]; exact h _ u (endCells_at E k hk j u hu)
 exact ⟨key 0 _ rfl, key 1 _ rfl, key 2 _ rfl, key 3 _ rfl, key 4 _ rfl⟩
theorem allD_snoc : ∀ (D : List Deed3) (l : List Row) (d : Deed3), allD l (D ++ [d]) = doD (allD l D) d
 | [], _, _ => rfl
 | x :: D, l, d => allD_snoc D (doD l x) d
theorem allD_right : ∀ (D : List Deed3) {l : List Row}, Right l → RightDs D → Right (allD l D)
 | [], _, h, _ => h
 | d :: D, l, h, hD => allD_right D (doD_right h (hD d (by simp))) (fun e he => hD e (by simp [he]))
theorem rights_take {D : List Deed3} (h : RightDs D) (k : Nat) : RightDs (D.take k) := fun d hd => h d (List.mem_of_mem_take hd)
theorem rights_at {D : List Deed3} (h : RightDs D) {k : Nat} (hk : k < D.length) : RightDD (D.getD k default) := h _ (by simp [List.getD, hk])
end Go.Proofs.YtlhaeeenkgkdaaaGreatDoor

namespace Go.Proofs.YtlhaeeenkgkdaaaGreatDoor
open Go.ChangeShapes Go.WideShapes Go.ChangeAt Go.RowKit Go.Deep Go.Joins

theorem cellsTexts : Tryz.prog.cellsOf 41 = 1 := by kernel_rfl
theorem cellsCodes : Tryz.prog.cellsOf 42 = 1 := by kernel_rfl
end Go.Proofs.YtlhaeeenkgkdaaaGreatDoor
