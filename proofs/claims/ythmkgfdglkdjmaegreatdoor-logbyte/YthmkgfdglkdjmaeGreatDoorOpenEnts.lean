/-
  What it means that bytes lie in memory: a slice of them, made of a text, turned into a text, cut, and made longer.
  What it means that entries lie in memory.
  How arguments that are entries, an entry, or bytes are read, and how many there are at the most where all that is read is of a bounded bulk.
-/
import Derived.Test.YthmkgfdglkdjmaeGreatDoorRepMath
import Derived.Test.YthmkgfdglkdjmaeGreatDoorTextMath
import Derived.Laws.IdiomStrings
import Derived.ArgAppend
import Derived.Test.YthmkgfdglkdjmaeGreatDoorLogMath
namespace Go.Proofs.YthmkgfdglkdjmaeGreatDoor
open Go.RowKit

def bytesC (l : T) : List Value := l.map (fun c => Value.int .u8 (c.toNat : Int))
theorem bytesC_length (l : T) : (bytesC l).length = l.length := by simp [bytesC]
theorem bytesC_at {l : T} {i : Nat} (h : i < l.length) : (bytesC l)[i]? = some (.int .u8 ((l.getD i 0).toNat : Int)) := by simp [bytesC, List.getD, h]
theorem bytesC_one (l : T) : ∀ u ∈ bytesC l, u.oneCell' = true := fun u hu => by
  simp [bytesC] at hu; obtain ⟨x, _, rfl⟩ := hu; rfl
theorem bytesC_append (l m : T) : bytesC (l ++ m) = bytesC l ++ bytesC m := by simp [bytesC]
theorem bytesC_drop (l : T) (k : Nat) : bytesC (l.drop k) = (bytesC l).drop k := by simp [bytesC, List.map_drop]
theorem bytesC_take (l : T) (k : Nat) : bytesC (l.take k) = (bytesC l).take k := by simp [bytesC, List.map_take]
/-- A slice holds bytes. -/
abbrev BytesIn (w : World) (base : Option Addr) (n c : Nat) (l : T) : Prop := Lies w 1 base n c (bytesC l)
theorem BytesIn.count {w : World} {base : Option Addr} {n c : Nat} {l : T} (h : BytesIn w base n c l) : n = l.length := by have := h.len; rw [bytesC_length] at this; omega

/-! ### A part of it -/
theorem lies_take {w : World} {sz : Nat} {base : Option Addr} {n c k : Nat} {vs : List Value} (h : Lies w sz base n c vs) (hk : k ≤ n) : Lies w sz base k c (vs.take (k * sz)) := by
  have hle := h.hdr.le
  have hln := h.len
  have hm : k * sz ≤ n * sz := Nat.mul_le_mul_right _ hk
  refine ⟨by rw [List.length_take]; omega, ⟨by omega, h.hdr.max, fun e => h.hdr.nil e⟩, ?_⟩
  rcases h.run with h0 | ⟨b, o, e, hr⟩
  · exact .inl (by omega)
  · refine .inr ⟨b, o, e, fun j u hu => hr j u ?_⟩
    have hj := (List.getElem?_eq_some_iff.1 hu).1
    rw [List.length_take] at hj
    rwa [List.getElem?_take_of_lt (by omega)] at hu
theorem bytes_part {w : World} {base : Option Addr} {n c i j : Nat} {l : T} (h : BytesIn w base n c l) (hij : i ≤ j) (hj : j ≤ n) : BytesIn w (cutB base c i 1) (j - i) (c - i) ((l.take j).drop i) := by
  have h1 := lies_take h hj
  have h2 := lies_cut h1 hij
  rw [Nat.mul_one, Nat.mul_one] at h2
  unfold BytesIn
  rw [bytesC_drop, bytesC_take]
  exact h2
/-! ### Bytes as a text -/
theorem bytes_text {w : World} {base : Option Addr} {n c : Nat} {l : T} (h : BytesIn w base n c l) (src dst e : TypeId) (hs : Tryz.prog.underlying src = some (.slice e)) (he : Tryz.prog.underlying e = some (.int .u8)) (hd : Tryz.prog.underlying dst = some .string) :
    (convert src dst (.slice base n c)).run Tryz.prog w = .ok (.string (ofT l)) w := by
  have hn := BytesIn.count h
  by_cases h0 : n = 0
  · have hl : l = [] := List.eq_nil_of_length_eq_zero (by omega)
    subst hl
    subst h0
    rw [run_convert_bytes_string w src dst e base 0 c hs he hd]
    cases base with
    | none => simp [Conv.bytesToString, go_sem, ofT]; rfl
    | some a =>
      have := run_bytesToString (P := Tryz.prog) w a 0 c [] (by simp [loadCells, loadCellsFrom, go_sem])
      rw [this]
      rfl
  · rcases h.run with h1 | ⟨b, o, rfl, hr⟩
    · exact absurd h1 h0
    · rw [hn]
      exact run_convert_bytes_back w src dst e ⟨b, o, none⟩ c l hs he hd (fun j hj => by
        rw [Addr.add_lit]
        have := hr j _ (bytesC_at hj)
        rw [this]
        simp [List.getD, hj])

/-! ### A text as bytes -/
/-- Behind the bytes there is room, that may be written. -/
def Spare (w : World) (b n c : Nat) : Prop := ∀ j, n ≤ j → j < c → (w.cell? ⟨b, j, none⟩).isSome = true ∧ w.frozen? ⟨b, j, none⟩ = false
/-! ### Bytes made longer -/
end Go.Proofs.YthmkgfdglkdjmaeGreatDoor

namespace Go.Proofs.YthmkgfdglkdjmaeGreatDoor
open Go.RowKit

/-- An entry lies at a place: its number, and its deeds. -/
def EntHere (w : World) (b o : Nat) (x : Ent) : Prop := ∃ db dn dc, w.cell? ⟨b, o, none⟩ = some (.int .i64 x.1) ∧ w.cell? ⟨b, o + 1, none⟩ = some (.slice db dn dc) ∧ DeedsIn w db dn dc x.2
theorem EntHere.lt {w : World} {b o : Nat} {x : Ent} (h : EntHere w b o x) : b < w.heap.size := by
  obtain ⟨_, _, _, h0, _⟩ := h
  simpa using World.block_lt_of_cell? _ _ h0
theorem EntHere.below {w w' : World} {b o : Nat} {x : Ent} (h : EntHere w b o x) (hb : Below w.heap.size w w') : EntHere w' b o x := by
  obtain ⟨db, dn, dc, h0, h1, h2⟩ := h
  exact ⟨db, dn, dc, kept_cell hb h0, kept_cell hb h1, h2.below hb⟩
/-- A slice holds entries. -/
structure EntsIn (w : World) (base : Option Addr) (n c : Nat) (L : List Ent) : Prop where
  len : n = L.length
  hdr : Hdr base n c
  run : n = 0 ∨ ∃ b o, base = some ⟨b, o, none⟩ ∧ ∀ i, i < n → EntHere w b (o + i * 2) (L.getD i default)
theorem EntsIn.below {w w' : World} {base : Option Addr} {n c : Nat} {L : List Ent} (h : EntsIn w base n c L) (hb : Below w.heap.size w w') : EntsIn w' base n c L := by
  refine ⟨h.len, h.hdr, ?_⟩
  rcases h.run with h0 | ⟨b, o, e, hr⟩
  · exact .inl h0
  · exact .inr ⟨b, o, e, fun i hi => (hr i hi).below hb⟩
theorem EntsIn.none (w : World) : EntsIn w Option.none 0 0 [] := ⟨rfl, ⟨Nat.le_refl _, Nat.zero_le _, fun _ => rfl⟩, .inl rfl⟩
/-- An entry's value. -/
def EntV (w : World) (v : Value) (x : Ent) : Prop := ∃ db dn dc, v = .agg #[.int .i64 x.1, .slice db dn dc] ∧ DeedsIn w db dn dc x.2
theorem EntV.below {w w' : World} {v : Value} {x : Ent} (h : EntV w v x) (hb : Below w.heap.size w w') : EntV w' v x := by
  obtain ⟨db, dn, dc, rfl, h1⟩ := h
  exact ⟨db, dn, dc, rfl, h1.below hb⟩
/-- One entry in a block of its own. -/
theorem ents_one (w : World) (t : TypeId) (x : Ent) (db : Option Addr) (dn dc : Nat) (h : DeedsIn w db dn dc x.2) : EntsIn (w.alloc (.cells #[.int .i64 x.1, .slice db dn dc] t)) (some ⟨w.heap.size, 0, Option.none⟩) 1 1 [x] := by
  refine ⟨rfl, ⟨Nat.le_refl _, by unfold maxLen; omega, fun h => by cases h⟩, .inr ⟨_, _, rfl, fun i hi => ?_⟩⟩
  obtain rfl : i = 0 := by omega
  exact ⟨db, dn, dc, box_cell w _ _ 0 _ rfl, box_cell w _ _ 1 _ rfl, h.below (grew w _)⟩

/-! ### Entries by where their deeds are -/
abbrev ESlot := Int × Sl
def eslotC (s : ESlot) : List Value := [.int .i64 s.1, .slice s.2.1 s.2.2.1 s.2.2.2]
theorem eslotC_length (s : ESlot) : (eslotC s).length = 2 := rfl
theorem eslotC_one (s : ESlot) : ∀ u ∈ eslotC s, u.oneCell' = true := fun u hu => by
  simp [eslotC] at hu; rcases hu with rfl | rfl <;> rfl
def ESlotIs (w : World) (s : ESlot) (x : Ent) : Prop := s.1 = x.1 ∧ DeedsIn w s.2.1 s.2.2.1 s.2.2.2 x.2
theorem ESlotIs.below {w w' : World} {s : ESlot} {x : Ent} (h : ESlotIs w s x) (hb : Below w.heap.size w w') : ESlotIs w' s x := ⟨h.1, h.2.below hb⟩
def ESlotsAre (w : World) (S : List ESlot) (L : List Ent) : Prop := S.length = L.length ∧ ∀ i, i < L.length → ESlotIs w (S.getD i default) (L.getD i default)
theorem ESlotsAre.nil (w : World) : ESlotsAre w [] [] := ⟨rfl, fun _ h => absurd h (Nat.not_lt_zero _)⟩
theorem ESlotsAre.below {w w' : World} {S : List ESlot} {L : List Ent} (h : ESlotsAre w S L) (hb : Below w.heap.size w w') : ESlotsAre w' S L := ⟨h.1, fun i hi => (h.2 i hi).below hb⟩
theorem ESlotsAre.snoc {w : World} {S : List ESlot} {L : List Ent} {s : ESlot} {x : Ent} (h : ESlotsAre w S L) (hs : ESlotIs w s x) : ESlotsAre w (S ++ [s]) (L ++ [x]) := by
  refine ⟨by simp [h.1], fun i hi => ?_⟩
  by_cases e : i < L.length
  · have e' : i < S.length := by rw [h.1]; exact e
    have := h.2 i e
    simpa [List.getD, List.getElem?_append_left e, List.getElem?_append_left e'] using this
  · have hi' : i = L.length := by simp at hi; omega
    subst hi'
    have e1 : (S ++ [s]).getD L.length default = s := by rw [← h.1]; simp [List.getD]
    have e2 : (L ++ [x]).getD L.length default = x := by simp [List.getD]
    rw [e1, e2]; exact hs
theorem ents_of_slots {w : World} {base : Option Addr} {n c : Nat} {S : List ESlot} {L : List Ent} (h : Lies w 2 base n c (flat eslotC S)) (hs : ESlotsAre w S L) : EntsIn w base n c L := by
  have hn : n = S.length := Lies.count eslotC_length (by decide) h
  refine ⟨by rw [hn, hs.1], h.hdr, ?_⟩
  rcases h.run with h0 | ⟨b, o, e, hr⟩
  · exact .inl h0
  · refine .inr ⟨b, o, e, fun i hi => ?_⟩
    have hiS : i < S.length := by omega
    obtain ⟨e1, e2⟩ := hs.2 i (by rw [← hs.1]; exact hiS)
    exact ⟨_, _, _, by rw [← e1]; exact hr.at_ eslotC_length hiS (j := 0) rfl, hr.at_ eslotC_length hiS (j := 1) rfl, e2⟩
end Go.Proofs.YthmkgfdglkdjmaeGreatDoor

namespace Go.Proofs.YthmkgfdglkdjmaeGreatDoor
open Go.ChangeShapes Go.WideShapes Go.ChangeAt Go.RowKit Go.Deep Go.Joins

/-- Each deed's lists are of at most so many. -/
def FewD (k : Nat) (D : List Deed3) : Prop := ∀ i, i < D.length → (D.getD i default).1.length ≤ k ∧ (D.getD i default).2.1.length ≤ k ∧ (D.getD i default).2.2.length ≤ k
def FewE (k : Nat) (L : List Ent) : Prop := ∀ i, i < L.length → (L.getD i default).2.length ≤ k ∧ FewD k (L.getD i default).2
theorem FewD.mono {k m : Nat} {D : List Deed3} (h : FewD k D) (hk : k ≤ m) : FewD m D := fun i hi => by have := h i hi; omega
theorem FewE.mono {k m : Nat} {L : List Ent} (h : FewE k L) (hk : k ≤ m) : FewE m L := fun i hi => ⟨Nat.le_trans (h i hi).1 hk, (h i hi).2.mono hk⟩
theorem bulk_each {H : Type} (D : Nat → DataW H) (n i : Nat) (hi : i < n) : Rows.uptoBulk (D i) ≤ Rows.uptoBulkAll ((List.range n).map D) := by
  induction n with
  | zero => omega
  | succ n ih =>
    rw [List.range_succ, List.map_append, bulk_append]
    by_cases h : i < n
    · have := ih h; omega
    · obtain rfl : i = n := by omega
      simp only [List.map_cons, List.map_nil, Rows.uptoBulkAll]
      omega
set_option maxRecDepth 100000 in
theorem open_deedsF {H : Type} {enc : TypeId × Value → H} {W : World} {v : Value} {fuel : Nat} {y : DataW H × List MemPlace}
    (h : DataW.trod enc Tryz.prog W 0 (fun _ => true) true fuel 22 [v] = some y) :
    ∃ a len cap D, v = .slice a len cap ∧ DeedsIn W a len cap D ∧ D.length ≤ Rows.uptoBulk y.1 ∧ FewD (Rows.uptoBulk y.1) D := by
  rcases open_slice Tryz.underlying22 h with ⟨hcs, hx⟩ | ⟨x, len, cap, m, n, D, Pl, hcs, _, hl, hm, hmm, hx, hcell⟩
  · simp at hcs
    subst hcs
    exact ⟨none, 0, 0, [], rfl, ⟨rfl, ⟨Nat.le_refl _, Nat.zero_le _, fun _ => rfl⟩, .inl rfl⟩, Nat.zero_le _, fun _ h => absurd h (Nat.not_lt_zero _)⟩
  · simp at hcs
    subst hcs
    simp only [if_true] at hmm
    subst hmm
    have hbig : ∀ i, i < len → Rows.uptoBulk (D i) ≤ Rows.uptoBulk y.1 := fun i hi => by
      have := bulk_each D len i hi
      rw [hx]
      simp only [Rows.uptoBulk]
      omega
    have each : ∀ i, i < len → ∃ d : Deed3, (∃ rb rn rc wb wn wc cb cn cc, W.cell? (x.add (i * 3)) = some (.slice rb rn rc) ∧ W.cell? (x.add (i * 3 + 1)) = some (.slice wb wn wc) ∧ W.cell? (x.add (i * 3 + 2)) = some (.slice cb cn cc) ∧
        DeedIn W rb rn rc wb wn wc cb cn cc d.1 d.2.1 d.2.2 ∧ SmallT d.1 ∧ SmallT d.2.1) ∧ d.1.length ≤ Rows.uptoBulk y.1 ∧ d.2.1.length ≤ Rows.uptoBulk y.1 ∧ d.2.2.length ≤ Rows.uptoBulk y.1 := by
      intro i hi
      obtain ⟨cs', h1, h2⟩ := hcell i (by omega)
      rw [cellsDeed] at h1
      obtain ⟨_, hlen, hc⟩ := World.cells?_some h1
      obtain ⟨xs, k, _, he2, _, hxl, hf⟩ := DataW.trod_struct Tryz.underlying39 h2
      match cs', hlen, xs, hxl with
      | [v0, v1, v2], _, [y0, y1, y2], _ =>
        have g0 := hf 0 _ rfl
        have g1 := hf 1 _ rfl
        have g2 := hf 2 _ rfl
        simp [cellsTexts, cellsCodes] at g0 g1 g2
        have e0 := hc 0 (by omega)
        have e1 := hc 1 (by omega)
        have e2 := hc 2 (by omega)
        rw [add_add] at e0 e1 e2
        obtain ⟨rb, rn, rc, R, rfl, t0, s0, m0⟩ := open_texts g0
        obtain ⟨wb, wn, wc, Wr, rfl, t1, s1, m1⟩ := open_texts g1
        obtain ⟨cb, cn, cc, C, rfl, t2, m2⟩ := open_codes g2
        have hb := hbig i hi
        have hD : D i = .agg [y0.1, y1.1, y2.1] := by
          have := congrArg Prod.fst he2
          simpa using this
        rw [hD] at hb
        simp only [Rows.uptoBulk, Rows.uptoBulkAll] at hb
        have b0 := room_bulk m0
        have b1 := room_bulk m1
        have b2 := room_bulk m2
        have n0 := Texts.count t0
        have n1 := Texts.count t1
        have n2 := Codes.count t2
        have l0 := t0.hdr.le
        have l1 := t1.hdr.le
        have l2 := t2.hdr.le
        exact ⟨(R, Wr, C), ⟨rb, rn, rc, wb, wn, wc, cb, cn, cc, by simpa using e0, by simpa using e1, by simpa using e2, ⟨t0, t1, t2⟩, s0, s1⟩, by show R.length ≤ _; omega, by show Wr.length ≤ _; omega, by show C.length ≤ _; omega⟩
    obtain ⟨q, hq⟩ := choose_lt each
    have hget : ∀ i, i < len → ((List.range len).map q).getD i default = q i := fun i hi => by simp [List.getD, hi]
    refine ⟨some x, len, m, (List.range len).map q, rfl, ⟨by simp, ⟨hl, hm, fun h => by cases h⟩, ?_⟩, ?_, fun i hi => ?_⟩
    · by_cases h0 : len = 0
      · exact .inl h0
      right
      obtain ⟨b, off, spot⟩ := x
      have hsp : spot = none := by
        obtain ⟨⟨_, _, _, _, _, _, _, _, _, h0, _⟩, _⟩ := hq 0 (by omega)
        simpa [Addr.add] using World.cell?_spot h0
      subst hsp
      refine ⟨b, off, rfl, fun i hi => ?_⟩
      rw [hget i hi]
      obtain ⟨⟨rb, rn, rc, wb, wn, wc, cb, cn, cc, h0, h1, h2, h3⟩, _⟩ := hq i hi
      rw [Addr.add_lit] at h0 h1 h2
      exact ⟨rb, rn, rc, wb, wn, wc, cb, cn, cc, h0, by rw [Nat.add_assoc]; exact h1, by rw [Nat.add_assoc]; exact h2, h3⟩
    · have h1 := bulk_length ((List.range len).map D)
      rw [hx]
      simp only [Rows.uptoBulk, List.length_map, List.length_range] at h1 ⊢
      omega
    · have hi' : i < len := by simpa using hi
      rw [hget i hi']
      exact (hq i hi').2

/-! ### Entries -/
theorem cellsEntry : Tryz.prog.cellsOf 24 = 2 := by kernel_rfl
set_option maxRecDepth 100000 in
theorem open_entry {H : Type} {enc : TypeId × Value → H} {W : World} {r : Reach} {b0 : Nat} {v : Value} {d : DataW H} {p : List MemPlace}
    (hv : Value.okWide Tryz.prog W r b0 24 v) (h : DataW.Trod enc Tryz.prog W 0 (fun _ => true) true 24 v d p) : ∃ x : Ent, EntV W v x ∧ (Lit.int .i64 x.1).wf = true := by
  obtain ⟨v0, v1, y0, y1, n, rfl, rfl, rfl, h0, h1⟩ := open_agg2 Tryz.underlying24 (by kernel_rfl) cellsEntry hv h
  obtain ⟨q, hq, _, hw⟩ := DataW.trod_int Tryz.underlying3 h0
  obtain ⟨db, dn, dc, D, rfl, hd, _⟩ := open_deedsF h1
  simp at hq
  subst hq
  exact ⟨(q, D), ⟨db, dn, dc, rfl, hd⟩, hw⟩
/-! ### Bytes -/
theorem byte_nat {q : Int} (h : (Lit.int .u8 q).wf = true) : ((UInt8.ofNat q.toNat).toNat : Int) = q := by
  have h1 : 0 ≤ q ∧ q < 256 := by
    simp [Lit.wf] at h
    have h2 := h.1
    have h3 := h.2
    have e1 : IntKind.u8.min = 0 := by decide
    have e2 : IntKind.u8.max = 255 := by decide
    omega
  rw [UInt8.toNat_ofNat']
  omega
end Go.Proofs.YthmkgfdglkdjmaeGreatDoor
