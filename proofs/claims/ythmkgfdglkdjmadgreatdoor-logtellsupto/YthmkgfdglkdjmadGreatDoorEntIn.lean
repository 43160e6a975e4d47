/-
  What it means that bytes lie in memory: a slice of them, made of a text, turned into a text, cut, and made longer.
  What it means that entries lie in memory.
-/
import Derived.Test.YthmkgfdglkdjmadGreatDoorLogMath
import Derived.Test.YthmkgfdglkdjmadGreatDoorTextTurn
import Derived.Laws.IdiomStrings
import Derived.ArgAppend
namespace Go.Proofs.YthmkgfdglkdjmadGreatDoor
open Go.RowKit

def bytesC (l : T) : List Value := l.map (fun c => Value.int .u8 (c.toNat : Int))
theorem bytesC_length (l : T) : (bytesC l).length = l.length := by simp [bytesC]
theorem bytesC_at {l : T} {i : Nat} (h : i < l.length) : (bytesC l)[i]? = some (.int .u8 ((l.getD i 0).toNat : Int)) := by simp [bytesC, List.getD, h]
theorem bytesC_one (l : T) : ∀ u ∈ bytesC l, u.oneCell' = true := fun u hu => by
  simp [bytesC] at hu; obtain ⟨x, _, rfl⟩ := hu; rfl
theorem bytesC_append (l m : T) : bytesC (l ++ m) = bytesC l ++ bytesC m := by simp [bytesC]
theorem bytesC_drop (l : T) (k : Nat) : bytesC (l.drop k) = (bytesC l).drop k := by simp [bytesC, List.map_drop]
theorem bytesC_take (l : T) (k : Nat) : bytesC (l.take k) = (bytesC l).take k := by simp [bytesC, List.map_take]
/-- A slice holds bytes. -/
abbrev BytesIn (w : World) (base : Option Addr) (n c : Nat) (l : T) : Prop := Lies w 1 base n c (bytesC l)
theorem BytesIn.count {w : World} {base : Option Addr} {n c : Nat} {l : T} (h : BytesIn w base n c l) : n = l.length := by have := h.len; rw [bytesC_length] at this; omega

/-! ### A part of it -/
theorem lies_take {w : World} {sz : Nat} {base : Option Addr} {n c k : Nat} {vs : List Value} (h : Lies w sz base n c vs) (hk : k ≤ n) : Lies w sz base k c (vs.take (k * sz)) := by
  have hle := h.hdr.le
  have hln := h.len
  have hm : k * sz ≤ n * sz := Nat.mul_le_mul_right _ hk
  refine ⟨by rw [List.length_take]; omega, ⟨by omega, h.hdr.max, fun e => h.hdr.nil e⟩, ?_⟩
  rcases h.run with h0 | ⟨b, o, e, hr⟩
  · exact .inl (by omega)
  · refine .inr ⟨b, o, e, fun j u hu => hr j u ?_⟩
    have hj := (List.getElem?_eq_some_iff.1 hu).1
    rw [List.length_take] at hj
    rwa [List.getElem?_take_of_lt (by omega)] at hu
theorem bytes_part {w : World} {base : Option Addr} {n c i j : Nat} {l : T} (h : BytesIn w base n c l) (hij : i ≤ j) (hj : j ≤ n) : BytesIn w (cutB base c i 1) (j - i) (c - i) ((l.take j).drop i) := by
  have h1 := lies_take h hj
  have h2 := lies_cut h1 hij
  rw [Nat.mul_one, Nat.mul_one] at h2
  unfold BytesIn
  rw [bytesC_drop, bytesC_take]
  exact h2
/-! ### Bytes as a text -/
theorem bytes_text {w : World} {base : Option Addr} {n c : Nat} {l : T} (h : BytesIn w base n c l) (src dst e : TypeId) (hs : Tryz.prog.underlying src = some (.slice e)) (he : Tryz.prog.underlying e = some (.int .u8)) (hd : Tryz.prog.underlying dst = some .string) :
    (convert src dst (.slice base n c)).run Tryz.prog w = .ok (.string (ofT l)) w := by
  have hn := BytesIn.count h
  by_cases h0 : n = 0
  · have hl : l = [] := List.eq_nil_of_length_eq_zero (by omega)
    subst hl
    subst h0
    rw [run_convert_bytes_string w src dst e base 0 c hs he hd]
    cases base with
    | none => simp [Conv.bytesToString, go_sem, ofT]; rfl
    | some a =>
      have := run_bytesToString (P := Tryz.prog) w a 0 c [] (by simp [loadCells, loadCellsFrom, go_sem])
      rw [this]
      rfl
  · rcases h.run with h1 | ⟨b, o, rfl, hr⟩
    · exact absurd h1 h0
    · rw [hn]
      exact run_convert_bytes_back w src dst e ⟨b, o, none⟩ c l hs he hd (fun j hj => by
        rw [Addr.add_lit]
        have := hr j _ (bytesC_at hj)
        rw [this]
        simp [List.getD, hj])

/-! ### A text as bytes -/
theorem keyT_size (s : ByteArray) : (keyT s).length = s.size := Array.length_toList
/-- Behind the bytes there is room, that may be written. -/
def Spare (w : World) (b n c : Nat) : Prop := ∀ j, n ≤ j → j < c → (w.cell? ⟨b, j, none⟩).isSome = true ∧ w.frozen? ⟨b, j, none⟩ = false
structure BytesNew (w w' : World) (b n c : Nat) (l : T) : Prop where
  here : BytesIn w' (some ⟨b, 0, none⟩) n c l
  room : Spare w' b n c
  old : w.heap.size ≤ b
  lt : b < w'.heap.size
  bel : Below w.heap.size w w'
theorem text_bytes (w : World) (src dst e : TypeId) (s : ByteArray) (hs : Tryz.prog.underlying src = some .string) (hd : Tryz.prog.underlying dst = some (.slice e)) (he : Tryz.prog.underlying e = some (.int .u8)) (hm : s.size ≤ maxLen) :
    ∃ c w', (convert src dst (.string s)).run Tryz.prog w = .ok (.slice (some ⟨w.heap.size, 0, none⟩) s.size c) w' ∧ BytesNew w w' w.heap.size s.size c (keyT s) := by
  have hge := grownCap_ge w s.size 0 e
  have hle := grownCap_le_maxLen w s.size 0 e hm
  refine ⟨_, _, run_bytes_of_string w src dst e s hs hd he, ?_, fun j h1 h2 => ?_, Nat.le_refl _, ?_, ?_⟩
  · refine ⟨by rw [bytesC_length, Nat.mul_one]; exact keyT_size s, ⟨hge, hle, fun h => by cases h⟩, .inr ⟨_, _, rfl, fun j u hu => ?_⟩⟩
    have hj : j < s.data.size := by
      have := (List.getElem?_eq_some_iff.1 hu).1
      rw [bytesC_length, keyT_size] at this
      exact this
    rw [Nat.zero_add]
    have h1 := World.cell?_alloc_mark w.drew (bytesRow s (grownCap w s.size 0 e)) e ((bytesRow s (grownCap w s.size 0 e)).size, (bytesRow s (grownCap w s.size 0 e)).size + 1) j
    rw [show w.heap.size = w.drew.heap.size from rfl, h1, bytesRow_at s _ j hj, ← hu, bytesC_at (by rw [keyT_size]; exact hj)]
    simp [keyT, List.getD, Array.getElem?_eq_getElem hj]
  · have h3 := World.cell?_alloc_mark w.drew (bytesRow s (grownCap w s.size 0 e)) e ((bytesRow s (grownCap w s.size 0 e)).size, (bytesRow s (grownCap w s.size 0 e)).size + 1) j
    have h4 := World.frozen?_alloc_mark w.drew (bytesRow s (grownCap w s.size 0 e)) e (bytesRow s (grownCap w s.size 0 e)).size ((bytesRow s (grownCap w s.size 0 e)).size + 1) j
    have hz : (bytesRow s (grownCap w s.size 0 e)).size = grownCap w s.size 0 e := by
      have : s.size = s.data.size := rfl
      simp [bytesRow]
      omega
    refine ⟨?_, ?_⟩
    · rw [show w.heap.size = w.drew.heap.size from rfl, h3, Array.getElem?_eq_getElem (by rw [hz]; exact h2)]
      rfl
    · rw [show w.heap.size = w.drew.heap.size from rfl, h4, hz]
      simp
      omega
  · show _ < (w.drew.alloc _).heap.size
    rw [World.size_alloc]
    exact Nat.lt_succ_self _
  · exact (step_drew (Below.refl w.heap.size w)).trans (grew w.drew _)

/-! ### Bytes made longer -/
theorem below_cells {B : Nat} {W : World} {b : Nat} (hB : B ≤ b) : ∀ (vs : List Value) (o : Nat) {w : World}, Below B W w → Below B W (w.setCells b o vs)
  | [], _, _, h => h
  | v :: r, o, _, h => below_cells hB r (o + 1) (h.setCell (p := ⟨b, o, none⟩) hB v)
/-- What is appended to bytes behind which there is room of the call's own, or none: wherever they lie then. -/
theorem wpList_bytes_on (w : World) {ops : Array Oper} {rest : List Oper} {o : Oper} {a : Act} {Q : Exit → Act → World → Prop} (hgd : o.guard = Option.none) (s x : Operand) (t e : Nat)
    (hu : Tryz.prog.underlying t = some (.slice e)) (hinfo : (Tryz.prog.info? e).map (fun i => (i.zero, i.size, i.bytes)) = some (some (.int .u8 0), 1, 1))
    (ho : o.op = .call { callee := .builtin .append, args := #[s, x], argTypes := #[t, t] })
    (B : Nat) (W : World) (hbel : Below B W w) (b n c : Nat) (l : T) (hs : a.eval s = .slice (some ⟨b, 0, none⟩) n c) (hB : B ≤ b) (hl : BytesIn w (some ⟨b, 0, none⟩) n c l) (hr : Spare w b n c)
    (ad : Addr) (m c2 : Nat) (l2 : T) (hx : a.eval x = .slice (some ad) m c2) (hh : BytesIn w (some ad) m c2 l2) (hm : 0 < m) (hby : n + m ≤ 140737488355328) (hBw : B ≤ w.heap.size)
    (h : ∀ b' c' w', B ≤ b' → BytesIn w' (some ⟨b', 0, none⟩) (n + m) c' (l ++ l2) → Below B W w' → wpList Tryz.prog ops Q rest (a.put o.dst (.slice (some ⟨b', 0, none⟩) (n + m) c')) w') : wpList Tryz.prog ops Q (o :: rest) a w := by
  obtain ⟨i0, hi, hz0, hz1, hz2⟩ := info_parts hinfo
  have hn := BytesIn.count hl
  have hmm := BytesIn.count hh
  have hlen : (bytesC (l ++ l2)).length = n + m := by rw [bytesC_length, List.length_append]; omega
  have hrun : Run w b 0 (bytesC l) := by
    rcases hl.run with h0 | ⟨b1, o1, e1, h1⟩
    · have : l = [] := List.eq_nil_of_length_eq_zero (by omega)
      subst this
      exact fun j u hj => by simp [bytesC] at hj
    · cases e1; exact h1
  have hrun2 : ∀ j u, (bytesC l2)[j]? = some u → w.cell? (ad.add j) = some u := by
    rcases hh.run with h0 | ⟨b1, o1, e1, h1⟩
    · omega
    · cases e1
      exact fun j u hj => by rw [Addr.add_lit]; exact h1 j u hj
  refine wpList_append_arg w hgd s x t ho e i0 _ 1 1 hu hi hz0 hz1 hz2 rfl (by decide) b 0 n c (bytesC l) hs hl.len hrun ad m c2 (bytesC l2) hx hh.len hrun2 (bytesC_one l2)
    (fun h1 j hj => by rw [bytesC_length] at hj; rw [Nat.zero_add, Nat.mul_one]; exact hr _ (by omega) (by omega)) (by unfold maxLen; omega) (by omega) (fun hroom => ?_) (fun hgrow v' w' hown hg => ?_)
  · refine h b c _ hB ⟨by rw [hlen, Nat.mul_one], ⟨hroom, hl.hdr.max, fun e => by cases e⟩, .inr ⟨b, 0, rfl, fun j u hj => ?_⟩⟩ (below_cells hB _ _ hbel)
    rw [bytesC_append] at hj
    by_cases hjn : j < (bytesC l).length
    · rw [List.getElem?_append_left hjn] at hj
      rw [World.cell?_setCells_out b _ _ _ _ (fun _ _ => Or.inl (by rw [bytesC_length] at hjn; simp; omega))]
      exact hrun j u hj
    · rw [List.getElem?_append_right (by omega)] at hj
      have hj2 := (List.getElem?_eq_some_iff.1 hj).1
      have hk := World.cell?_setCells_in b (bytesC l2) (0 + n * 1) w (fun k hk => by rw [bytesC_length] at hk; rw [Nat.zero_add, Nat.mul_one]; exact (hr _ (by omega) (by omega)).1) (j - (bytesC l).length) hj2
      rw [show 0 + n * 1 + (j - (bytesC l).length) = 0 + j from by rw [bytesC_length]; rw [bytesC_length] at hjn; omega] at hk
      rw [hk, ← hj, List.getElem?_eq_getElem hj2]
  · rcases hown.2 with ⟨_, h0⟩ | ⟨g, cap, cur, rfl, hbg, hg0, hnc, hcm, hcs, htake⟩
    · omega
    · refine h g cap w' (by omega) ?_ ⟨hg.os.trans hbel.os, hg.tape.trans hbel.tape, hg.output.trans hbel.output, Nat.le_trans hbel.size hg.size, fun k hk => ?_⟩
      · obtain ⟨b2, c2', e2, hl2⟩ := Lies.owned hown
        simp only [Value.slice.injEq] at e2
        obtain ⟨rfl, -, rfl⟩ := e2
        unfold BytesIn
        rw [bytesC_append]
        exact hl2
      · exact (hg.block k (by omega) (by simp)).trans (hbel.block k hk)
end Go.Proofs.YthmkgfdglkdjmadGreatDoor

namespace Go.Proofs.YthmkgfdglkdjmadGreatDoor
open Go.RowKit

/-- An entry lies at a place: its number, and its deeds. -/
def EntHere (w : World) (b o : Nat) (x : Ent) : Prop := ∃ db dn dc, w.cell? ⟨b, o, none⟩ = some (.int .i64 x.1) ∧ w.cell? ⟨b, o + 1, none⟩ = some (.slice db dn dc) ∧ DeedsIn w db dn dc x.2
theorem EntHere.lt {w : World} {b o : Nat} {x : Ent} (h : EntHere w b o x) : b < w.heap.size := by
  obtain ⟨_, _, _, h0, _⟩ := h
  simpa using World.block_lt_of_cell? _ _ h0
theorem EntHere.below {w w' : World} {b o : Nat} {x : Ent} (h : EntHere w b o x) (hb : Below w.heap.size w w') : EntHere w' b o x := by
  obtain ⟨db, dn, dc, h0, h1, h2⟩ := h
  exact ⟨db, dn, dc, kept_cell hb h0, kept_cell hb h1, h2.below hb⟩
/-- A slice holds entries. -/
structure EntsIn (w : World) (base : Option Addr) (n c : Nat) (L : List Ent) : Prop where
  len : n = L.length
  hdr : Hdr base n c
  run : n = 0 ∨ ∃ b o, base = some ⟨b, o, none⟩ ∧ ∀ i, i < n → EntHere w b (o + i * 2) (L.getD i default)
theorem EntsIn.below {w w' : World} {base : Option Addr} {n c : Nat} {L : List Ent} (h : EntsIn w base n c L) (hb : Below w.heap.size w w') : EntsIn w' base n c L := by
  refine ⟨h.len, h.hdr, ?_⟩
  rcases h.run with h0 | ⟨b, o, e, hr⟩
  · exact .inl h0
  · exact .inr ⟨b, o, e, fun i hi => (hr i hi).below hb⟩
theorem EntsIn.none (w : World) : EntsIn w Option.none 0 0 [] := ⟨rfl, ⟨Nat.le_refl _, Nat.zero_le _, fun _ => rfl⟩, .inl rfl⟩
/-- An entry's value. -/
def EntV (w : World) (v : Value) (x : Ent) : Prop := ∃ db dn dc, v = .agg #[.int .i64 x.1, .slice db dn dc] ∧ DeedsIn w db dn dc x.2
theorem EntV.below {w w' : World} {v : Value} {x : Ent} (h : EntV w v x) (hb : Below w.heap.size w w') : EntV w' v x := by
  obtain ⟨db, dn, dc, rfl, h1⟩ := h
  exact ⟨db, dn, dc, rfl, h1.below hb⟩
/-- One entry in a block of its own. -/
theorem ents_one (w : World) (t : TypeId) (x : Ent) (db : Option Addr) (dn dc : Nat) (h : DeedsIn w db dn dc x.2) : EntsIn (w.alloc (.cells #[.int .i64 x.1, .slice db dn dc] t)) (some ⟨w.heap.size, 0, Option.none⟩) 1 1 [x] := by
  refine ⟨rfl, ⟨Nat.le_refl _, by unfold maxLen; omega, fun h => by cases h⟩, .inr ⟨_, _, rfl, fun i hi => ?_⟩⟩
  obtain rfl : i = 0 := by omega
  exact ⟨db, dn, dc, box_cell w _ _ 0 _ rfl, box_cell w _ _ 1 _ rfl, h.below (grew w _)⟩

/-! ### Entries by where their deeds are -/
abbrev ESlot := Int × Sl
def eslotC (s : ESlot) : List Value := [.int .i64 s.1, .slice s.2.1 s.2.2.1 s.2.2.2]
theorem eslotC_length (s : ESlot) : (eslotC s).length = 2 := rfl
theorem eslotC_one (s : ESlot) : ∀ u ∈ eslotC s, u.oneCell' = true := fun u hu => by
  simp [eslotC] at hu; rcases hu with rfl | rfl <;> rfl
def ESlotIs (w : World) (s : ESlot) (x : Ent) : Prop := s.1 = x.1 ∧ DeedsIn w s.2.1 s.2.2.1 s.2.2.2 x.2
theorem ESlotIs.below {w w' : World} {s : ESlot} {x : Ent} (h : ESlotIs w s x) (hb : Below w.heap.size w w') : ESlotIs w' s x := ⟨h.1, h.2.below hb⟩
def ESlotsAre (w : World) (S : List ESlot) (L : List Ent) : Prop := S.length = L.length ∧ ∀ i, i < L.length → ESlotIs w (S.getD i default) (L.getD i default)
theorem ESlotsAre.nil (w : World) : ESlotsAre w [] [] := ⟨rfl, fun _ h => absurd h (Nat.not_lt_zero _)⟩
theorem ESlotsAre.below {w w' : World} {S : List ESlot} {L : List Ent} (h : ESlotsAre w S L) (hb : Below w.heap.size w w') : ESlotsAre w' S L := ⟨h.1, fun i hi => (h.2 i hi).below hb⟩
theorem ESlotsAre.snoc {w : World} {S : List ESlot} {L : List Ent} {s : ESlot} {x : Ent} (h : ESlotsAre w S L) (hs : ESlotIs w s x) : ESlotsAre w (S ++ [s]) (L ++ [x]) := by
  refine ⟨by simp [h.1], fun i hi => ?_⟩
  by_cases e : i < L.length
  · have e' : i < S.length := by rw [h.1]; exact e
    have := h.2 i e
    simpa [List.getD, List.getElem?_append_left e, List.getElem?_append_left e'] using this
  · have hi' : i = L.length := by simp at hi; omega
    subst hi'
    have e1 : (S ++ [s]).getD L.length default = s := by rw [← h.1]; simp [List.getD]
    have e2 : (L ++ [x]).getD L.length default = x := by simp [List.getD]
    rw [e1, e2]; exact hs
theorem ents_of_slots {w : World} {base : Option Addr} {n c : Nat} {S : List ESlot} {L : List Ent} (h : Lies w 2 base n c (flat eslotC S)) (hs : ESlotsAre w S L) : EntsIn w base n c L := by
  have hn : n = S.length := Lies.count eslotC_length (by decide) h
  refine ⟨by rw [hn, hs.1], h.hdr, ?_⟩
  rcases h.run with h0 | ⟨b, o, e, hr⟩
  · exact .inl h0
  · refine .inr ⟨b, o, e, fun i hi => ?_⟩
    have hiS : i < S.length := by omega
    obtain ⟨e1, e2⟩ := hs.2 i (by rw [← hs.1]; exact hiS)
    exact ⟨_, _, _, by rw [← e1]; exact hr.at_ eslotC_length hiS (j := 0) rfl, hr.at_ eslotC_length hiS (j := 1) rfl, e2⟩
end Go.Proofs.YthmkgfdglkdjmadGreatDoor
