/-
  The document's letters of an instruction are the places of its words.
  The program's way from a text to a deed.
  The state between two parts of a text that the document reads.
-/
import Derived.Test.YtagangiilcicpaeGreatDoorTextKeys
import Derived.Test.YtagangiilcicpaeGreatDoorDeedSame
import Derived.Test.YtagangiilcicpaeGreatDoorRefSplit
namespace Go.Proofs.YtagangiilcicpaeGreatDoor
open Go.Lib

def placeOf (c : UInt8) : T := if c = 114 then pA else if c = 115 then pB else if c = 110 then pN else pK
theorem places_form {k : Nat} (h1 : 1 ≤ k) (h9 : k ≤ 9) : placesT k = word k :: (keyT (form k)).map placeOf := by
  have : k = 1 ∨ k = 2 ∨ k = 3 ∨ k = 4 ∨ k = 5 ∨ k = 6 ∨ k = 7 ∨ k = 8 ∨ k = 9 := by omega
  rcases this with rfl | rfl | rfl | rfl | rfl | rfl | rfl | rfl | rfl <;> decide
theorem form_letters {k : Nat} (h1 : 1 ≤ k) (h9 : k ≤ 9) : (keyT (form k)).length ≤ 2 ∧ ∀ c ∈ keyT (form k), c = 114 ∨ c = 115 ∨ c = 110 ∨ c = 107 := by
  have : k = 1 ∨ k = 2 ∨ k = 3 ∨ k = 4 ∨ k = 5 ∨ k = 6 ∨ k = 7 ∨ k = 8 ∨ k = 9 := by omega
  rcases this with rfl | rfl | rfl | rfl | rfl | rfl | rfl | rfl | rfl <;> decide
/-- What the words behind the first one are, letter by letter. -/
theorem fill_form {k : Nat} (h1 : 1 ≤ k) (h9 : k ≤ 9) (h : T) (r : List T) : fillR k (h :: r) = if r.length ≠ (keyT (form k)).length then ((2 : Int), ins00) else match fillG ((keyT (form k)).map placeOf) r (ins0 k) with
    | some i => (0, i)
    | none => (2, ins00) := by
  unfold fillR
  rw [places_form h1 h9, fillG, fillStep_word]
  simp only [List.length_cons, List.length_map, Option.bind_some]
  by_cases e : r.length = (keyT (form k)).length
  · rw [if_neg (fun x => x (by rw [e])), if_neg (fun x => x e)]; rfl
  · rw [if_pos (fun x => e (by omega)), if_pos e]; rfl
theorem step_k (w : T) (i : Ins) : fillStep (placeOf 107) w i = some (i.kind, i.a, i.b, i.n, ofT w) := rfl
theorem step_n (w : T) (i : Ins) : fillStep (placeOf 110) w i = (numOf w).map fun x => (i.kind, i.a, i.b, x, i.key) := rfl
theorem step_r (w : T) (i : Ins) : fillStep (placeOf 114) w i = (regOf w).map fun x => (i.kind, x, i.b, i.n, i.key) := rfl
theorem step_s (w : T) (i : Ins) : fillStep (placeOf 115) w i = (regOf w).map fun x => (i.kind, i.a, x, i.n, i.key) := rfl
/-- The kind, of the first j words of all. -/
def kindTo (h : T) (j : Nat) : Nat := if kindOf h < j then kindOf h else 0
theorem kindTo_end (h : T) : kindTo h 10 = kindOf h := by
  unfold kindTo
  rcases kindOf_cases h with h0 | ⟨_, h2, _⟩
  · rw [h0]; rfl
  · rw [if_pos (by omega)]
theorem kindTo_hit {h : T} {j : Nat} (h1 : 1 ≤ j) (h9 : j ≤ 9) (e : h = word j) : kindTo h (j + 1) = j := by
  unfold kindTo; rw [e, kindOf_word j h1 h9, if_pos (by omega)]
theorem kindTo_miss {h : T} {j : Nat} (e : j = 0 ∨ h ≠ word j) : kindTo h (j + 1) = kindTo h j := by
  unfold kindTo
  by_cases hk : kindOf h = j
  · rcases kindOf_cases h with h0 | ⟨h1, _, h3⟩
    · rw [h0]; split <;> split <;> rfl
    · rcases e with rfl | e
      · omega
      · rw [hk] at h3; exact absurd h3 e
  · by_cases hl : kindOf h < j
    · rw [if_pos hl, if_pos (by omega)]
    · rw [if_neg hl, if_neg (by omega)]
end Go.Proofs.YtagangiilcicpaeGreatDoor

namespace Go.Proofs.YtagangiilcicpaeGreatDoor
open Go.RowKit

theorem readT_long {s : T} (h : 400 < s.length) : readT s = (4, [], [], []) := by unfold readT; rw [if_pos h]
theorem readT_few {s : T} (h : s.length ≤ 400) (h2 : (spl2 [] s).length < 2) : readT s = (8, [], [], []) := by
  unfold readT; rw [if_neg (by omega)]
  cases e : spl2 [] s with
  | nil => rfl
  | cons p l =>
    cases l with
    | nil => rfl
    | cons p1 ps => rw [e] at h2; simp only [List.length_cons] at h2; omega
theorem read_core (a b : T) (R W : List ByteArray) (r : Int × List Ins) {P Q : Int × List ByteArray × List ByteArray × List Ins}
    (hP : P = if a = wReads ∧ b = wWrites then (if r.1 = 0 then (0, R, W, r.2) else (r.1, [], [], [])) else (2, [], [], []))
    (hQ : Q = if a ≠ wReads then (2, [], [], []) else if b ≠ wWrites then (2, [], [], []) else match r with
      | (0, C) => if wDeed R W C = 0 then (0, R, W, C) else (wDeed R W C, [], [], [])
      | (e, _) => (e, [], [], [])) :
    (P.1 ≠ 0 → Q = (P.1, [], [], []) ∧ P.2 = ([], [], [])) ∧ (P.1 = 0 → (wDeed P.2.1 P.2.2.1 P.2.2.2 = 0 → Q = P) ∧ (wDeed P.2.1 P.2.2.1 P.2.2.2 ≠ 0 → Q = (wDeed P.2.1 P.2.2.1 P.2.2.2, [], [], []))) := by
  by_cases h0 : a = wReads
  · by_cases h1 : b = wWrites
    · rcases r with ⟨ec, C⟩
      rw [if_pos ⟨h0, h1⟩] at hP
      rw [if_neg (fun x => x h0), if_neg (fun x => x h1)] at hQ
      by_cases hc : ec = 0
      · subst hc
        rw [if_pos rfl] at hP
        subst hP hQ
        refine ⟨fun x => absurd rfl x, fun _ => ⟨fun x => ?_, fun x => ?_⟩⟩
        · exact if_pos x
        · exact if_neg x
      · rw [if_neg hc] at hP
        subst hP hQ
        refine ⟨fun _ => ⟨?_, rfl⟩, fun x => absurd x hc⟩
        split
        · rename_i C' e; exact absurd (congrArg Prod.fst e) hc
        · rename_i e' C' _ e; cases e; rfl
    · rw [if_neg (fun x => h1 x.2)] at hP
      rw [if_neg (fun x => x h0), if_pos h1] at hQ
      subst hP hQ
      exact ⟨fun _ => ⟨rfl, rfl⟩, fun x => absurd x (by decide)⟩
  · rw [if_neg (fun x => h0 x.1)] at hP
    rw [if_pos h0] at hQ
    subst hP hQ
    exact ⟨fun _ => ⟨rfl, rfl⟩, fun x => absurd x (by decide)⟩
theorem readT_parts {s : T} (h : s.length ≤ 400) (h2 : 2 ≤ (spl2 [] s).length) :
    ((readP (spl2 [] s)).1 ≠ 0 → readT s = ((readP (spl2 [] s)).1, [], [], []) ∧ (readP (spl2 [] s)).2 = ([], [], [])) ∧
    ((readP (spl2 [] s)).1 = 0 → (wDeed (readP (spl2 [] s)).2.1 (readP (spl2 [] s)).2.2.1 (readP (spl2 [] s)).2.2.2 = 0 → readT s = readP (spl2 [] s)) ∧
      (wDeed (readP (spl2 [] s)).2.1 (readP (spl2 [] s)).2.2.1 (readP (spl2 [] s)).2.2.2 ≠ 0 → readT s = (wDeed (readP (spl2 [] s)).2.1 (readP (spl2 [] s)).2.2.1 (readP (spl2 [] s)).2.2.2, [], [], []))) := by
  cases e : spl2 [] s with
  | nil => rw [e] at h2; simp at h2
  | cons p0 l =>
    cases l with
    | nil => rw [e] at h2; simp at h2
    | cons p1 ps =>
      refine read_core ((spl1 [] p0).headD []) ((spl1 [] p1).headD []) (((spl1 [] p0).drop 1).map ofT) (((spl1 [] p1).drop 1).map ofT) (readCode ps) rfl ?_
      unfold readT; rw [if_neg (by omega), e]
      rfl
theorem small_words {p : T} (h : p.length ≤ 400) : SmallT (((spl1 [] p).drop 1).map ofT) := by
  intro x hx
  obtain ⟨y, hy, rfl⟩ := List.mem_map.1 hx
  have := spl1_small p [] y (List.mem_of_mem_drop hy)
  rw [ofT_size]
  unfold maxLen
  simp at this; omega
theorem readP_small {s : T} (h : s.length ≤ 400) : SmallT (readP (spl2 [] s)).2.1 ∧ SmallT (readP (spl2 [] s)).2.2.1 := by
  have hp : ∀ j, ((spl2 [] s).getD j []).length ≤ 400 := fun j => by
    by_cases hj : j < (spl2 [] s).length
    · have := spl2_small s [] ((spl2 [] s).getD j []) (by simp [List.getD, hj])
      rw [List.length_nil, Nat.zero_add] at this; omega
    · simp [List.getD, hj]
  have h0 := small_words (hp 0)
  have h1 := small_words (hp 1)
  have hn : SmallT [] := fun _ h => by cases h
  unfold readP
  split
  · split
    · exact ⟨h0, h1⟩
    · exact ⟨hn, hn⟩
  · exact ⟨hn, hn⟩

theorem told_none {w w' : World} {q : Int × List ByteArray × List ByteArray × List Ins} {e : Int} (h : q = (e, [], [], [])) (hb : Below w.heap.size w w') : PartsTold w q (.returned (.tuple #[.agg #[.slice none 0 0, .slice none 0 0, .slice none 0 0], .int .i64 e])) w' :=
  ⟨none, 0, 0, none, 0, 0, none, 0, 0, by rw [h], by rw [h]; exact deed_none _, hb, fresh_none _, fresh_none _, fresh_none _⟩

end Go.Proofs.YtagangiilcicpaeGreatDoor

namespace Go.Proofs.YtagangiilcicpaeGreatDoor
open Go.RowKit

def head0 (PT : List T) : T := (spl1 [] (PT.getD 0 [])).headD []
def head1 (PT : List T) : T := (spl1 [] (PT.getD 1 [])).headD []
def keys0 (PT : List T) : List ByteArray := ((spl1 [] (PT.getD 0 [])).drop 1).map ofT
def keys1 (PT : List T) : List ByteArray := ((spl1 [] (PT.getD 1 [])).drop 1).map ofT
theorem readP_bad {PT : List T} (h : head0 PT ≠ wReads ∨ head1 PT ≠ wWrites) : readP PT = (2, [], [], []) := by
  unfold readP
  rw [if_neg (fun x => h.elim (fun y => y x.1) (fun y => y x.2))]
theorem readP_code {PT : List T} (h0 : head0 PT = wReads) (h1 : head1 PT = wWrites) {e : Int} (he : e ≠ 0) (h : readCode (PT.drop 2) = (e, [])) : readP PT = (e, [], [], []) := by
  unfold readP
  rw [if_pos ⟨h0, h1⟩, h, if_neg he]
theorem readP_ok {PT : List T} (h0 : head0 PT = wReads) (h1 : head1 PT = wWrites) {C : List Ins} (h : readCode (PT.drop 2) = (0, C)) : readP PT = (0, keys0 PT, keys1 PT, C) := by
  unfold readP
  rw [if_pos ⟨h0, h1⟩, h, if_pos rfl]
  rfl

/-- A slice lies below B, and not in the two blocks that are written. -/
def Fix (B D r : Nat) (base : Option Addr) : Prop := ∀ a, base = some a → a.block < B ∧ a.block ≠ D ∧ r < a.block
theorem fix_none (B D r : Nat) : Fix B D r none := fun _ h => by cases h
theorem Fix.up {B B' D r : Nat} {base : Option Addr} (h : Fix B D r base) (hB : B ≤ B') : Fix B' D r base := fun a e => ⟨Nat.lt_of_lt_of_le (h a e).1 hB, (h a e).2⟩
/-- The state between two parts. -/
structure RState (w wr : World) (D B : Nat) (PT : List T) (pb po pc n k : Nat) (rb : Option Addr) (rn rc : Nat) (wb : Option Addr) (wn wc : Nat) (v : Value) (C : List Ins) : Prop where
  bel : Below w.heap.size w wr
  parts : Texts wr (some ⟨pb, po, none⟩) n pc (PT.map ofT)
  res : DeedAt wr w.heap.size (.slice none 0 0) (.slice none 0 0) (.slice none 0 0)
  dd : DeedAt wr D (.slice rb rn rc) (.slice wb wn wc) v
  tr : Texts wr rb rn rc (if 1 ≤ k then keys0 PT else [])
  tw : Texts wr wb wn wc (if 2 ≤ k then keys1 PT else [])
  own : wr.ownsRow B 91 5 v (k - 2) (insCells C)
  len : C.length = k - 2
  sofar : readCode (PT.drop 2) = contC C (readCode ((PT.drop 2).drop (k - 2)))
  vn : k < 2 → v = .slice none 0 0
  g0 : 1 ≤ k → head0 PT = wReads
  g1 : 2 ≤ k → head1 PT = wWrites
  bd : D < B
  wd : w.heap.size < D
  bs : B ≤ wr.heap.size
  fp : Fix B D w.heap.size (some ⟨pb, po, none⟩)
  fr : Fix B D w.heap.size rb
  fw : Fix B D w.heap.size wb
theorem RState.below {w wr w2 : World} {D B : Nat} {PT : List T} {pb po pc n k : Nat} {rb : Option Addr} {rn rc : Nat} {wb : Option Addr} {wn wc : Nat} {v : Value} {C : List Ins} (h : RState w wr D B PT pb po pc n k rb rn rc wb wn wc v C) (hb : Below wr.heap.size wr w2) : RState w w2 D B PT pb po pc n k rb rn rc wb wn wc v C :=
  ⟨below_deep h.bel hb, h.parts.below (by decide) hb, h.res.below hb, h.dd.below hb, h.tr.below (by decide) hb, h.tw.below (by decide) hb, owns_below h.own hb, h.len, h.sofar, h.vn, h.g0, h.g1, h.bd, h.wd, Nat.le_trans h.bs hb.size, h.fp, h.fr, h.fw⟩
/-- A store of a deed's own slice. -/
theorem fix_off {B D r : Nat} {base : Option Addr} (h : Fix B D r base) : ∀ a, base = some a → D ≠ a.block := fun a e => fun x => (h a e).2.1 x.symm
theorem len_nil {C : List Ins} (h : C.length = 0) : C = [] := List.eq_nil_of_length_eq_zero h
theorem set_size (w : World) (a : Addr) (v : Value) : (w.setCell a v).heap.size = w.heap.size := by simp [World.setCell]
/-- The keys that are read are told. -/
theorem RState.set0 {w wr : World} {D B : Nat} {PT : List T} {pb po pc n : Nat} {rb : Option Addr} {rn rc : Nat} {wb : Option Addr} {wn wc : Nat} {v : Value} {C : List Ins} (h : RState w wr D B PT pb po pc n 0 rb rn rc wb wn wc v C) {base : Option Addr} {m c : Nat} (ht : Texts wr base m c (keys0 PT)) (hf : Fix wr.heap.size D w.heap.size base) (hh : head0 PT = wReads) :
    RState w (wr.setCell ⟨D, 0, none⟩ (.slice base m c)) D wr.heap.size PT pb po pc n 1 base m c wb wn wc v C := by
  have hv := h.vn (by decide)
  have hC := len_nil h.len
  subst hC hv
  refine ⟨h.bel.setCell (p := ⟨D, 0, none⟩) (Nat.le_of_lt h.wd) _, lies_off h.parts (fix_off h.fp) _, h.res.far (fun e => by have := h.wd; omega) _, h.dd.put0 _, lies_off ht (fix_off hf) _, lies_off h.tw (fix_off h.fw) _, World.ownsRow_nil _ _ _ _, rfl, h.sofar, fun _ => rfl, fun _ => hh, fun x => by omega, h.dd.lt, h.wd, by rw [set_size]; exact Nat.le_refl _, h.fp.up h.bs, hf, h.fw.up h.bs⟩
/-- The keys that are written are told. -/
theorem RState.set1 {w wr : World} {D B : Nat} {PT : List T} {pb po pc n : Nat} {rb : Option Addr} {rn rc : Nat} {wb : Option Addr} {wn wc : Nat} {v : Value} {C : List Ins} (h : RState w wr D B PT pb po pc n 1 rb rn rc wb wn wc v C) {base : Option Addr} {m c : Nat} (ht : Texts wr base m c (keys1 PT)) (hf : Fix wr.heap.size D w.heap.size base) (hh : head1 PT = wWrites) :
    RState w (wr.setCell ⟨D, 1, none⟩ (.slice base m c)) D wr.heap.size PT pb po pc n 2 rb rn rc base m c v C := by
  have hv := h.vn (by decide)
  have hC := len_nil h.len
  subst hC hv
  refine ⟨h.bel.setCell (p := ⟨D, 1, none⟩) (Nat.le_of_lt h.wd) _, lies_off h.parts (fix_off h.fp) _, h.res.far (fun e => by have := h.wd; omega) _, h.dd.put1 _, lies_off h.tr (fix_off h.fr) _, lies_off ht (fix_off hf) _, World.ownsRow_nil _ _ _ _, rfl, h.sofar, fun x => by omega, fun _ => h.g0 (Nat.le_refl _), fun _ => hh, h.dd.lt, h.wd, by rw [set_size]; exact Nat.le_refl _, h.fp.up h.bs, h.fr.up h.bs, hf⟩
/-- One instruction more: behind an append in the world w4. -/
theorem RState.push {w wr w4 : World} {D B : Nat} {PT : List T} {pb po pc n k : Nat} {rb : Option Addr} {rn rc : Nat} {wb : Option Addr} {wn wc : Nat} {v : Value} {C : List Ins} (h : RState w wr D B PT pb po pc n k rb rn rc wb wn wc v C) (hk : 2 ≤ k) {i : Ins} {v' : Value}
    (hb : Below B wr w4) (ho : w4.ownsRow B 91 5 v' (k - 2 + 1) (insCells (C ++ [i]))) (hs : readCode (PT.drop 2) = contC (C ++ [i]) (readCode ((PT.drop 2).drop (k - 2 + 1)))) :
    RState w (w4.setCell ⟨D, 2, none⟩ v') D B PT pb po pc n (k + 1) rb rn rc wb wn wc v' (C ++ [i]) := by
  have hwd := h.wd
  have hbd := h.bd
  have lt : ∀ {base : Option Addr}, Fix B D w.heap.size base → ∀ a, base = some a → a.block < B := fun hf a e => (hf a e).1
  have e : k + 1 - 2 = k - 2 + 1 := by omega
  have tr' := lies_off (lies_under h.tr hb (lt h.fr)) (fix_off h.fr) (k := 2) v'
  have tw' := lies_off (lies_under h.tw hb (lt h.fw)) (fix_off h.fw) (k := 2) v'
  rw [if_pos (show 1 ≤ k by omega)] at tr'
  rw [if_pos hk] at tw'
  refine ⟨(h.bel.trans (hb.mono (by omega))).setCell (p := ⟨D, 2, none⟩) (Nat.le_of_lt hwd) _, lies_off (lies_under h.parts hb (lt h.fp)) (fix_off h.fp) _, (h.res.under hb (by omega)).far (by omega) _, (h.dd.under hb hbd).put2 _, ?_, ?_, ?_, ?_, ?_, fun x => by omega, fun _ => h.g0 (by omega), fun _ => h.g1 hk, hbd, hwd, ?_, h.fp, h.fr, h.fw⟩
  · rw [if_pos (by omega)]; exact tr'
  · rw [if_pos (by omega)]; exact tw'
  · rw [e]; exact owns_set ho hbd _
  · rw [List.length_append, h.len, e]; rfl
  · rw [e]; exact hs
  · rw [set_size]; exact Nat.le_trans h.bs hb.size
/-- The words behind the first one, as a slice of the slice. -/
theorem tail_texts {w : World} {b o n c : Nat} {x : ByteArray} {l : List ByteArray} (h : Texts w (some ⟨b, o, none⟩) n c (x :: l)) : Texts w (some ⟨b, o + 1, none⟩) (n - 1) (c - 1) l := by
  have hn := Texts.count h
  have hc := h.hdr.le
  have hm := h.hdr.max
  simp only [List.length_cons] at hn
  refine ⟨by rw [strs_length]; omega, ⟨by omega, by omega, fun h => by cases h⟩, ?_⟩
  rcases h.run with h0 | ⟨b', o', e, hr⟩
  · omega
  · cases e
    refine .inr ⟨b, o + 1, rfl, fun j u hu => ?_⟩
    have := hr (j + 1) u (by simpa [strs] using hu)
    rwa [Nat.add_comm j 1, ← Nat.add_assoc] at this
theorem tail_none {w : World} {b o n c : Nat} {x : ByteArray} {l : List ByteArray} (h : Texts w (some ⟨b, o, none⟩) n c (x :: l)) (hc : c = 1) : l = [] ∧ n = 1 ∧ Texts w (some ⟨b, o, none⟩) 0 0 l := by
  have hn := Texts.count h
  have hle := h.hdr.le
  simp only [List.length_cons] at hn
  have hl : l = [] := List.eq_nil_of_length_eq_zero (by omega)
  subst hl
  exact ⟨rfl, by omega, rfl, ⟨Nat.le_refl _, Nat.zero_le _, fun h => by cases h⟩, .inl rfl⟩
end Go.Proofs.YtagangiilcicpaeGreatDoor
