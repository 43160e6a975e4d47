/-
  The program's way from a text's parts to a deed.
-/
import Derived.Test.YthmkgfdglkdjmadGreatDoorTextKeys
namespace Go.Proofs.YthmkgfdglkdjmadGreatDoor
open Go.RowKit

/-! ### Plain mathematics -/
def contC (C : List Ins) (r : Int × List Ins) : Int × List Ins := if r.1 = 0 then (0, C ++ r.2) else (r.1, [])
theorem contC_nil (r : Int × List Ins) (h : r.1 ≠ 0 → r.2 = []) : contC [] r = r := by
  unfold contC
  by_cases e : r.1 = 0
  · rw [if_pos e]; exact Prod.ext e.symm rfl
  · rw [if_neg e]; exact Prod.ext rfl (h e).symm
theorem contC_cont (C D : List Ins) (r : Int × List Ins) : contC C (contC D r) = contC (C ++ D) r := by
  unfold contC
  by_cases e : r.1 = 0
  · rw [if_pos e, if_pos rfl, if_pos e]; simp
  · rw [if_neg e, if_neg e, if_neg e]
theorem readCode_cons (p : T) (ps : List T) : readCode (p :: ps) = if (readIns (spl1 [] p)).1 = 0 then contC [(readIns (spl1 [] p)).2] (readCode ps) else ((readIns (spl1 [] p)).1, []) := by
  rw [readCode]
  rcases readIns (spl1 [] p) with ⟨e, i⟩
  by_cases h : e = 0
  · subst h
    simp only [if_true]
    rcases readCode ps with ⟨e2, C⟩
    by_cases h2 : e2 = 0
    · subst h2; simp [contC]
    · simp [contC, h2]
  · simp [h]
theorem readCode_nil : ∀ ps : List T, (readCode ps).1 ≠ 0 → (readCode ps).2 = []
  | [], h => absurd rfl h
  | p :: ps, h => by
    rw [readCode_cons] at h ⊢
    split at h
    · rename_i e
      rw [if_pos e]
      unfold contC at h ⊢
      split at h
      · exact absurd rfl h
      · rename_i e2; rw [if_neg e2]
    · rename_i e
      rw [if_neg e]
theorem code_next {PS : List T} {C : List Ins} {j : Nat} (h : readCode PS = contC C (readCode (PS.drop j))) (hj : j < PS.length) :
    ((readIns (spl1 [] (PS.getD j []))).1 = 0 → readCode PS = contC (C ++ [(readIns (spl1 [] (PS.getD j []))).2]) (readCode (PS.drop (j + 1)))) ∧ ((readIns (spl1 [] (PS.getD j []))).1 ≠ 0 → readCode PS = ((readIns (spl1 [] (PS.getD j []))).1, [])) := by
  rw [drop_getD hj, readCode_cons] at h
  constructor
  · intro e
    rw [if_pos e, contC_cont] at h
    exact h
  · intro e
    rw [if_neg e] at h
    rw [h]
    unfold contC
    rw [if_neg e]
theorem code_end {PS : List T} {C : List Ins} {j : Nat} (h : readCode PS = contC C (readCode (PS.drop j))) (hj : PS.length ≤ j) : readCode PS = (0, C) := by
  rw [h, List.drop_of_length_le hj]
  simp [readCode, contC]
/-- Parts, read. -/
def readP (PT : List T) : Int × List ByteArray × List ByteArray × List Ins :=
  if (spl1 [] (PT.getD 0 [])).headD [] = wReads ∧ (spl1 [] (PT.getD 1 [])).headD [] = wWrites then
    if (readCode (PT.drop 2)).1 = 0 then (0, ((spl1 [] (PT.getD 0 [])).drop 1).map ofT, ((spl1 [] (PT.getD 1 [])).drop 1).map ofT, (readCode (PT.drop 2)).2)
    else ((readCode (PT.drop 2)).1, [], [], [])
  else (2, [], [], [])

theorem insCells_append : ∀ (l m : List Ins), insCells (l ++ m) = insCells l ++ insCells m
  | [], _ => rfl
  | i :: l, m => by simp [insCells, insCells_append l m]

/-! ### A deed in a block of its own -/
structure DeedAt (w : World) (b : Nat) (x y z : Value) : Prop where
  c0 : w.cell? ⟨b, 0, none⟩ = some x
  c1 : w.cell? ⟨b, 1, none⟩ = some y
  c2 : w.cell? ⟨b, 2, none⟩ = some z
  free : ∀ j, w.frozen? ⟨b, j, none⟩ = false
theorem DeedAt.lt {w : World} {b : Nat} {x y z : Value} (h : DeedAt w b x y z) : b < w.heap.size := World.block_lt_of_cell? _ _ h.c0
theorem DeedAt.below {w w' : World} {b : Nat} {x y z : Value} (h : DeedAt w b x y z) (hb : Below w.heap.size w w') : DeedAt w' b x y z :=
  ⟨kept_cell hb h.c0, kept_cell hb h.c1, kept_cell hb h.c2, fun j => kept_free hb ⟨h.lt, h.free j⟩⟩
theorem DeedAt.under {w w' : World} {b B : Nat} {x y z : Value} (h : DeedAt w b x y z) (hb : Below B w w') (hB : b < B) : DeedAt w' b x y z :=
  ⟨by rw [hb.cell (p := ⟨b, 0, none⟩) hB]; exact h.c0, by rw [hb.cell (p := ⟨b, 1, none⟩) hB]; exact h.c1, by rw [hb.cell (p := ⟨b, 2, none⟩) hB]; exact h.c2, fun j => by rw [hb.frozen (p := ⟨b, j, none⟩) hB]; exact h.free j⟩
theorem DeedAt.far {w : World} {b b' k : Nat} {x y z : Value} (h : DeedAt w b x y z) (hne : b' ≠ b) (v : Value) : DeedAt (w.setCell ⟨b', k, none⟩ v) b x y z :=
  ⟨by rw [World.cell?_setCell_far _ _ _ _ hne]; exact h.c0, by rw [World.cell?_setCell_far _ _ _ _ hne]; exact h.c1, by rw [World.cell?_setCell_far _ _ _ _ hne]; exact h.c2, fun j => by rw [free_set]; exact h.free j⟩
theorem DeedAt.put0 {w : World} {b : Nat} {x y z : Value} (h : DeedAt w b x y z) (v : Value) : DeedAt (w.setCell ⟨b, 0, none⟩ v) b v y z :=
  ⟨World.cell?_setCell_same _ _ _ h.c0, by rw [set_off (by decide)]; exact h.c1, by rw [set_off (by decide)]; exact h.c2, fun j => by rw [free_set]; exact h.free j⟩
theorem DeedAt.put1 {w : World} {b : Nat} {x y z : Value} (h : DeedAt w b x y z) (v : Value) : DeedAt (w.setCell ⟨b, 1, none⟩ v) b x v z :=
  ⟨by rw [set_off (by decide)]; exact h.c0, World.cell?_setCell_same _ _ _ h.c1, by rw [set_off (by decide)]; exact h.c2, fun j => by rw [free_set]; exact h.free j⟩
theorem DeedAt.put2 {w : World} {b : Nat} {x y z : Value} (h : DeedAt w b x y z) (v : Value) : DeedAt (w.setCell ⟨b, 2, none⟩ v) b x y v :=
  ⟨by rw [set_off (by decide)]; exact h.c0, by rw [set_off (by decide)]; exact h.c1, World.cell?_setCell_same _ _ _ h.c2, fun j => by rw [free_set]; exact h.free j⟩
def setThree (w : World) (b : Nat) (x y z : Value) : World := ((w.setCell ⟨b, 0, none⟩ x).setCell ⟨b, 1, none⟩ y).setCell ⟨b, 2, none⟩ z
theorem DeedAt.all {w : World} {b : Nat} {x y z : Value} (h : DeedAt w b x y z) (x' y' z' : Value) : DeedAt (setThree w b x' y' z') b x' y' z' := ((h.put0 x').put1 y').put2 z'
theorem below_three {w0 w : World} (h : Below w0.heap.size w0 w) {b : Nat} (hb : w0.heap.size ≤ b) (x y z : Value) : Below w0.heap.size w0 (setThree w b x y z) :=
  ((h.setCell (p := ⟨b, 0, none⟩) hb _).setCell (p := ⟨b, 1, none⟩) hb _).setCell (p := ⟨b, 2, none⟩) hb _
theorem three_new (w : World) (x y z : Value) (t : TypeId) : DeedAt (w.alloc (.cells #[x, y, z] t)) w.heap.size x y z :=
  ⟨box_cell _ _ _ _ _ rfl, box_cell _ _ _ _ _ rfl, box_cell _ _ _ _ _ rfl, fun _ => World.frozen?_alloc_at _ _ _ _ rfl⟩
/-- What a slice holds is not touched by a store elsewhere. -/
theorem lies_off {w : World} {sz : Nat} {base : Option Addr} {n c : Nat} {vs : List Value} (h : Lies w sz base n c vs) {b k : Nat} (hne : ∀ a, base = some a → b ≠ a.block) (v : Value) : Lies (w.setCell ⟨b, k, none⟩ v) sz base n c vs := by
  refine ⟨h.len, h.hdr, ?_⟩
  rcases h.run with h0 | ⟨b', o, e, hr⟩
  · exact .inl h0
  · refine .inr ⟨b', o, e, fun j x hx => ?_⟩
    rw [World.cell?_setCell_far _ _ _ _ (hne _ e)]; exact hr j x hx
theorem lies_offThree {w : World} {sz : Nat} {base : Option Addr} {n c : Nat} {vs : List Value} (h : Lies w sz base n c vs) {b : Nat} (hne : ∀ a, base = some a → b ≠ a.block) (x y z : Value) : Lies (setThree w b x y z) sz base n c vs :=
  lies_off (lies_off (lies_off h hne x) hne y) hne z
theorem lies_under {w w' : World} {sz : Nat} {base : Option Addr} {n c B : Nat} {vs : List Value} (h : Lies w sz base n c vs) (hb : Below B w w') (hlt : ∀ a, base = some a → a.block < B) : Lies w' sz base n c vs := by
  refine ⟨h.len, h.hdr, ?_⟩
  rcases h.run with h0 | ⟨b', o, e, hr⟩
  · exact .inl h0
  · exact .inr ⟨b', o, e, hr.below hb (hlt _ e)⟩
theorem owns_below {w w' : World} {B e sz n : Nat} {v : Value} {l : List Value} (h : w.ownsRow B e sz v n l) (hb : Below w.heap.size w w') : w'.ownsRow B e sz v n l := by
  refine ⟨h.1, ?_⟩
  rcases h.2 with h0 | ⟨g, cap, cur, rfl, h1, h2, h3⟩
  · exact .inl h0
  · have hg : g < w.heap.size := by
      by_cases hl : g < w.heap.size
      · exact hl
      · rw [Array.getElem?_eq_none (by omega)] at h2; cases h2
    exact .inr ⟨g, cap, cur, rfl, h1, by rw [hb.block g hg]; exact h2, h3⟩
theorem owns_set {w : World} {B e sz n : Nat} {v : Value} {l : List Value} (h : w.ownsRow B e sz v n l) {b k : Nat} (hb : b < B) (u : Value) : (w.setCell ⟨b, k, none⟩ u).ownsRow B e sz v n l := by
  refine ⟨h.1, ?_⟩
  rcases h.2 with h0 | ⟨g, cap, cur, rfl, h1, h2, h3⟩
  · exact .inl h0
  · exact .inr ⟨g, cap, cur, rfl, h1, by rw [Below.heap_setCell _ _ _ _ (by show g ≠ b; omega)]; exact h2, h3⟩
theorem owns_fresh {w : World} {B e sz n : Nat} {base : Option Addr} {c : Nat} {l : List Value} (h : w.ownsRow B e sz (.slice base n c) n l) : Fresh B base := fun a e => (h.lt a.block (by rw [e]; rfl)).1

/-- The state between two rounds: D is the deed's block, R the result's. -/
structure Reads (w wr : World) (D B : Nat) (rb : Option Addr) (rn : Nat) (wb : Option Addr) (wn : Nat) (R W : List ByteArray) (PS : List T) (j : Nat) (v : Value) (C : List Ins) : Prop where
  sofar : readCode PS = contC C (readCode (PS.drop j))
  len : C.length = j
  bel : Below w.heap.size w wr
  size : B ≤ wr.heap.size
  res : DeedAt wr w.heap.size (.slice none 0 0) (.slice none 0 0) (.slice none 0 0)
  dd : DeedAt wr D (.slice rb rn rn) (.slice wb wn wn) v
  tr : Texts wr rb rn rn R
  tw : Texts wr wb wn wn W
  own : wr.ownsRow B 101 5 v j (insCells C)

theorem parts_results (tmps : Array Value) (b : Nat) (w : World) {p q r : Option Addr} {n1 c1 n2 c2 n3 c3 : Nat} {e : Int} (h2 : tmps.getD 2 undef = .pointer (some ⟨b, 0, none⟩)) (h3 : tmps.getD 3 undef = .int .i64 e) (h : DeedAt w b (.slice p n1 c1) (.slice q n2 c2) (.slice r n3 c3)) :
    (results Tryz.f113 tmps).run Tryz.prog w = .ok (.tuple #[.agg #[.slice p n1 c1, .slice q n2 c2, .slice r n3 c3], .int .i64 e]) w := by
  have h2' : tmps[2]?.getD undef = .pointer (some ⟨b, 0, none⟩) := by simpa using h2
  have h3' : tmps[3]?.getD undef = .int .i64 e := by simpa using h3
  simp [results, Tryz.results113, go_sem, h2', h3', h.c0, h.c1, h.c2]

/-- What a call of it says, in one word. -/
def PartsTold (w : World) (q : Int × List ByteArray × List ByteArray × List Ins) (e : Ending) (w' : World) : Prop :=
  ∃ rb rn rc wb wn wc cb cn cc, e = .returned (.tuple #[.agg #[.slice rb rn rc, .slice wb wn wc, .slice cb cn cc], .int .i64 q.1]) ∧ DeedIn w' rb rn rc wb wn wc cb cn cc q.2.1 q.2.2.1 q.2.2.2 ∧ Below w.heap.size w w' ∧ Fresh w.heap.size rb ∧ Fresh w.heap.size wb ∧ Fresh w.heap.size cb
theorem deed_none (w : World) : DeedIn w none 0 0 none 0 0 none 0 0 [] [] [] := ⟨Lies.none _ _, Lies.none _ _, Lies.none _ _⟩

set_option maxHeartbeats 8000000 in
theorem parseParts_calls (PT : List T) (b m : Nat) (w : World) (hG : Ground w) (hp : Texts w (some ⟨b, 0, none⟩) (m + 2) (m + 2) (PT.map ofT)) (hl : m ≤ 100000) (hs : ∀ x ∈ PT, x.length ≤ 100000) :
    Calls Tryz.prog 113 #[.slice (some ⟨b, 0, none⟩) (m + 2) (m + 2)] w fun e w' => PartsTold w (readP PT) e w' := by
  have hn : m + 2 = PT.length := by have := Texts.count hp; simpa using this
  have hrun : Run w b 0 (strs (PT.map ofT)) := by
    rcases hp.run with h | ⟨b', o', e, hr⟩
    · omega
    · cases e; exact hr
  have hbw : b < w.heap.size := hrun.lt (by rw [strs_length, List.length_map]; omega)
  have hcell : ∀ j, j < m + 2 → w.cell? ⟨b, j, none⟩ = some (.string (ofT (PT.getD j []))) := fun j hj => by
    have := hrun j _ (strs_at (by rw [List.length_map]; omega))
    rw [getD_map_ofT (by omega), Nat.zero_add] at this
    exact this
  have hz : ∀ j, j < m + 2 → (ofT (PT.getD j [])).size ≤ 100000 := fun j hj => by
    rw [ofT_size]; exact hs _ (by simp [List.getD, show j < PT.length by omega])
  have c0 := box_past (.cells #[.slice none 0 0, .slice none 0 0, .slice none 0 0] 75) (hcell 0 (by omega))
  have HP0 := hid (parseKeys_calls ⟨#[114, 101, 97, 100, 115]⟩ (ofT (PT.getD 0 [])) _ (hG.below (grew w (.cells #[.slice none 0 0, .slice none 0 0, .slice none 0 0] 75))) (hz 0 (by omega)))
  rw [keyT_ofT, World.size_alloc] at HP0
  have HC := hid hcell
  have HZ := hid hz
  have HG := hid hG
  have HQ : Hid (readP PT = if (decide ((spl1 [] (PT.getD 0 [])).headD [] = wReads) && decide ((spl1 [] (PT.getD 1 [])).headD [] = wWrites)) = true then (if (readCode (PT.drop 2)).1 = 0 then (0, ((spl1 [] (PT.getD 0 [])).drop 1).map ofT, ((spl1 [] (PT.getD 1 [])).drop 1).map ofT, (readCode (PT.drop 2)).2) else ((readCode (PT.drop 2)).1, [], [], [])) else (2, [], [], [])) := by
    show _ = _
    unfold readP
    congr 1
    simp
  generalize readP PT = q at *
  have HPS : Hid (∀ j, (PT.drop 2).getD j [] = PT.getD (j + 2) []) := fun j => by simp [List.getD, Nat.add_comm]
  have HPN : Hid ((PT.drop 2).length = m) := by show _ = _; rw [List.length_drop]; omega
  clear hcell hz hG hrun hp hs hn
  generalize PT.drop 2 = PS at *
  have HW1 : Hid (∀ wx, Ground wx → Calls Tryz.prog 128 #[.string ⟨#[119, 114, 105, 116, 101, 115]⟩, .string (ofT (PT.getD 1 []))] wx fun e w' => ∃ o n, e = .returned (.tuple #[.slice (some ⟨wx.heap.size, o, none⟩) n n, .bool (decide ((spl1 [] (PT.getD 1 [])).headD [] = wWrites))]) ∧ Texts w' (some ⟨wx.heap.size, o, none⟩) n n (((spl1 [] (PT.getD 1 [])).drop 1).map ofT) ∧ Below wx.heap.size wx w' ∧ wx.heap.size < w'.heap.size) := fun wx hg => by
    have := parseKeys_calls ⟨#[119, 114, 105, 116, 101, 115]⟩ (ofT (PT.getD 1 [])) wx hg (HZ.out 1 (by omega))
    rw [keyT_ofT] at this
    exact this
  have hr0 : keyT ⟨#[114, 101, 97, 100, 115]⟩ = wReads := rfl
  rw [hr0] at HP0
  clear hr0
  have HC1 := hid (HC.out 1 (by omega))
  generalize decide ((spl1 [] (PT.getD 0 [])).headD [] = wReads) = q0 at *
  generalize decide ((spl1 [] (PT.getD 1 [])).headD [] = wWrites) = q1 at *
  generalize ((spl1 [] (PT.getD 0 [])).drop 1).map ofT = R at *
  generalize ((spl1 [] (PT.getD 1 [])).drop 1).map ofT = W at *
  generalize ofT (PT.getD 0 []) = s0 at *
  generalize ofT (PT.getD 1 []) = s1 at *
  go_enter Tryz.func113, Tryz.ntmps113
  go_wp2_with fail
  refine HP0.out.mono ?_
  rintro e w1 ⟨o1, n1, rfl, ht1, hb0, hz1⟩
  have hb1 : Below (w.alloc (.cells #[.slice none 0 0, .slice none 0 0, .slice none 0 0] 75)).heap.size (w.alloc (.cells #[.slice none 0 0, .slice none 0 0, .slice none 0 0] 75)) w1 := by rw [World.size_alloc]; exact hb0
  clear hb0
  have HB1 := hid (below_deep (grew w (.cells #[.slice none 0 0, .slice none 0 0, .slice none 0 0] 75)) hb1)
  have c1 := kept_cell HB1.out HC1.out
  have HR1 := hid ((three_new w (.slice none 0 0) (.slice none 0 0) (.slice none 0 0) 75).below hb1)
  have HT1 := hid ht1
  have hsz1 := hz1
  clear ht1 hb1 hz1 c0
  go_wp2_with fail
  refine (HW1.out w1 (HG.out.below HB1.out)).mono ?_
  rintro e w2 ⟨o2, n2, rfl, ht2, hb2, hz2⟩
  have HB2 := hid (below_deep HB1.out hb2)
  have HR2 := hid (HR1.out.below hb2)
  have HT2 := hid ht2
  have HT1' := hid (HT1.out.below (by decide) hb2)
  clear ht2 hb2 c1 HC1 HW1 HP0
  cases q0 with
  | false =>
    have HE : Hid (q = (2, [], [], [])) := HQ.out
    obtain ⟨r0, r1, r2, rf⟩ := HR2.out
    have f0 := rf 0
    have f1 := rf 1
    have f2 := rf 2
    clear rf
    go_wp2
    (try simp only [Exit.inBlock, Exit.then])
    refine bodyPost_ret (parts_results _ w.heap.size _ rfl rfl (HR2.out.all (.slice none 0 0) (.slice none 0 0) (.slice none 0 0))) rfl ?_
    exact ⟨none, 0, 0, none, 0, 0, none, 0, 0, by rw [HE.out], by rw [HE.out]; exact deed_none _, below_three HB2.out (Nat.le_refl _) _ _ _, fresh_none _, fresh_none _, fresh_none _⟩
  | true =>
    cases q1 with
    | false =>
      have HE : Hid (q = (2, [], [], [])) := HQ.out
      obtain ⟨r0, r1, r2, rf⟩ := HR2.out
      have f0 := rf 0
      have f1 := rf 1
      have f2 := rf 2
      clear rf
      go_wp2
      (try simp only [Exit.inBlock, Exit.then])
      refine bodyPost_ret (parts_results _ w.heap.size _ rfl rfl (HR2.out.all (.slice none 0 0) (.slice none 0 0) (.slice none 0 0))) rfl ?_
      exact ⟨none, 0, 0, none, 0, 0, none, 0, 0, by rw [HE.out], by rw [HE.out]; exact deed_none _, below_three HB2.out (Nat.le_refl _) _ _ _, fresh_none _, fresh_none _, fresh_none _⟩
    | true =>
      have HE : Hid (q = if (readCode PS).1 = 0 then (0, R, W, (readCode PS).2) else ((readCode PS).1, [], [], [])) := HQ.out
      have hw1 := HB1.out.size
      have HD0 := hid (three_new w2 (.slice (some ⟨w.heap.size + 1, o1, none⟩) n1 n1) (.slice (some ⟨w1.heap.size, o2, none⟩) n2 n2) (.slice none 0 0) 75)
      have HRL := hid (HR2.out.below (grew w2 (.cells #[.slice (some ⟨w.heap.size + 1, o1, none⟩) n1 n1, .slice (some ⟨w1.heap.size, o2, none⟩) n2 n2, .slice none 0 0] 75)))
      have HBL := hid (below_deep HB2.out (grew w2 (.cells #[.slice (some ⟨w.heap.size + 1, o1, none⟩) n1 n1, .slice (some ⟨w1.heap.size, o2, none⟩) n2 n2, .slice none 0 0] 75)))
      have HTL1 := hid (HT1'.out.below (by decide) (grew w2 (.cells #[.slice (some ⟨w.heap.size + 1, o1, none⟩) n1 n1, .slice (some ⟨w1.heap.size, o2, none⟩) n2 n2, .slice none 0 0] 75)))
      have HTL2 := hid (HT2.out.below (by decide) (grew w2 (.cells #[.slice (some ⟨w.heap.size + 1, o1, none⟩) n1 n1, .slice (some ⟨w1.heap.size, o2, none⟩) n2 n2, .slice none 0 0] 75)))
      have HPZ : Hid (∀ j, j < m → w.cell? ⟨b, j + 2, none⟩ = some (.string (ofT (PS.getD j []))) ∧ (ofT (PS.getD j [])).size ≤ 100000) := fun j hj => by
        rw [HPS.out j]
        exact ⟨HC.out (j + 2) (by omega), HZ.out (j + 2) (by omega)⟩
      clear HC HZ HPS HT1 HT1' HT2 HR1 HR2 HQ
      rcases Nat.eq_zero_or_pos m with h0 | h0
      all_goals
        go_wp2
        go_loopw [40] (fun c wr => ∃ (j : Nat) (v : Value) (C : List Ins), j ≤ m ∧ c = .int .i64 j ∧ Hid (Reads w wr w2.heap.size (w2.heap.size + 1) (some ⟨w.heap.size + 1, o1, none⟩) n1 (some ⟨w1.heap.size, o2, none⟩) n2 R W PS j v C)) (fun c _ => m - (intOf c).toNat)
        case atStart =>
          refine ⟨0, .slice none 0 0, [], Nat.zero_le _, rfl, ?_⟩
          exact ⟨(contC_nil _ (readCode_nil _)).symm, rfl, HBL.out, by rw [World.size_alloc]; exact Nat.le_refl _, HRL.out, HD0.out, HTL1.out, HTL2.out, World.ownsRow_nil _ _ _ _⟩
        case round =>
          obtain ⟨j, v, C, hj, rfl, HL⟩ := hrel
          by_cases hlt : j < m
          case neg =>
            obtain rfl : j = m := by omega
            have HF := hid (code_end HL.out.sofar (by rw [HPN.out]; exact Nat.le_refl _))
            have HE2 : Hid (q = (0, R, W, C)) := by show _ = _; rw [HE.out, HF.out]; rfl
            obtain ⟨cb, cc, rfl, hcl⟩ := Lies.owned HL.out.own
            have HCL := hid hcl
            have HFR := hid (owns_fresh HL.out.own)
            obtain ⟨r0, r1, r2, rf⟩ := HL.out.res
            obtain ⟨d0, d1, d2, df⟩ := HL.out.dd
            have f0 := rf 0
            have f1 := rf 1
            have f2 := rf 2
            clear rf df hcl
            (try subst h0)
            have HDD := hid (fun k => HL.out.res.all (.slice (some ⟨w.heap.size + 1, o1, none⟩) n1 n1) (.slice (some ⟨w1.heap.size, o2, none⟩) n2 n2) (.slice cb k cc))
            go_wp2
            (try simp only [Exit.inBlock, Exit.then])
            refine bodyPost_ret (parts_results _ w.heap.size _ rfl rfl (HDD.out _)) rfl ?_
            refine ⟨_, _, _, _, _, _, _, _, _, by rw [HE2.out], ?_, below_three HL.out.bel (Nat.le_refl _) _ _ _, (fun a e => by cases e; show w.heap.size ≤ w.heap.size + 1; omega), (fun a e => by cases e; show w.heap.size ≤ w1.heap.size; omega), (fun a e => by have := HFR.out a e; omega)⟩
            rw [HE2.out]
            exact ⟨lies_offThree HL.out.tr (fun a e => by cases e; show w.heap.size ≠ w.heap.size + 1; omega) _ _ _, lies_offThree HL.out.tw (fun a e => by cases e; show w.heap.size ≠ w1.heap.size; omega) _ _ _, lies_offThree HCL.out (fun a e => by have := HFR.out a e; omega) _ _ _⟩
          case pos =>
            first
            | (exfalso; omega)
            | skip
            all_goals
              have hpz := HPZ.out j hlt
              have cj := kept_cell HL.out.bel hpz.1
              rw [Nat.add_comm j 2] at cj
              have HI := hid (parseInstr_calls (ofT (PS.getD j [])) wr (HG.out.below HL.out.bel) hpz.2)
              rw [keyT_ofT] at HI
              have HN := hid (code_next HL.out.sofar (by rw [HPN.out]; exact hlt))
              have hjm : (j : Int) < (m : Int) := by omega
              clear hpz
              generalize readIns (spl1 [] (PS.getD j [])) = qi at *
              generalize ofT (PS.getD j []) = sj at *
              obtain ⟨ei, ii⟩ := qi
              simp only at HI HN
              go_wp2_with fail
              refine HI.out.mono ?_
              rintro e w3 ⟨rfl, hb3⟩
              have HB3 := hid (below_deep HL.out.bel hb3)
              unfold insV
              by_cases he : ei = 0
              case neg =>
                have HE2 : Hid (q = (ei, [], [], [])) := by
                  show _ = _
                  rw [HE.out, HN.out.2 he, if_neg he]
                have hne : (ei != 0) = true := by simpa using he
                have HRX := hid (((HL.out.res.below hb3).all (.slice none 0 0) (.slice none 0 0) (.slice none 0 0)).below (grew _ (.cells #[.int .i64 ii.kind, .int .i64 ii.a, .int .i64 ii.b, .int .i64 ii.n, .string ii.key] 101)))
                obtain ⟨r0, r1, r2, rf⟩ := HL.out.res.below hb3
                have f0 := rf 0
                have f1 := rf 1
                have f2 := rf 2
                have hlt3 := (HL.out.res.below hb3).lt
                clear rf he hb3
                go_wp2
                (try simp only [Exit.inBlock, Exit.then])
                refine bodyPost_ret (parts_results _ w.heap.size _ rfl rfl HRX.out) rfl ?_
                exact ⟨none, 0, 0, none, 0, 0, none, 0, 0, by rw [HE2.out], by rw [HE2.out]; exact deed_none _, below_deep (below_three HB3.out (Nat.le_refl _) _ _ _) (grew _ _), fresh_none _, fresh_none _, fresh_none _⟩
              case pos =>
                subst he
                have HNX := hid (HN.out.1 rfl)
                have HVC : Hid (insCells (C ++ [ii]) = insCells C ++ [.int .i64 ii.kind, .int .i64 ii.a, .int .i64 ii.b, .int .i64 ii.n, .string ii.key]) := by
                  show _ = _; rw [insCells_append]; rfl
                have HOX := hid ((owns_below HL.out.own hb3).alloc (.cells #[.int .i64 ii.kind, .int .i64 ii.a, .int .i64 ii.b, .int .i64 ii.n, .string ii.key] 101) |>.alloc (.cells #[.int .i64 ii.kind, .int .i64 ii.a, .int .i64 ii.b, .int .i64 ii.n, .string ii.key] 101))
                have HCX := hid (lies_one (w3.alloc (.cells #[.int .i64 ii.kind, .int .i64 ii.a, .int .i64 ii.b, .int .i64 ii.n, .string ii.key] 101)) #[.int .i64 ii.kind, .int .i64 ii.a, .int .i64 ii.b, .int .i64 ii.n, .string ii.key] 101 5 rfl)
                rw [World.size_alloc] at HCX
                have HLT := hid HOX.out.lt
                have B1 : Hid ((j + 1) * 48 ≤ 140737488355328) := by show _ ≤ _; omega
                have HSZ : Hid (w2.heap.size + 1 ≤ w3.heap.size) := Nat.le_trans HL.out.size hb3.size
                have hlt3 : w2.heap.size < w3.heap.size := by have := HSZ.out; omega
                have HDX := hid ((HL.out.dd.below hb3).below (below_deep (grew w3 (.cells #[.int .i64 ii.kind, .int .i64 ii.a, .int .i64 ii.b, .int .i64 ii.n, .string ii.key] 101)) (grew (w3.alloc (.cells #[.int .i64 ii.kind, .int .i64 ii.a, .int .i64 ii.b, .int .i64 ii.n, .string ii.key] 101)) (.cells #[.int .i64 ii.kind, .int .i64 ii.a, .int .i64 ii.b, .int .i64 ii.n, .string ii.key] 101))))
                have d2 := (HL.out.dd.below hb3).c2
                have HXX : Hid (Below w3.heap.size w3 ((w3.alloc (.cells #[.int .i64 ii.kind, .int .i64 ii.a, .int .i64 ii.b, .int .i64 ii.n, .string ii.key] 101)).alloc (.cells #[.int .i64 ii.kind, .int .i64 ii.a, .int .i64 ii.b, .int .i64 ii.n, .string ii.key] 101))) := below_deep (grew _ _) (grew _ _)
                have HY : Hid (∀ u ∈ [Value.int .i64 ii.kind, .int .i64 ii.a, .int .i64 ii.b, .int .i64 ii.n, .string ii.key], u.oneCell' = true) := by
                  show ∀ u ∈ _, _
                  intro u hu
                  simp at hu
                  rcases hu with rfl | rfl | rfl | rfl | rfl <;> rfl
                have HB3' := hid hb3
                clear hb3
                go_wp2_with (at_builtin; refine wpList_onto _ rfl _ _ 73 101 5 48 _ Tryz.underlying73 insInfo rfl (by decide) (by decide) rfl (w2.heap.size + 1) _ j _ rfl HOX.out _ 1 _ _ rfl HCX.out HY.out B1.out (le_box (le_box HSZ.out)) ?_)
                intro v1 w4 hown hg
                have HG4 := hid ((Below.refl (w2.heap.size + 1) _).grown hg (le_box (le_box HSZ.out)) (fun y hy => (HLT.out y hy).1))
                obtain ⟨cb, cc, rfl, _⟩ := Lies.owned hown
                have HO4 := hid hown
                clear hown hg
                have HD4 := hid (HDX.out.under HG4.out (Nat.lt_succ_self _))
                have HR4 := hid (((HL.out.res.below HB3'.out).below HXX.out).under HG4.out (by omega))
                have HT4 := hid (lies_under ((HL.out.tr.below (by decide) HB3'.out).below (by decide) HXX.out) HG4.out (fun a e => by cases e; show w.heap.size + 1 < _; omega))
                have HW4 := hid (lies_under ((HL.out.tw.below (by decide) HB3'.out).below (by decide) HXX.out) HG4.out (fun a e => by cases e; show w1.heap.size < _; omega))
                have HB4 := hid ((below_deep HB3.out HXX.out).trans (HG4.out.mono (by omega)))
                have HS4 : Hid (w2.heap.size + 1 ≤ w4.heap.size) := by
                  show _ ≤ _
                  have h1 := HG4.out.size
                  rw [World.size_alloc, World.size_alloc] at h1
                  have h2 := HSZ.out
                  omega
                have e0 := HD4.out.c2
                have ef := HD4.out.free 2
                go_wp2
                go_roundw
                case rel =>
                  refine ⟨j + 1, .slice cb (j + 1) cc, C ++ [ii], by omega, by go_num, ?_⟩
                  refine ⟨HNX.out, by simp [HL.out.len], HB4.out.setCell (p := ⟨w2.heap.size, 2, none⟩) (by show w.heap.size ≤ w2.heap.size; omega) _, ?_, HR4.out.far (by omega) _, HD4.out.put2 _, lies_off HT4.out (fun a e => by cases e; show w2.heap.size ≠ w.heap.size + 1; omega) _, lies_off HW4.out (fun a e => by cases e; show w2.heap.size ≠ w1.heap.size; omega) _, ?_⟩
                  · simpa [World.setCell] using HS4.out
                  · rw [HVC.out]; exact owns_set HO4.out (Nat.lt_succ_self _) _
                case measure => simp [intOf]; omega
end Go.Proofs.YthmkgfdglkdjmadGreatDoor
