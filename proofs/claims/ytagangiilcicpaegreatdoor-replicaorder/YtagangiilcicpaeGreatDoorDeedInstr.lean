/-
  The program's search among texts, and what it finds wrong with keys.
  What the program finds wrong with a deed.
  What the program finds wrong with an instruction of a deed.
-/
import Derived.Test.YtagangiilcicpaeGreatDoorLies
import Derived.Test.YtagangiilcicpaeGreatDoorDeedMath
namespace Go.Proofs.YtagangiilcicpaeGreatDoor
open Go.RowKit

theorem streq_true {a b : ByteArray} (h : a = b) : (a.toList == b.toList) = true := by subst h; simp
theorem streq_false {a b : ByteArray} (h : a ≠ b) : (a.toList == b.toList) = false := by simpa using fun e => h (toList_inj e)

/-- Where k is first; -1: nowhere. -/
theorem index_calls (l : List ByteArray) (base : Option Addr) (n c : Nat) (k : ByteArray) (w : World) (ha : Texts w base n c l) :
    Calls Tryz.prog 126 #[.slice base n c, .string k] w fun e w' => (∃ x : Int, e = .returned (.int .i64 x) ∧ decide (x ≥ 0) = has l k) ∧ w = w' := by
  have HN := hid (Texts.count ha)
  have hm := Nat.le_trans ha.hdr.le ha.hdr.max
  unfold maxLen at hm
  by_cases h0 : n = 0
  · subst h0
    have hl : l = [] := List.eq_nil_of_length_eq_zero (by have := HN.out; omega)
    subst hl
    clear ha
    go_enter Tryz.func126, Tryz.ntmps126
    go_wp2
    go_loop [8] (fun i => i = .int .i64 0) (fun _ => 0)
    case atStart => rfl
    case round =>
      obtain rfl := hrel
      go_wp2
      go_ret
      exact ⟨⟨-1, rfl, by simp [has]⟩, rfl⟩
  rcases ha.run with h | ⟨b, o, rfl, h1⟩
  · exact absurd h h0
  have HC := hid h1
  clear h1 h0 ha
  go_enter Tryz.func126, Tryz.ntmps126
  go_wp2
  go_loop [8] (fun i => ∃ j : Nat, j ≤ n ∧ i = .int .i64 j ∧ Hid (has (l.take j) k = false)) (fun i => n - (intOf i).toNat)
  case atStart => exact ⟨0, Nat.zero_le _, rfl, rfl⟩
  case round =>
    obtain ⟨j, hj, rfl, HH⟩ := hrel
    by_cases hlt : j < n
    · have hjl : j < l.length := by rw [← HN.out]; exact hlt
      have c1 := HC.out j _ (strs_at hjl)
      have hi : (j : Int) < (n : Int) := by omega
      have HT := hid (has_snoc (l.take j) (l.getD j default) k)
      rw [← take_snoc_getD hjl, HH.out] at HT
      generalize l.getD j default = x at *
      by_cases hx : k = x
      · have hs := streq_true hx
        have HF : Hid (has l k = true) := by
          show _ = _
          refine has_take_true (i := j + 1) ?_
          rw [HT.out]; simp [hx]
        clear hx
        go_wp2
        go_ret
        exact ⟨⟨j, rfl, by rw [HF.out]; simp⟩, rfl⟩
      · have hs := streq_false hx
        have HF : Hid (has (l.take (j + 1)) k = false) := by
          show _ = _
          rw [HT.out]; simpa using fun e => hx e.symm
        clear hx
        go_wp2
        go_round
        case rel => exact ⟨j + 1, by omega, by go_num, HF⟩
        case measure => simp [intOf]; omega
    · go_wp2
      go_ret
      refine ⟨⟨-1, rfl, ?_⟩, rfl⟩
      have : l.take j = l := List.take_of_length_le (by rw [← HN.out]; omega)
      rw [← this, HH.out]; rfl

theorem contains_calls (l : List ByteArray) (base : Option Addr) (n c : Nat) (k : ByteArray) (w : World) (ha : Texts w base n c l) :
    Calls Tryz.prog 104 #[.slice base n c, .string k] w fun e w' => e = .returned (.bool (has l k)) ∧ w = w' := by
  have HI := hid (index_calls l base n c k w ha)
  clear ha
  go_enter Tryz.func104, Tryz.ntmps104
  go_wp2_with fail
  refine HI.out.mono ?_
  rintro e w' ⟨⟨x, rfl, hx⟩, rfl⟩
  have HX := hid hx
  clear hx
  go_wp2
  go_ret
  exact ⟨ret_bool HX.out, rfl⟩

/-- The document's own search. -/
theorem refIn_calls (l : List ByteArray) (base : Option Addr) (n c : Nat) (k : ByteArray) (w : World) (ha : Texts w base n c l) :
    Calls Tryz.prog 53 #[.slice base n c, .string k] w fun e w' => e = .returned (.bool (has l k)) ∧ w = w' := by
  have HN := hid (Texts.count ha)
  have hm := Nat.le_trans ha.hdr.le ha.hdr.max
  unfold maxLen at hm
  by_cases h0 : n = 0
  · subst h0
    have hl : l = [] := List.eq_nil_of_length_eq_zero (by have := HN.out; omega)
    subst hl
    clear ha
    go_enter Tryz.func53, Tryz.ntmps53
    go_wp2
    go_loop [9] (fun i => i = .int .i64 0) (fun _ => 0)
    case atStart => rfl
    case round =>
      obtain rfl := hrel
      go_wp2
      go_ret
      exact ⟨rfl, rfl⟩
  rcases ha.run with h | ⟨b, o, rfl, h1⟩
  · exact absurd h h0
  have HC := hid h1
  clear h1 h0 ha
  go_enter Tryz.func53, Tryz.ntmps53
  go_wp2
  go_loop [9] (fun i => ∃ j : Nat, j ≤ n ∧ i = .int .i64 j ∧ Hid (has (l.take j) k = false)) (fun i => n - (intOf i).toNat)
  case atStart => exact ⟨0, Nat.zero_le _, rfl, rfl⟩
  case round =>
    obtain ⟨j, hj, rfl, HH⟩ := hrel
    by_cases hlt : j < n
    · have hjl : j < l.length := by rw [← HN.out]; exact hlt
      have c1 := HC.out j _ (strs_at hjl)
      have hi : (j : Int) < (n : Int) := by omega
      have HT := hid (has_snoc (l.take j) (l.getD j default) k)
      rw [← take_snoc_getD hjl, HH.out] at HT
      generalize l.getD j default = x at *
      by_cases hx : x = k
      · have hs := streq_true hx
        have HF : Hid (has l k = true) := by
          show _ = _
          refine has_take_true (i := j + 1) ?_
          rw [HT.out]; simp [hx]
        clear hx
        go_wp2
        go_ret
        exact ⟨ret_bool HF.out.symm, rfl⟩
      · have hs := streq_false hx
        have HF : Hid (has (l.take (j + 1)) k = false) := by
          show _ = _
          rw [HT.out]; simpa using hx
        clear hx
        go_wp2
        go_round
        case rel => exact ⟨j + 1, by omega, by go_num, HF⟩
        case measure => simp [intOf]; omega
    · go_wp2
      go_ret
      refine ⟨ret_bool ?_, rfl⟩
      have : l.take j = l := List.take_of_length_le (by rw [← HN.out]; omega)
      rw [← this, HH.out]

theorem unnamed_calls (l : List ByteArray) (base : Option Addr) (n c : Nat) (k : ByteArray) (w : World) (ha : Texts w base n c l) :
    Calls Tryz.prog 107 #[.slice base n c, .string k] w fun e w' => e = .returned (.int .i64 (noKey l k)) ∧ w = w' := by
  have HI := hid (contains_calls l base n c k w ha)
  clear ha
  unfold noKey
  cases h : has l k with
  | true =>
    rw [h] at HI
    go_enter Tryz.func107, Tryz.ntmps107
    go_wp2_with fail
    refine HI.out.mono ?_
    rintro e w' ⟨rfl, rfl⟩
    go_wp2
    go_ret
    exact ⟨rfl, rfl⟩
  | false =>
    rw [h] at HI
    go_enter Tryz.func107, Tryz.ntmps107
    go_wp2_with fail
    refine HI.out.mono ?_
    rintro e w' ⟨rfl, rfl⟩
    go_wp2
    go_ret
    exact ⟨rfl, rfl⟩

set_option maxHeartbeats 1000000 in
theorem wrongKeys_calls (l : List ByteArray) (base : Option Addr) (n c : Nat) (w : World) (hsm : ∀ x ∈ l, x.size ≤ maxLen) (ha : Texts w base n c l) :
    Calls Tryz.prog 62 #[.slice base n c] w fun e w' => e = .returned (.int .i64 (wKeys l)) ∧ w = w' := by
  have hn := Texts.count ha
  by_cases h5 : 5 < n
  · have HW : Hid (wKeys l = 5) := by show _ = _; rw [wKeys, if_pos (by omega)]
    have hm := Nat.le_trans ha.hdr.le ha.hdr.max
    unfold maxLen at hm
    clear ha hn hsm
    go_enter Tryz.func62, Tryz.ntmps62
    go_wp2
    go_ret
    exact ⟨ret_int HW.out.symm, rfl⟩
  by_cases h0 : n = 0
  · subst h0
    have hl : l = [] := List.eq_nil_of_length_eq_zero (by omega)
    subst hl
    clear ha hn hsm h5
    go_enter Tryz.func62, Tryz.ntmps62
    go_wp2
    go_loop [10] (fun i => i = .int .i64 0) (fun _ => 0)
    case atStart => rfl
    case round =>
      obtain rfl := hrel
      go_wp2
      go_ret
      exact ⟨rfl, rfl⟩
  have hcap := ha.hdr.le
  have hmx := ha.hdr.max
  unfold maxLen at hmx
  have HW : Hid (wKeys l = if badTo l n = true then 7 else 0) := by show _ = _; rw [wKeys, if_neg (by omega), ← hn]
  have HA := hid ha
  rcases ha.run with h | ⟨b, o, rfl, h1⟩
  · exact absurd h h0
  have HC := hid h1
  have HN := hid hn
  have HS := hid hsm
  clear h1 h0 ha hn hsm
  go_enter Tryz.func62, Tryz.ntmps62
  go_wp2
  go_loop [10] (fun i => ∃ j : Nat, j ≤ n ∧ i = .int .i64 j ∧ Hid (badTo l j = false)) (fun i => n - (intOf i).toNat)
  case atStart => exact ⟨0, Nat.zero_le _, rfl, rfl⟩
  case round =>
    obtain ⟨j, hj, rfl, HH⟩ := hrel
    by_cases hlt : j < n
    · have hjl : j < l.length := by rw [← HN.out]; exact hlt
      have c1 := HC.out j _ (strs_at hjl)
      have hi : (j : Int) < (n : Int) := by omega
      have hz : (l.getD j default).size ≤ maxLen := HS.out _ (by simp [List.getD, hjl])
      have HB : Hid (badAt l j = (!keyB (l.getD j default) || has (l.take j) (l.getD j default))) := rfl
      have HT := hid (contains_calls (l.take j) (some ⟨b, o, none⟩) j c (l.getD j default) w (Texts.take HA.out hj))
      have HX : Hid (badAt l j = true → wKeys l = 7) := fun h => by rw [HW.out, HN.out, badTo_all hjl h]; rfl
      have HY : Hid (badAt l j = false → badTo l (j + 1) = false) := fun h => by simp [badTo, HH.out, h]
      generalize l.getD j default = x at *
      generalize badAt l j = bd at *
      generalize has (l.take j) x = hs at *
      cases hk : keyB x with
      | false =>
        rw [hk] at HB
        go_wp2_with fail
        refine (key_calls x _ hz).mono ?_
        rintro e w' ⟨rfl, rfl⟩
        rw [hk]
        go_wp2
        go_ret
        exact ⟨ret_int (HX.out (by rw [HB.out]; rfl)).symm, rfl⟩
      | true =>
        rw [hk] at HB
        cases hs with
        | true =>
          go_wp2_with fail
          refine (key_calls x _ hz).mono ?_
          rintro e w' ⟨rfl, rfl⟩
          rw [hk]
          go_wp2_with fail
          refine HT.out.mono ?_
          rintro e w' ⟨rfl, rfl⟩
          go_wp2
          go_ret
          exact ⟨ret_int (HX.out (by rw [HB.out]; rfl)).symm, rfl⟩
        | false =>
          go_wp2_with fail
          refine (key_calls x _ hz).mono ?_
          rintro e w' ⟨rfl, rfl⟩
          rw [hk]
          go_wp2_with fail
          refine HT.out.mono ?_
          rintro e w' ⟨rfl, rfl⟩
          go_wp2
          go_round
          case rel => exact ⟨j + 1, by omega, by go_num, HY.out (by rw [HB.out]; rfl)⟩
          case measure => simp [intOf]; omega
    · obtain rfl : j = n := by omega
      go_wp2
      go_ret
      exact ⟨ret_int (by rw [HW.out, HH.out]; rfl), rfl⟩
end Go.Proofs.YtagangiilcicpaeGreatDoor

namespace Go.Proofs.YtagangiilcicpaeGreatDoor
open Go.RowKit

/-- An instruction's cells. -/
def insVal (i : Ins) : List Value := [.int .i64 i.kind, .int .i64 i.a, .int .i64 i.b, .int .i64 i.n, .string i.key]
def insCells : List Ins → List Value
  | [] => []
  | i :: l => insVal i ++ insCells l
theorem insCells_length : ∀ l, (insCells l).length = l.length * 5
  | [] => rfl
  | i :: l => by simp [insCells, insVal, insCells_length l]; omega
theorem insCells_one : ∀ l, ∀ u ∈ insCells l, u.oneCell' = true
  | [], _, h => by cases h
  | i :: l, u, h => by
    simp only [insCells, insVal, List.cons_append, List.nil_append, List.mem_cons] at h
    rcases h with rfl | rfl | rfl | rfl | rfl | h
    · rfl
    · rfl
    · rfl
    · rfl
    · rfl
    · exact insCells_one l u h
theorem insCells_at : ∀ (l : List Ins) (k : Nat), k < l.length → ∀ j u, (insVal (l.getD k default))[j]? = some u → (insCells l)[k * 5 + j]? = some u
  | [], k, h => absurd h (Nat.not_lt_zero _)
  | x :: l, 0, _ => fun j u hu => by
    rw [insCells, List.getElem?_append_left]
    · simpa using hu
    · simpa using (List.getElem?_eq_some_iff.1 hu).1
  | x :: l, k + 1, h => fun j u hu => by
    have := insCells_at l k (by simpa using h) j u (by simpa using hu)
    rw [insCells, List.getElem?_append_right (by simp [insVal]; omega)]
    simp only [insVal, List.length_cons, List.length_nil]
    rw [show (k + 1) * 5 + j - (0 + 1 + 1 + 1 + 1 + 1) = k * 5 + j from by omega]
    exact this
abbrev Codes (w : World) (base : Option Addr) (n c : Nat) (l : List Ins) : Prop := Lies w 5 base n c (insCells l)
theorem Codes.count {w : World} {base : Option Addr} {n c : Nat} {l : List Ins} (h : Codes w base n c l) : n = l.length := by have := h.len; rw [insCells_length] at this; omega
theorem Codes.cells {w : World} {b o : Nat} {l : List Ins} (h : Run w b o (insCells l)) {k : Nat} (hk : k < l.length) :
    w.cell? ⟨b, o + k * 5, none⟩ = some (.int .i64 (l.getD k default).kind) ∧ w.cell? ⟨b, o + k * 5 + 1, none⟩ = some (.int .i64 (l.getD k default).a) ∧ w.cell? ⟨b, o + k * 5 + 2, none⟩ = some (.int .i64 (l.getD k default).b) ∧
    w.cell? ⟨b, o + k * 5 + 3, none⟩ = some (.int .i64 (l.getD k default).n) ∧ w.cell? ⟨b, o + k * 5 + 4, none⟩ = some (.string (l.getD k default).key) :=
  ⟨h _ _ (insCells_at l k hk 0 _ rfl), h _ _ (insCells_at l k hk 1 _ rfl), h _ _ (insCells_at l k hk 2 _ rfl), h _ _ (insCells_at l k hk 3 _ rfl), h _ _ (insCells_at l k hk 4 _ rfl)⟩

theorem registerFits_calls (n : Int) (h : Bool) (w : World) :
    Calls Tryz.prog 127 #[.int .i64 n, .bool h] w fun e w' => e = .returned (.bool (regFit n h)) ∧ w = w' := by
  cases h with
  | false =>
    go_enter Tryz.func127, Tryz.ntmps127
    go_wp2
    go_ret
    exact ⟨ret_bool (by simp [regFit]; rfl), rfl⟩
  | true =>
    go_enter Tryz.func127, Tryz.ntmps127
    go_wp2
    all_goals
      go_ret
      exact ⟨ret_bool (by simp [regFit]; omega), rfl⟩

theorem dec_false {a b : Int} (h : a ≠ b) : (a == b) = false := by simp [h]

set_option maxHeartbeats 1000000 in
theorem registersFit_calls (k a b n : Int) (s : ByteArray) (w : World) :
    Calls Tryz.prog 105 #[.agg #[.int .i64 k, .int .i64 a, .int .i64 b, .int .i64 n, .string s]] w fun e w' => e = .returned (.bool (regsFit (k, a, b, n, s))) ∧ Below w.heap.size w w' := by
  have main : ∀ (q7 x3 x4 x5 : Bool), (k != 7) = q7 → (k == 3) = x3 → (k == 4) = x4 → (k == 5) = x5 → Calls Tryz.prog 105 #[.agg #[.int .i64 k, .int .i64 a, .int .i64 b, .int .i64 n, .string s]] w fun e w' => e = .returned (.bool (regFit a q7 && regFit b (x3 || x4 || x5))) ∧ Below w.heap.size w w' := by
    intro q7 x3 x4 x5 h7 h3 h4 h5
    have HA := hid (fun W => registerFits_calls a q7 W)
    have HB := hid (fun W => registerFits_calls b (x3 || x4 || x5) W)
    generalize regFit a q7 = fa at *
    generalize regFit b (x3 || x4 || x5) = fb at *
    cases x3 <;> cases x4 <;> cases x5
    all_goals
      simp only [Bool.or_true, Bool.or_false] at HB
      go_enter Tryz.func105, Tryz.ntmps105
      go_wp2_with fail
      refine (HA.out _).mono ?_
      rintro e w' ⟨rfl, rfl⟩
      cases fa with
      | false =>
        go_wp2
        go_ret
        exact ⟨rfl, (Below.refl _ _).alloc (Nat.le_refl _) _⟩
      | true =>
        go_wp2_with fail
        refine (HB.out _).mono ?_
        rintro e w' ⟨rfl, rfl⟩
        go_wp2
        go_ret
        exact ⟨rfl, (Below.refl _ _).alloc (Nat.le_refl _) _⟩
  have hr : regsFit (k, a, b, n, s) = (regFit a (k != 7) && regFit b ((k == 3) || (k == 4) || (k == 5))) := rfl
  rw [hr]
  exact main _ _ _ _ rfl rfl rfl rfl

set_option maxHeartbeats 1000000 in
theorem numberFits_calls (k a b n behind : Int) (s : ByteArray) (w : World) :
    Calls Tryz.prog 106 #[.agg #[.int .i64 k, .int .i64 a, .int .i64 b, .int .i64 n, .string s], .int .i64 behind] w fun e w' => e = .returned (.bool (numFit (k, a, b, n, s) behind)) ∧ Below w.heap.size w w' := by
  by_cases h2 : k = 2
  · subst h2
    go_enter Tryz.func106, Tryz.ntmps106
    go_wp2
    all_goals
      go_ret
      exact ⟨ret_bool (by simp [numFit, Ins.n, Ins.kind]; omega), (Below.refl _ _).alloc (Nat.le_refl _) _⟩
  by_cases h8 : k = 8
  · subst h8
    go_enter Tryz.func106, Tryz.ntmps106
    go_wp2
    all_goals
      go_ret
      exact ⟨ret_bool (by simp [numFit, Ins.n, Ins.kind]; omega), (Below.refl _ _).alloc (Nat.le_refl _) _⟩
  · have e2 := dec_false h2
    have e8 := dec_false h8
    have HF : Hid (numFit (k, a, b, n, s) behind = (n == 0)) := by show _ = _; simp [numFit, Ins.n, Ins.kind, h2, h8]; rfl
    clear h2 h8
    go_enter Tryz.func106, Tryz.ntmps106
    go_wp2
    all_goals
      go_ret
      exact ⟨ret_bool HF.out.symm, (Below.refl _ _).alloc (Nat.le_refl _) _⟩
end Go.Proofs.YtagangiilcicpaeGreatDoor

namespace Go.Proofs.YtagangiilcicpaeGreatDoor
open Go.RowKit

/-- Where a deed's three slices lie, and what they hold. -/
structure DeedIn (w : World) (rb : Option Addr) (rn rc : Nat) (wb : Option Addr) (wn wc : Nat) (cb : Option Addr) (cn cc : Nat) (R W : List ByteArray) (C : List Ins) : Prop where
  tr : Texts w rb rn rc R
  tw : Texts w wb wn wc W
  cd : Codes w cb cn cc C
theorem DeedIn.below {w w' : World} {rb : Option Addr} {rn rc : Nat} {wb : Option Addr} {wn wc : Nat} {cb : Option Addr} {cn cc : Nat} {R W : List ByteArray} {C : List Ins} (h : DeedIn w rb rn rc wb wn wc cb cn cc R W C) (hb : Below w.heap.size w w') : DeedIn w' rb rn rc wb wn wc cb cn cc R W C :=
  ⟨h.tr.below (by decide) hb, h.tw.below (by decide) hb, h.cd.below (by decide) hb⟩
theorem below_deep {w w1 w2 : World} (h : Below w.heap.size w w1) (k : Below w1.heap.size w1 w2) : Below w.heap.size w w2 := h.trans (k.mono h.size)

theorem box_cell (w : World) (vs : Array Value) (t : TypeId) (j : Nat) (v : Value) (h : vs[j]? = some v) : (w.alloc (.cells vs t)).cell? ⟨w.heap.size, j, none⟩ = some v := by
  rw [World.cell?_alloc_at _ _ _ _ rfl]; exact h
theorem box_past {w : World} {b x : Nat} {v : Value} (o : Obj) (h : w.cell? ⟨b, x, none⟩ = some v) : (w.alloc o).cell? ⟨b, x, none⟩ = some v := cell_past o h
theorem kept_cell {w w' : World} {b x : Nat} {v : Value} (hb : Below w.heap.size w w') (h : w.cell? ⟨b, x, none⟩ = some v) : w'.cell? ⟨b, x, none⟩ = some v := by
  have := World.block_lt_of_cell? _ _ h
  rw [hb.cell (p := ⟨b, x, none⟩) this]; exact h

theorem size_nil {s : ByteArray} (h : s.size = 0) : s = ⟨#[]⟩ := by
  cases s with | mk d => simpa [ByteArray.size] using h
theorem size_ne {s : ByteArray} (h : s.size ≠ 0) : (s.toList == []) = false := by
  rw [ByteArray.toList_eq]
  cases s with | mk d => simpa [ByteArray.size] using h

theorem wIns_3 {R W : List ByteArray} {i : Ins} {b : Int} (h1 : 1 ≤ i.kind) (h2 : i.kind ≤ 9) (h : regsFit i = false ∨ numFit i b = false) : wIns R W i b = 3 := by
  unfold wIns; rw [if_neg (by omega), if_pos h]
theorem wIns_on {R W : List ByteArray} {i : Ins} {b : Int} (h1 : 1 ≤ i.kind) (h2 : i.kind ≤ 9) (hr : regsFit i = true) (hn : numFit i b = true) :
    wIns R W i b = if i.kind = 1 then noKey R i.key else if i.kind = 6 ∨ i.kind = 7 then noKey W i.key else if i.key.size = 0 then 0 else 2 := by
  unfold wIns; rw [if_neg (by omega), if_neg (by rw [hr, hn]; simp)]

set_option maxHeartbeats 2000000 in
theorem wrongInstr_calls (R W : List ByteArray) (C : List Ins) (rb : Option Addr) (rn rc : Nat) (wb : Option Addr) (wn wc : Nat) (cb : Option Addr) (cn cc : Nat) (k : Nat) (w : World) (hd : DeedIn w rb rn rc wb wn wc cb cn cc R W C) (hk : k < C.length) :
    Calls Tryz.prog 63 #[.agg #[.slice rb rn rc, .slice wb wn wc, .slice cb cn cc], .int .i64 k] w fun e w' => e = .returned (.int .i64 (wIns R W (C.getD k default) ((C.length : Int) - 1 - k))) ∧ Below w.heap.size w w' := by
  have hn := Codes.count hd.cd
  have hcm := Nat.le_trans hd.cd.hdr.le hd.cd.hdr.max
  unfold maxLen at hcm
  rcases hd.cd.run with h | ⟨b, o, rfl, h1⟩
  · omega
  have hbw : b < w.heap.size := h1.lt (by rw [insCells_length]; omega)
  obtain ⟨c0, c1, c2, c3, c4⟩ := Codes.cells h1 hk
  rw [← hn]
  have hkn : k < cn := by omega
  have hi : (k : Int) < (cn : Int) := by omega
  have HD := hid hd
  clear hd h1 hn hk
  rcases hx : C.getD k default with ⟨kd, a, bb, nn, s⟩
  rw [hx] at c0 c1 c2 c3 c4
  clear hx
  simp only [Ins.kind, Ins.a, Ins.b, Ins.n, Ins.key] at c0 c1 c2 c3 c4
  obtain ⟨q, hq⟩ : ∃ q, q = wIns R W (kd, a, bb, nn, s) ((cn : Int) - 1 - k) := ⟨_, rfl⟩
  rw [← hq]
  have HQ := hid hq
  clear hq
  by_cases hlo : kd < 1
  · have HE : Hid (q = 1) := by show _ = _; rw [HQ.out, wIns, if_pos (.inl hlo)]
    go_enter Tryz.func63, Tryz.ntmps63
    go_wp2
    go_ret
    exact ⟨ret_int HE.out.symm, (((Below.refl _ _).alloc (Nat.le_refl _) _).alloc (by simp) _)⟩
  by_cases hhi : 9 < kd
  · have HE : Hid (q = 1) := by show _ = _; rw [HQ.out, wIns, if_pos (.inr hhi)]
    go_enter Tryz.func63, Tryz.ntmps63
    go_wp2
    go_ret
    exact ⟨ret_int HE.out.symm, (((Below.refl _ _).alloc (Nat.le_refl _) _).alloc (by simp) _)⟩
  have HR := hid (fun W' => registersFit_calls kd a bb nn s W')
  have HN := hid (fun W' => numberFits_calls kd a bb nn ((cn : Int) - 1 - k) s W')
  have H3 := hid (wIns_3 (R := R) (W := W) (i := (kd, a, bb, nn, s)) (b := (cn : Int) - 1 - k) (by show 1 ≤ kd; omega) (by show kd ≤ 9; omega))
  have HO := hid (wIns_on (R := R) (W := W) (i := (kd, a, bb, nn, s)) (b := (cn : Int) - 1 - k) (by show 1 ≤ kd; omega) (by show kd ≤ 9; omega))
  rw [← HQ.out] at H3 HO
  generalize regsFit (kd, a, bb, nn, s) = rf at *
  generalize numFit (kd, a, bb, nn, s) ((cn : Int) - 1 - k) = nf at *
  have hlo' : decide (kd < 1) = false := by simpa using hlo
  have hhi' : decide (9 < kd) = false := by simpa using hhi
  have hwr : wrap64 ((cn : Int) - 1 - k) = (cn : Int) - 1 - k := by unfold wrap64; omega
  cases rf with
  | false =>
    go_enter Tryz.func63, Tryz.ntmps63
    go_wp2_with fail
    refine (HR.out _).mono ?_
    rintro e w1 ⟨rfl, hb1⟩
    go_wp2
    go_ret
    exact ⟨ret_int (H3.out (by simp)).symm, below_deep (((Below.refl _ _).alloc (Nat.le_refl _) _).alloc (by simp) _) hb1⟩
  | true =>
    go_enter Tryz.func63, Tryz.ntmps63
    go_wp2_with fail
    refine (HR.out _).mono ?_
    rintro e w1 ⟨rfl, hb1⟩
    have x0 := kept_cell hb1 (box_past _ (box_cell w _ 59 0 (.slice rb rn rc) rfl))
    have x1 := kept_cell hb1 (box_past _ (box_cell w _ 59 1 (.slice wb wn wc) rfl))
    have x2 := kept_cell hb1 (box_past _ (box_cell w _ 59 2 (.slice (some ⟨b, o, none⟩) cn cc) rfl))
    have y0 := kept_cell hb1 (box_cell (w.alloc _) _ 91 0 (.int .i64 kd) rfl)
    have y1 := kept_cell hb1 (box_cell (w.alloc _) _ 91 1 (.int .i64 a) rfl)
    have y2 := kept_cell hb1 (box_cell (w.alloc _) _ 91 2 (.int .i64 bb) rfl)
    have y3 := kept_cell hb1 (box_cell (w.alloc _) _ 91 3 (.int .i64 nn) rfl)
    have y4 := kept_cell hb1 (box_cell (w.alloc _) _ 91 4 (.string s) rfl)
    rw [World.size_alloc] at y0 y1 y2 y3 y4
    have HB1 := hid (below_deep (((Below.refl _ w).alloc (Nat.le_refl _) _).alloc (by simp) _) hb1)
    clear hb1
    go_wp2_with fail
    refine (HN.out _).mono ?_
    rintro e w2 ⟨rfl, hb2⟩
    have HB2 := hid (below_deep HB1.out hb2)
    cases nf with
    | false =>
      go_wp2
      go_ret
      exact ⟨ret_int (H3.out (by simp)).symm, HB2.out⟩
    | true =>
      have HV : Hid (q = if kd = 1 then noKey R s else if kd = 6 ∨ kd = 7 then noKey W s else if s.size = 0 then 0 else 2) := HO.out (by simp) (by simp)
      have u0 := kept_cell hb2 x0
      have u1 := kept_cell hb2 x1
      have v0 := kept_cell hb2 y0
      have v4 := kept_cell hb2 y4
      have HR' := hid (HD.out.below HB2.out).tr
      have HW' := hid (HD.out.below HB2.out).tw
      clear x0 x1 x2 y0 y1 y2 y3 y4 hb2 HR HN H3 HO HB1
      by_cases k1 : kd = 1
      · subst k1
        go_wp2_with fail
        refine (unnamed_calls R rb rn rc s w2 HR'.out).mono ?_
        rintro e w3 ⟨rfl, rfl⟩
        go_wp2
        go_ret
        exact ⟨ret_int (by rw [HV.out]; rfl), HB2.out⟩
      by_cases k6 : kd = 6
      · subst k6
        go_wp2_with fail
        refine (unnamed_calls W wb wn wc s w2 HW'.out).mono ?_
        rintro e w3 ⟨rfl, rfl⟩
        go_wp2
        go_ret
        exact ⟨ret_int (by rw [HV.out]; rfl), HB2.out⟩
      by_cases k7 : kd = 7
      · subst k7
        go_wp2_with fail
        refine (unnamed_calls W wb wn wc s w2 HW'.out).mono ?_
        rintro e w3 ⟨rfl, rfl⟩
        go_wp2
        go_ret
        exact ⟨ret_int (by rw [HV.out]; rfl), HB2.out⟩
      have e1 := dec_false k1
      have e6 := dec_false k6
      have e7 := dec_false k7
      have HV2 : Hid (q = if s.size = 0 then 0 else 2) := by
        show _ = _
        rw [HV.out, if_neg k1, if_neg (by omega)]
      clear HV k1 k6 k7
      by_cases hs : s.size = 0
      · have hs' := size_nil hs
        subst hs'
        clear hs
        go_wp2
        go_ret
        exact ⟨ret_int (by rw [HV2.out]; rfl), HB2.out⟩
      · have hne : (s.toList == []) = false := size_ne hs
        go_wp2
        go_ret
        exact ⟨ret_int (by rw [HV2.out, if_neg hs]), HB2.out⟩
end Go.Proofs.YtagangiilcicpaeGreatDoor
