/-
  What a deed made, told in the order of the keys that it writes.
-/
import Derived.Test.YtfchjhdgnibnnabDeedAsk
namespace Go.Proofs.Ytfchjhdgnibnnab
open Go.RowKit

/-- Versions' cells. -/
def verCell (o : Option Int) : List Value := match o with
  | some n => [.int .i64 0, .bool true, .bool true, .int .i64 n]
  | none => [.int .i64 0, .bool true, .bool false, .int .i64 0]
def verCells : List (ByteArray × Option Int) → List Value
  | [] => []
  | x :: l => verCell x.2 ++ verCells l
theorem verCell_length (o : Option Int) : (verCell o).length = 4 := by cases o <;> rfl
theorem verCell_one (o : Option Int) : ∀ u ∈ verCell o, u.oneCell' = true := by
  intro u hu; cases o <;> simp [verCell] at hu <;> rcases hu with rfl | rfl | rfl | rfl <;> rfl
theorem verCells_append : ∀ l m, verCells (l ++ m) = verCells l ++ verCells m
  | [], _ => rfl
  | x :: l, m => by simp [verCells, verCells_append l m]
theorem verCells_length : ∀ l, (verCells l).length = l.length * 4
  | [] => rfl
  | x :: l => by simp [verCells, verCell_length, verCells_length l]; omega
theorem verCells_at : ∀ (l : List (ByteArray × Option Int)) (k : Nat), k < l.length → ∀ j u, (verCell (l.getD k default).2)[j]? = some u → (verCells l)[k * 4 + j]? = some u
  | [], k, h => absurd h (Nat.not_lt_zero _)
  | x :: l, 0, _ => fun j u hu => by
    rw [verCells, List.getElem?_append_left]
    · simpa using hu
    · simpa using (List.getElem?_eq_some_iff.1 hu).1
  | x :: l, k + 1, h => fun j u hu => by
    have := verCells_at l k (by simpa using h) j u (by simpa using hu)
    rw [verCells, List.getElem?_append_right (by rw [verCell_length]; omega), verCell_length]
    rw [show (k + 1) * 4 + j - 4 = k * 4 + j from by omega]
    exact this
def keysOf (l : List (ByteArray × Option Int)) : List ByteArray := l.map (·.1)

/-- A slice of one element that was just laid. -/
theorem lies_one (w : World) (vs : Array Value) (t sz : Nat) (h : vs.size = sz) : Lies (w.alloc (.cells vs t)) sz (some ⟨w.heap.size, 0, none⟩) 1 1 vs.toList := by
  refine ⟨by simp [h], ⟨Nat.le_refl _, by unfold maxLen; omega, fun h => by cases h⟩, .inr ⟨_, _, rfl, fun j u hu => ?_⟩⟩
  rw [Nat.zero_add]
  exact box_cell _ _ _ _ _ (by simpa using hu)
/-- Rows of two types lie apart. -/
theorem rows_apart {w : World} {B B' e e' s s' n n' : Nat} {v v' : Value} {xs xs' : List Value} (h : w.ownsRow B e s v n xs) (h' : w.ownsRow B' e' s' v' n' xs') (hne : e ≠ e') : v.ownBlock = none ∨ v.ownBlock ≠ v'.ownBlock := by
  rcases h.2 with ⟨rfl, _⟩ | ⟨g, cap, cur, rfl, _, hg, _⟩
  · exact .inl rfl
  · refine .inr fun e1 => ?_
    rcases h'.2 with ⟨rfl, _⟩ | ⟨g', cap', cur', rfl, _, hg', _⟩
    · simp [Value.ownBlock] at e1
    · simp [Value.ownBlock] at e1
      subst e1
      rw [hg] at hg'
      simp at hg'
      exact hne hg'.2
theorem le_box {B : Nat} {w : World} {o : Obj} (h : B ≤ w.heap.size) : B ≤ (w.alloc o).heap.size := by rw [World.size_alloc]; omega
/-- A slice's memory is from block B on. -/
def Fresh (B : Nat) (base : Option Addr) : Prop := ∀ a, base = some a → B ≤ a.block
theorem fresh_none (B : Nat) : Fresh B none := fun _ h => by cases h
theorem Lies.set {w : World} {sz : Nat} {base : Option Addr} {n c : Nat} {vs : List Value} (h : Lies w sz base n c vs) {B : Nat} (hf : Fresh B base) {p : Addr} (hp : p.block < B) (u : Value) : Lies (w.setCell p u) sz base n c vs := by
  refine ⟨h.len, h.hdr, ?_⟩
  rcases h.run with h0 | ⟨b, o, e, hr⟩
  · exact .inl h0
  · refine .inr ⟨b, o, e, fun j x hx => ?_⟩
    have hb : B ≤ b := hf _ e
    rw [World.cell?_setCell_other _ _ _ _ (fun e => by have := congrArg Addr.block e; simp at this; omega)]
    exact hr j x hx
theorem verInfo : (Try.prog.info? 45).map (fun i => (i.zero, i.size, i.bytes)) = some (some (.agg #[.int .i64 0, .bool false, .bool false, .int .i64 0]), 4, 24) := by kernel_rfl
theorem MapIs.deep {w w' : World} {b n : Nat} {f : ByteArray → Option Value} (h : MapIs w b n f) (hb : Below w.heap.size w w') : MapIs w' b n f := h.below hb h.lt

set_option maxHeartbeats 2000000 in
theorem inTurn_calls (m : Made) (W : List ByteArray) (mm n : Nat) (wb : Option Addr) (wn wc : Nat) (w : World) (hm : MapIs w mm n (verMap m)) (ht : Texts w wb wn wc W) (h5 : W.length ≤ 5) (hsm : SmallT W) :
    Calls Try.prog 54 #[.map (some mm), .slice wb wn wc] w fun e w' => ∃ vb vn vc kb kn kc, e = .returned (.tuple #[.slice vb vn vc, .slice kb kn kc]) ∧ Lies w' 4 vb vn vc (verCells (vers m W)) ∧ Texts w' kb kn kc (keysOf (vers m W)) ∧ Fresh w.heap.size vb ∧ Fresh w.heap.size kb ∧ Below w.heap.size w w' := by
  have HN := hid (Texts.count ht)
  have hmx : wn ≤ 5 := by rw [Texts.count ht]; exact h5
  have HM := hid hm
  have HS := hid hsm
  by_cases h0 : wn = 0
  · subst h0
    have hl : W = [] := List.eq_nil_of_length_eq_zero (by have := HN.out; omega)
    subst hl
    clear ht hm hsm h5
    go_enter Try.func54, Try.ntmps54
    go_wp2
    go_loop [6, 7, 14] (fun v kv i => v = .slice none 0 0 ∧ kv = .slice none 0 0 ∧ i = .int .i64 0) (fun _ _ _ => 0)
    case atStart => exact ⟨rfl, rfl, rfl⟩
    case round =>
      obtain ⟨rfl, rfl, rfl⟩ := hrel
      go_wp2
      go_ret2
      exact ⟨none, 0, 0, none, 0, 0, rfl, Lies.none _ _, Lies.none _ _, fresh_none _, fresh_none _, Below.refl _ _⟩
  rcases ht.run with h | ⟨b, o, rfl, h1⟩
  · exact absurd h h0
  have hbw : b < w.heap.size := h1.lt (by rw [strs_length, ← HN.out]; omega)
  have HC := hid h1
  clear h1 h0 ht hm hsm h5
  go_enter Try.func54, Try.ntmps54
  go_wp2
  go_loopw [6, 7, 14] (fun v kv i wr => ∃ j r : Nat, j ≤ wn ∧ r ≤ j ∧ i = .int .i64 j ∧ Hid ((vers m (W.take j)).length = r) ∧ wr.ownsRow w.heap.size 45 4 v r (verCells (vers m (W.take j))) ∧ wr.ownsRow w.heap.size 9 1 kv r (strs (keysOf (vers m (W.take j)))) ∧ Below w.heap.size w wr) (fun _ _ i _ => wn - (intOf i).toNat)
  case atStart => exact ⟨0, 0, Nat.zero_le _, Nat.le_refl _, rfl, rfl, World.ownsRow_nil _ _ _ _, World.ownsRow_nil _ _ _ _, Below.refl _ _⟩
  case round =>
    obtain ⟨j, r, hj, hr, rfl, HR, ho1, ho2, hbel⟩ := hrel
    have hsz := hbel.size
    by_cases hlt : j < wn
    · have hjl : j < W.length := by rw [← HN.out]; exact hlt
      have c1 := HC.out.below hbel hbw j _ (strs_at hjl)
      have hi : (j : Int) < (wn : Int) := by omega
      have hbwr : b < wr.heap.size := by omega
      have hz : (W.getD j default).size ≤ maxLen := HS.out _ (by simp [List.getD, hjl])
      have hl := (HM.out.deep hbel).look Try.underlying87 (verZero wr) _ hz
      have HV := hid (vers_snoc m (W.take j) (W.getD j default))
      rw [← take_snoc_getD hjl] at HV
      have H1 := hid ho1
      have H2 := hid ho2
      have HB := hid hbel
      clear ho1 ho2 hbel hz
      unfold verMap at hl
      generalize W.getD j default = x at *
      cases h : m x with
      | none =>
        rw [h] at hl HV
        simp only [Option.map_none, Option.getD_none, Option.isSome_none] at hl
        simp only [List.append_nil] at HV
        clear h
        go_wp2
        go_roundw
        case rel => exact ⟨j + 1, r, by omega, by omega, by go_num, (by show _ = _; rw [HV.out]; exact HR.out), by rw [HV.out]; exact H1.out.alloc _, by rw [HV.out]; exact H2.out.alloc _, HB.out.alloc hsz _⟩
        case measure => simp [intOf]; omega
      | some y =>
        rw [h] at hl HV
        simp only [Option.map_some, Option.getD_some, Option.isSome_some] at hl HV
        clear h
        have HL1 : Hid (verCells (vers m (W.take (j + 1))) = verCells (vers m (W.take j)) ++ verCell y) := by
          show _ = _; rw [HV.out, verCells_append]; simp [verCells]
        have HL2 : Hid (strs (keysOf (vers m (W.take (j + 1)))) = strs (keysOf (vers m (W.take j))) ++ [.string x]) := by
          show _ = _; rw [HV.out]; simp [keysOf, strs]
        have HL3 : Hid ((vers m (W.take (j + 1))).length = r + 1) := by
          show _ = _; rw [HV.out]; simp [HR.out]
        obtain ⟨hh, nn, e1, e2⟩ : ∃ (hh : Bool) (nn : Int), verVal y = .agg #[.int .i64 0, .bool true, .bool hh, .int .i64 nn] ∧ verCell y = [.int .i64 0, .bool true, .bool hh, .int .i64 nn] := by
          cases y <;> exact ⟨_, _, rfl, rfl⟩
        rw [e1] at hl
        have HY := hid (verCell_one y)
        rw [e2] at HL1 HY
        clear e1 e2
        have HC1 := hid (lies_one (wr.alloc (.cells #[.int .i64 0, .bool true, .bool hh, .int .i64 nn] 45)) #[.int .i64 0, .bool true, .bool hh, .int .i64 nn] 45 4 rfl)
        rw [World.size_alloc] at HC1
        have HO1 := hid ((H1.out.alloc (.cells #[.int .i64 0, .bool true, .bool hh, .int .i64 nn] 45)).alloc (.cells #[.int .i64 0, .bool true, .bool hh, .int .i64 nn] 45))
        have HO2 := hid ((H2.out.alloc (.cells #[.int .i64 0, .bool true, .bool hh, .int .i64 nn] 45)).alloc (.cells #[.int .i64 0, .bool true, .bool hh, .int .i64 nn] 45))
        have HAP := hid (rows_apart HO2.out HO1.out (by decide))
        have HLT := hid H1.out.lt
        have HLT2 := hid H2.out.lt
        have B1 : Hid ((r + 1) * 24 ≤ 140737488355328) := by show _ ≤ _; omega
        have B2 : Hid ((r + 1) * 16 ≤ 140737488355328) := by show _ ≤ _; omega
        have HSZ := hid hsz
        go_wp2_with (at_builtin; refine wpList_onto _ rfl _ _ 59 45 4 24 _ Try.underlying59 verInfo rfl (by decide) (by decide) rfl w.heap.size _ r _ rfl HO1.out _ 1 _ _ rfl HC1.out HY.out B1.out (le_box (le_box HSZ.out)) ?_)
        intro v1 w2 hown1 hg1
        have HK2 := hid ((HO2.out.kept hg1 HAP.out).alloc (.cells #[.string x] 9))
        have HV1 := hid (hown1.alloc (.cells #[.string x] 9))
        have HAP2 := hid (rows_apart HV1.out HK2.out (by decide))
        have HB2 := hid (((HB.out.alloc HSZ.out (.cells #[.int .i64 0, .bool true, .bool hh, .int .i64 nn] 45)).alloc (le_box HSZ.out) (.cells #[.int .i64 0, .bool true, .bool hh, .int .i64 nn] 45)).grown hg1 (le_box (le_box HSZ.out)) (fun y hy => (HLT.out y hy).1))
        have HC2 := hid (lies_one w2 #[.string x] 9 1 rfl)
        clear hown1 hg1
        go_wp2_with (at_builtin; refine wpList_onto _ rfl _ _ 28 9 1 16 _ Try.underlying28 strInfo rfl (by decide) (by decide) rfl w.heap.size _ r _ rfl HK2.out _ 1 _ _ rfl HC2.out (strs_one [x]) B2.out (le_box HB2.out.size) ?_)
        intro v3 w3 hown3 hg3
        have HV3 := hid (HV1.out.kept hg3 HAP2.out)
        have HB3 := hid ((HB2.out.alloc HB2.out.size (.cells #[.string x] 9)).grown hg3 (le_box HB2.out.size) (fun y hy => (HLT2.out y hy).1))
        clear hg3
        go_wp2
        go_roundw
        case rel => exact ⟨j + 1, r + 1, by omega, by omega, by go_num, HL3, by rw [HL1.out]; exact HV3.out, by rw [HL2.out]; exact hown3, HB3.out⟩
        case measure => simp [intOf]; omega
    · obtain rfl : j = wn := by omega
      have htk : W.take j = W := List.take_of_length_le (by rw [← HN.out]; omega)
      rw [htk] at ho1 ho2
      obtain ⟨vb, vc, rfl, l1⟩ := Lies.owned ho1
      obtain ⟨kb, kc, rfl, l2⟩ := Lies.owned ho2
      have q1 : Fresh w.heap.size vb := fun a h => (ho1.lt a.block (by rw [h]; rfl)).1
      have q2 : Fresh w.heap.size kb := fun a h => (ho2.lt a.block (by rw [h]; rfl)).1
      go_wp2
      go_ret2
      exact ⟨_, _, _, _, _, _, rfl, l1, l2, q1, q2, hbel⟩
end Go.Proofs.Ytfchjhdgnibnnab
