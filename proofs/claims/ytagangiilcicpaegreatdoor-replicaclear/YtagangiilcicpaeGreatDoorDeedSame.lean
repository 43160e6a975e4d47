/-
  What a deed made, told in the order of the keys that it writes.
  Chains that a call has made: each one's versions lie in memory of its own, apart from the others'.
  The document's own table of what instructions have.
  Whether two deeds are the same, by the program and by the document's answer; a copy of a deed.
  A copy of a deed.
  Whether two deeds are the same, by the program.
-/
import Derived.Test.YtagangiilcicpaeGreatDoorDeedAsk
import Derived.Test.YtagangiilcicpaeGreatDoorOpen
import Derived.Deep.QuietTactic
import Derived.BigQuiet
import Derived.Deep.RegionHeld3
namespace Go.Proofs.YtagangiilcicpaeGreatDoor
open Go.RowKit

def verCell (o : Option Int) : List Value := match o with
  | some n => [.int .i64 0, .bool true, .bool true, .int .i64 n]
  | none => [.int .i64 0, .bool true, .bool false, .int .i64 0]
def verCells : List (ByteArray × Option Int) → List Value
  | [] => []
  | x :: l => verCell x.2 ++ verCells l
theorem verCell_length (o : Option Int) : (verCell o).length = 4 := by cases o <;> rfl
theorem verCell_one (o : Option Int) : ∀ u ∈ verCell o, u.oneCell' = true := by
  intro u hu; cases o <;> simp [verCell] at hu <;> rcases hu with rfl | rfl | rfl | rfl <;> rfl
theorem verCells_append : ∀ l m, verCells (l ++ m) = verCells l ++ verCells m
  | [], _ => rfl
  | x :: l, m => by simp [verCells, verCells_append l m]
theorem verCells_length : ∀ l, (verCells l).length = l.length * 4
  | [] => rfl
  | x :: l => by simp [verCells, verCell_length, verCells_length l]; omega
theorem verCells_at : ∀ (l : List (ByteArray × Option Int)) (k : Nat), k < l.length → ∀ j u, (verCell (l.getD k default).2)[j]? = some u → (verCells l)[k * 4 + j]? = some u
  | [], k, h => absurd h (Nat.not_lt_zero _)
  | x :: l, 0, _ => fun j u hu => by
    rw [verCells, List.getElem?_append_left]
    · simpa using hu
    · simpa using (List.getElem?_eq_some_iff.1 hu).1
  | x :: l, k + 1, h => fun j u hu => by
    have := verCells_at l k (by simpa using h) j u (by simpa using hu)
    rw [verCells, List.getElem?_append_right (by rw [verCell_length]; omega), verCell_length]
    rw [show (k + 1) * 4 + j - 4 = k * 4 + j from by omega]
    exact this
def keysOf (l : List (ByteArray × Option Int)) : List ByteArray := l.map (·.1)

theorem lies_one (w : World) (vs : Array Value) (t sz : Nat) (h : vs.size = sz) : Lies (w.alloc (.cells vs t)) sz (some ⟨w.heap.size, 0, none⟩) 1 1 vs.toList := by
  refine ⟨by simp [h], ⟨Nat.le_refl _, by unfold maxLen; omega, fun h => by cases h⟩, .inr ⟨_, _, rfl, fun j u hu => ?_⟩⟩
  rw [Nat.zero_add]
  exact box_cell _ _ _ _ _ (by simpa using hu)
theorem rows_apart {w : World} {B B' e e' s s' n n' : Nat} {v v' : Value} {xs xs' : List Value} (h : w.ownsRow B e s v n xs) (h' : w.ownsRow B' e' s' v' n' xs') (hne : e ≠ e') : v.ownBlock = none ∨ v.ownBlock ≠ v'.ownBlock := by
  rcases h.2 with ⟨rfl, _⟩ | ⟨g, cap, cur, rfl, _, hg, _⟩
  · exact .inl rfl
  · refine .inr fun e1 => ?_
    rcases h'.2 with ⟨rfl, _⟩ | ⟨g', cap', cur', rfl, _, hg', _⟩
    · simp [Value.ownBlock] at e1
    · simp [Value.ownBlock] at e1
      subst e1
      rw [hg] at hg'
      simp at hg'
      exact hne hg'.2
theorem le_box {B : Nat} {w : World} {o : Obj} (h : B ≤ w.heap.size) : B ≤ (w.alloc o).heap.size := by rw [World.size_alloc]; omega
def Fresh (B : Nat) (base : Option Addr) : Prop := ∀ a, base = some a → B ≤ a.block
theorem fresh_none (B : Nat) : Fresh B none := fun _ h => by cases h
theorem Lies.set {w : World} {sz : Nat} {base : Option Addr} {n c : Nat} {vs : List Value} (h : Lies w sz base n c vs) {B : Nat} (hf : Fresh B base) {p : Addr} (hp : p.block < B) (u : Value) : Lies (w.setCell p u) sz base n c vs := by
  refine ⟨h.len, h.hdr, ?_⟩
  rcases h.run with h0 | ⟨b, o, e, hr⟩
  · exact .inl h0
  · refine .inr ⟨b, o, e, fun j x hx => ?_⟩
    have hb : B ≤ b := hf _ e
    rw [World.cell?_setCell_other _ _ _ _ (fun e => by have := congrArg Addr.block e; simp at this; omega)]
    exact hr j x hx
theorem verInfo : (Tryz.prog.info? 116).map (fun i => (i.zero, i.size, i.bytes)) = some (some (.agg #[.int .i64 0, .bool false, .bool false, .int .i64 0]), 4, 24) := by kernel_rfl
theorem MapIs.deep {w w' : World} {b n : Nat} {f : ByteArray → Option Value} (h : MapIs w b n f) (hb : Below w.heap.size w w') : MapIs w' b n f := h.below hb h.lt

set_option maxHeartbeats 2000000 in
theorem inTurn_calls (m : Made) (W : List ByteArray) (mm n : Nat) (wb : Option Addr) (wn wc : Nat) (w : World) (hm : MapIs w mm n (verMap m)) (ht : Texts w wb wn wc W) (h5 : W.length ≤ 5) (hsm : SmallT W) :
    Calls Tryz.prog 157 #[.map (some mm), .slice wb wn wc] w fun e w' => ∃ vb vn vc kb kn kc, e = .returned (.tuple #[.slice vb vn vc, .slice kb kn kc]) ∧ Lies w' 4 vb vn vc (verCells (vers m W)) ∧ Texts w' kb kn kc (keysOf (vers m W)) ∧ Fresh w.heap.size vb ∧ Fresh w.heap.size kb ∧ Below w.heap.size w w' := by
  have HN := hid (Texts.count ht)
  have hmx : wn ≤ 5 := by rw [Texts.count ht]; exact h5
  have HM := hid hm
  have HS := hid hsm
  by_cases h0 : wn = 0
  · subst h0
    have hl : W = [] := List.eq_nil_of_length_eq_zero (by have := HN.out; omega)
    subst hl
    clear ht hm hsm h5
    go_enter Tryz.func157, Tryz.ntmps157
    go_wp2
    go_loop [6, 7, 14] (fun v kv i => v = .slice none 0 0 ∧ kv = .slice none 0 0 ∧ i = .int .i64 0) (fun _ _ _ => 0)
    case atStart => exact ⟨rfl, rfl, rfl⟩
    case round =>
      obtain ⟨rfl, rfl, rfl⟩ := hrel
      go_wp2
      go_ret2
      exact ⟨none, 0, 0, none, 0, 0, rfl, Lies.none _ _, Lies.none _ _, fresh_none _, fresh_none _, Below.refl _ _⟩
  rcases ht.run with h | ⟨b, o, rfl, h1⟩
  · exact absurd h h0
  have hbw : b < w.heap.size := h1.lt (by rw [strs_length, ← HN.out]; omega)
  have HC := hid h1
  clear h1 h0 ht hm hsm h5
  go_enter Tryz.func157, Tryz.ntmps157
  go_wp2
  go_loopw [6, 7, 14] (fun v kv i wr => ∃ j r : Nat, j ≤ wn ∧ r ≤ j ∧ i = .int .i64 j ∧ Hid ((vers m (W.take j)).length = r) ∧ wr.ownsRow w.heap.size 116 4 v r (verCells (vers m (W.take j))) ∧ wr.ownsRow w.heap.size 9 1 kv r (strs (keysOf (vers m (W.take j)))) ∧ Below w.heap.size w wr) (fun _ _ i _ => wn - (intOf i).toNat)
  case atStart => exact ⟨0, 0, Nat.zero_le _, Nat.le_refl _, rfl, rfl, World.ownsRow_nil _ _ _ _, World.ownsRow_nil _ _ _ _, Below.refl _ _⟩
  case round =>
    obtain ⟨j, r, hj, hr, rfl, HR, ho1, ho2, hbel⟩ := hrel
    have hsz := hbel.size
    by_cases hlt : j < wn
    · have hjl : j < W.length := by rw [← HN.out]; exact hlt
      have c1 := HC.out.below hbel hbw j _ (strs_at hjl)
      have hi : (j : Int) < (wn : Int) := by omega
      have hbwr : b < wr.heap.size := by omega
      have hz : (W.getD j default).size ≤ maxLen := HS.out _ (by simp [List.getD, hjl])
      have hl := (HM.out.deep hbel).look Tryz.underlying189 (verZero wr) _ hz
      have HV := hid (vers_snoc m (W.take j) (W.getD j default))
      rw [← take_snoc_getD hjl] at HV
      have H1 := hid ho1
      have H2 := hid ho2
      have HB := hid hbel
      clear ho1 ho2 hbel hz
      unfold verMap at hl
      generalize W.getD j default = x at *
      cases h : m x with
      | none =>
        rw [h] at hl HV
        simp only [Option.map_none, Option.getD_none, Option.isSome_none] at hl
        simp only [List.append_nil] at HV
        clear h
        go_wp2
        go_roundw
        case rel => exact ⟨j + 1, r, by omega, by omega, by go_num, (by show _ = _; rw [HV.out]; exact HR.out), by rw [HV.out]; exact H1.out.alloc _, by rw [HV.out]; exact H2.out.alloc _, HB.out.alloc hsz _⟩
        case measure => simp [intOf]; omega
      | some y =>
        rw [h] at hl HV
        simp only [Option.map_some, Option.getD_some, Option.isSome_some] at hl HV
        clear h
        have HL1 : Hid (verCells (vers m (W.take (j + 1))) = verCells (vers m (W.take j)) ++ verCell y) := by
          show _ = _; rw [HV.out, verCells_append]; simp [verCells]
        have HL2 : Hid (strs (keysOf (vers m (W.take (j + 1)))) = strs (keysOf (vers m (W.take j))) ++ [.string x]) := by
          show _ = _; rw [HV.out]; simp [keysOf, strs]
        have HL3 : Hid ((vers m (W.take (j + 1))).length = r + 1) := by
          show _ = _; rw [HV.out]; simp [HR.out]
        obtain ⟨hh, nn, e1, e2⟩ : ∃ (hh : Bool) (nn : Int), verVal y = .agg #[.int .i64 0, .bool true, .bool hh, .int .i64 nn] ∧ verCell y = [.int .i64 0, .bool true, .bool hh, .int .i64 nn] := by
          cases y <;> exact ⟨_, _, rfl, rfl⟩
        rw [e1] at hl
        have HY := hid (verCell_one y)
        rw [e2] at HL1 HY
        clear e1 e2
        have HC1 := hid (lies_one (wr.alloc (.cells #[.int .i64 0, .bool true, .bool hh, .int .i64 nn] 116)) #[.int .i64 0, .bool true, .bool hh, .int .i64 nn] 116 4 rfl)
        rw [World.size_alloc] at HC1
        have HO1 := hid ((H1.out.alloc (.cells #[.int .i64 0, .bool true, .bool hh, .int .i64 nn] 116)).alloc (.cells #[.int .i64 0, .bool true, .bool hh, .int .i64 nn] 116))
        have HO2 := hid ((H2.out.alloc (.cells #[.int .i64 0, .bool true, .bool hh, .int .i64 nn] 116)).alloc (.cells #[.int .i64 0, .bool true, .bool hh, .int .i64 nn] 116))
        have HAP := hid (rows_apart HO2.out HO1.out (by decide))
        have HLT := hid H1.out.lt
        have HLT2 := hid H2.out.lt
        have B1 : Hid ((r + 1) * 24 ≤ 140737488355328) := by show _ ≤ _; omega
        have B2 : Hid ((r + 1) * 16 ≤ 140737488355328) := by show _ ≤ _; omega
        have HSZ := hid hsz
        go_wp2_with (at_builtin; refine wpList_onto _ rfl _ _ 154 116 4 24 _ Tryz.underlying154 verInfo rfl (by decide) (by decide) rfl w.heap.size _ r _ rfl HO1.out _ 1 _ _ rfl HC1.out HY.out B1.out (le_box (le_box HSZ.out)) ?_)
        intro v1 w2 hown1 hg1
        have HK2 := hid ((HO2.out.kept hg1 HAP.out).alloc (.cells #[.string x] 9))
        have HV1 := hid (hown1.alloc (.cells #[.string x] 9))
        have HAP2 := hid (rows_apart HV1.out HK2.out (by decide))
        have HB2 := hid (((HB.out.alloc HSZ.out (.cells #[.int .i64 0, .bool true, .bool hh, .int .i64 nn] 116)).alloc (le_box HSZ.out) (.cells #[.int .i64 0, .bool true, .bool hh, .int .i64 nn] 116)).grown hg1 (le_box (le_box HSZ.out)) (fun y hy => (HLT.out y hy).1))
        have HC2 := hid (lies_one w2 #[.string x] 9 1 rfl)
        clear hown1 hg1
        go_wp2_with (at_builtin; refine wpList_onto _ rfl _ _ 56 9 1 16 _ Tryz.underlying56 strInfo rfl (by decide) (by decide) rfl w.heap.size _ r _ rfl HK2.out _ 1 _ _ rfl HC2.out (strs_one [x]) B2.out (le_box HB2.out.size) ?_)
        intro v3 w3 hown3 hg3
        have HV3 := hid (HV1.out.kept hg3 HAP2.out)
        have HB3 := hid ((HB2.out.alloc HB2.out.size (.cells #[.string x] 9)).grown hg3 (le_box HB2.out.size) (fun y hy => (HLT2.out y hy).1))
        clear hg3
        go_wp2
        go_roundw
        case rel => exact ⟨j + 1, r + 1, by omega, by omega, by go_num, HL3, by rw [HL1.out]; exact HV3.out, by rw [HL2.out]; exact hown3, HB3.out⟩
        case measure => simp [intOf]; omega
    · obtain rfl : j = wn := by omega
      have htk : W.take j = W := List.take_of_length_le (by rw [← HN.out]; omega)
      rw [htk] at ho1 ho2
      obtain ⟨vb, vc, rfl, l1⟩ := Lies.owned ho1
      obtain ⟨kb, kc, rfl, l2⟩ := Lies.owned ho2
      have q1 : Fresh w.heap.size vb := fun a h => (ho1.lt a.block (by rw [h]; rfl)).1
      have q2 : Fresh w.heap.size kb := fun a h => (ho2.lt a.block (by rw [h]; rfl)).1
      go_wp2
      go_ret2
      exact ⟨_, _, _, _, _, _, rfl, l1, l2, q1, q2, hbel⟩
end Go.Proofs.YtagangiilcicpaeGreatDoor

namespace Go.Proofs.YtagangiilcicpaeGreatDoor
open Go.RowKit

theorem chnInfo : (Tryz.prog.info? 156).map (fun i => (i.zero, i.size, i.bytes)) = some (some (.agg #[.string ByteArray.empty, .slice none 0 0]), 2, 40) := by kernel_rfl
theorem flatV_one (l : List Ver) : ∀ u ∈ flat verC l, u.oneCell' = true := flat_one verC_one l
theorem flatS_one (l : List Slot) : ∀ u ∈ flat slotC l, u.oneCell' = true := flat_one slotC_one l
abbrev OwnsV (w : World) (B : Nat) (v : Value) (l : List Ver) : Prop := w.ownsRow B 116 4 v l.length (flat verC l)
abbrev slotV (s : Slot) : Value := .slice s.2.1 s.2.2.1 s.2.2.2
structure OwnSlots (w : World) (B : Nat) (S : List Slot) (L : List Chn) : Prop where
  len : S.length = L.length
  key : ∀ i, i < L.length → (S.getD i default).1 = (L.getD i default).1 ∧ (L.getD i default).1.size ≤ maxLen
  own : ∀ i, i < L.length → OwnsV w B (slotV (S.getD i default)) (L.getD i default).2
  apart : ∀ i j, i < j → j < L.length → ∀ a, (slotV (S.getD i default)).ownBlock = some a → (slotV (S.getD j default)).ownBlock ≠ some a
theorem OwnSlots.nil (w : World) (B : Nat) : OwnSlots w B [] [] := ⟨rfl, fun _ h => absurd h (Nat.not_lt_zero _), fun _ h => absurd h (Nat.not_lt_zero _), fun _ _ _ h => absurd h (Nat.not_lt_zero _)⟩
theorem grown_below {w w' : World} (h : Below w.heap.size w w') : w.grownBy w' none := ⟨h.os, h.tape, h.output, h.size, fun k hk _ => h.block k hk⟩
theorem owns_keep {w w' : World} {B e s n : Nat} {v : Value} {xs : List Value} (h : w.ownsRow B e s v n xs) (hb : Below w.heap.size w w') : w'.ownsRow B e s v n xs :=
  h.kept (grown_below hb) (by cases v.ownBlock <;> simp)
theorem owns_lower {w : World} {B B' e s n : Nat} {v : Value} {xs : List Value} (h : w.ownsRow B e s v n xs) (hB : B' ≤ B) : w.ownsRow B' e s v n xs := by
  refine ⟨h.1, h.2.imp id ?_⟩
  rintro ⟨g, cap, cur, rfl, hb, rest⟩
  exact ⟨g, cap, cur, rfl, Nat.le_trans hB hb, rest⟩
theorem OwnSlots.below {w w' : World} {B : Nat} {S : List Slot} {L : List Chn} (h : OwnSlots w B S L) (hb : Below w.heap.size w w') : OwnSlots w' B S L :=
  ⟨h.len, h.key, fun i hi => owns_keep (h.own i hi) hb, h.apart⟩
theorem OwnSlots.grown {w w' : World} {B B' e s n : Nat} {v : Value} {xs : List Value} {S : List Slot} {L : List Chn} (h : OwnSlots w B S L) (ho : w.ownsRow B' e s v n xs) (hne : 116 ≠ e) (hg : w.grownBy w' v.ownBlock) : OwnSlots w' B S L :=
  ⟨h.len, h.key, fun i hi => (h.own i hi).kept hg (rows_apart (h.own i hi) ho hne), h.apart⟩
theorem OwnSlots.snoc {w : World} {B : Nat} {S : List Slot} {L : List Chn} {s : Slot} {x : Chn} (h : OwnSlots w B S L) (hk : s.1 = x.1) (hz : x.1.size ≤ maxLen) (ho : OwnsV w B (slotV s) x.2) (hap : ∀ i, i < L.length → ∀ a, (slotV (S.getD i default)).ownBlock = some a → (slotV s).ownBlock ≠ some a) : OwnSlots w B (S ++ [s]) (L ++ [x]) := by
  have e1 : ∀ i, i < L.length → (S ++ [s]).getD i default = S.getD i default := fun i hi => by
    have : i < S.length := by rw [h.len]; exact hi
    simp [List.getD, List.getElem?_append_left this]
  have e2 : ∀ i, i < L.length → (L ++ [x]).getD i default = L.getD i default := fun i hi => by simp [List.getD, List.getElem?_append_left hi]
  have e3 : (S ++ [s]).getD L.length default = s := by rw [← h.len]; simp [List.getD]
  have e4 : (L ++ [x]).getD L.length default = x := by simp [List.getD]
  have part : ∀ i, i < (L ++ [x]).length → i < L.length ∨ i = L.length := fun i hi => by simp at hi; omega
  refine ⟨by simp [h.len], fun i hi => ?_, fun i hi => ?_, fun i j hij hj => ?_⟩
  · rcases part i hi with h1 | rfl
    · rw [e1 i h1, e2 i h1]; exact h.key i h1
    · rw [e3, e4]; exact ⟨hk, hz⟩
  · rcases part i hi with h1 | rfl
    · rw [e1 i h1, e2 i h1]; exact h.own i h1
    · rw [e3, e4]; exact ho
  · rcases part j hj with h1 | rfl
    · rw [e1 i (by omega), e1 j h1]; exact h.apart i j hij h1
    · rw [e1 i hij, e3]; exact hap i hij
theorem OwnSlots.lt {w : World} {B : Nat} {S : List Slot} {L : List Chn} (h : OwnSlots w B S L) {i : Nat} (hi : i < L.length) {a : Nat} (ha : (slotV (S.getD i default)).ownBlock = some a) : a < w.heap.size := ((h.own i hi).lt a ha).2
theorem OwnSlots.are {w : World} {B : Nat} {S : List Slot} {L : List Chn} (h : OwnSlots w B S L) (B' : Nat) : SlotsAre w B' 116 S L := by
  refine ⟨h.len, fun i hi => ⟨(h.key i hi).1, ?_, ?_, (h.key i hi).2⟩⟩
  · obtain ⟨b, c, e, hl⟩ := Lies.owned (h.own i hi)
    simp only [Value.slice.injEq] at e
    obtain ⟨e1, e2, e3⟩ := e
    rw [e1, e2, e3]; exact hl
  · obtain ⟨b, c, e, hl⟩ := Lies.owned (h.own i hi)
    have ho := h.own i hi
    simp only [Value.slice.injEq] at e
    obtain ⟨e1, e2, e3⟩ := e
    rw [e1, e2]
    rw [slotV, e1, e2, e3] at ho
    exact Lies.kind ho B'
theorem chains_owned {w : World} {B n : Nat} {v : Value} {S : List Slot} {L : List Chn} (ho : w.ownsRow B 156 2 v n (flat slotC S)) (hs : OwnSlots w B S L) : ∃ base c, v = .slice base n c ∧ ChainsIn w base n c L := by
  obtain ⟨base, c, rfl, hl⟩ := Lies.owned ho
  exact ⟨base, c, rfl, chains_of_slots hl (hs.are B)⟩
def ChK (w : World) (base : Option Addr) (n c : Nat) (L : List Chn) : Prop := ∃ S, Lies w 2 base n c (flat slotC S) ∧ Kind w 156 base ∧ SlotsAre w 0 116 S L
theorem ChK.chains {w : World} {base : Option Addr} {n c : Nat} {L : List Chn} (h : ChK w base n c L) : ChainsIn w base n c L := by
  obtain ⟨S, hl, _, hs⟩ := h
  exact chains_of_slots hl hs
theorem ChK.below {w w' : World} {base : Option Addr} {n c : Nat} {L : List Chn} (h : ChK w base n c L) (hb : Below w.heap.size w w') : ChK w' base n c L := by
  obtain ⟨S, hl, hk, hs⟩ := h
  exact ⟨S, hl.below (by decide) hb, hk.below hb, hs.below hb⟩
theorem ChK.grown {w w' : World} {B e s m : Nat} {v : Value} {xs : List Value} {base : Option Addr} {n c : Nat} {L : List Chn} (h : ChK w base n c L) (ho : w.ownsRow B e s v m xs) (h1 : 156 ≠ e) (h2 : 116 ≠ e) (hg : w.grownBy w' v.ownBlock) : ChK w' base n c L := by
  obtain ⟨S, hl, hk, hs⟩ := h
  have h0 := owns_lower ho (Nat.zero_le _)
  have hk' : Kind w' 156 base := fun a e => by
    obtain ⟨cur, z, hc⟩ := hk a e
    have hne := own_apart (b := a.block) h0 (.inr ⟨cur, z, hc⟩) h1
    exact ⟨cur, z, (hg.block _ (Array.getElem?_eq_some_iff.1 hc).1 hne).trans hc⟩
  exact ⟨S, (hl.grown (by decide) (.inr (.inr hk)) h0 h1 hg).1, hk', hs.grown h0 h2 hg⟩
theorem chK_owned {w : World} {B n : Nat} {v : Value} {S : List Slot} {L : List Chn} (ho : w.ownsRow B 156 2 v n (flat slotC S)) (hs : SlotsAre w 0 116 S L) : ∃ base c, v = .slice base n c ∧ ChK w base n c L := by
  obtain ⟨base, c, rfl, hl⟩ := Lies.owned ho
  exact ⟨base, c, rfl, S, hl, Kind.owned ho, hs⟩
end Go.Proofs.YtagangiilcicpaeGreatDoor

namespace Go.Proofs.YtagangiilcicpaeGreatDoor
open Go.RowKit

def form (k : Nat) : ByteArray := match k with
  | 1 => ⟨#[114, 107]⟩
  | 2 => ⟨#[114, 110]⟩
  | 3 => ⟨#[114, 115]⟩
  | 4 => ⟨#[114, 115]⟩
  | 5 => ⟨#[114, 115]⟩
  | 6 => ⟨#[114, 107]⟩
  | 7 => ⟨#[107]⟩
  | 8 => ⟨#[114, 110]⟩
  | 9 => ⟨#[114]⟩
  | _ => ⟨#[]⟩
def letter (k : Nat) (c : Nat) : Bool := (form k).data.toList.any (fun x => decide (x.toNat = c))

set_option maxHeartbeats 4000000 in
theorem form_calls (k : Nat) (w : World) (h1 : 1 ≤ k) (h9 : k ≤ 9) :
    Calls Tryz.prog 91 #[.int .i64 k] w fun e w' => e = .returned (.string (form k)) ∧ Below w.heap.size w w' := by
  have : k = 1 ∨ k = 2 ∨ k = 3 ∨ k = 4 ∨ k = 5 ∨ k = 6 ∨ k = 7 ∨ k = 8 ∨ k = 9 := by omega
  rcases this with rfl | rfl | rfl | rfl | rfl | rfl | rfl | rfl | rfl
  all_goals
    clear h1 h9
    go_enter Tryz.func91, Tryz.ntmps91
    go_wp2
    go_ret
    exact ⟨rfl, (Below.refl _ _).alloc (Nat.le_refl _) _⟩

theorem any_snoc (l : List UInt8) (x : UInt8) (c : Nat) : (l ++ [x]).any (fun x => decide (x.toNat = c)) = (l.any (fun x => decide (x.toNat = c)) || decide (x.toNat = c)) := by simp

set_option maxHeartbeats 1000000 in
theorem refHas_calls (k c : Nat) (w : World) (h1 : 1 ≤ k) (h9 : k ≤ 9) :
    Calls Tryz.prog 54 #[.int .i64 k, .int .u8 c] w fun e w' => e = .returned (.bool (letter k c)) ∧ Below w.heap.size w w' := by
  have HF := hid (form_calls k w h1 h9)
  have hsz : (form k).size ≤ 2 := by
    have : k = 1 ∨ k = 2 ∨ k = 3 ∨ k = 4 ∨ k = 5 ∨ k = 6 ∨ k = 7 ∨ k = 8 ∨ k = 9 := by omega
    rcases this with rfl | rfl | rfl | rfl | rfl | rfl | rfl | rfl | rfl <;> decide
  have HL : Hid (letter k c = (form k).data.toList.any (fun x => decide (x.toNat = c))) := rfl
  generalize form k = s at *
  generalize letter k c = q at *
  clear h1 h9
  go_enter Tryz.func54, Tryz.ntmps54
  go_wp2_with fail
  refine HF.out.mono ?_
  rintro e w1 ⟨rfl, hb⟩
  go_wp2
  go_loop [11] (fun i => ∃ j : Nat, j ≤ s.size ∧ i = .int .i64 j ∧ Hid ((s.data.toList.take j).any (fun x => decide (x.toNat = c)) = false)) (fun i => s.size - (intOf i).toNat)
  case atStart => exact ⟨0, Nat.zero_le _, rfl, rfl⟩
  case round =>
    obtain ⟨j, hj, rfl, HA⟩ := hrel
    by_cases hlt : j < s.size
    · have HS : Hid ((s.data.toList.take (j + 1)).any (fun x => decide (x.toNat = c)) = decide (s[j].toNat = c)) := by
        show _ = _
        rw [take_snoc s j hlt, any_snoc, HA.out]; rfl
      by_cases hc : s[j].toNat = c
      · have t : ((s[j].toNat : Int) == (c : Int)) = true := by simp; omega
        have HQ : Hid (q = true) := by
          show _ = _
          rw [HL.out, ← List.take_append_drop (j + 1) s.data.toList, List.any_append, HS.out]; simp [hc]
        clear hc
        go_wp2
        go_ret
        exact ⟨ret_bool HQ.out.symm, hb⟩
      · have t : ((s[j].toNat : Int) == (c : Int)) = false := by simp; omega
        have HN : Hid ((s.data.toList.take (j + 1)).any (fun x => decide (x.toNat = c)) = false) := by
          show _ = _
          rw [HS.out]; simpa using hc
        clear hc
        go_wp2
        go_round
        case rel => exact ⟨j + 1, by omega, by go_num, HN⟩
        case measure => simp [intOf]; omega
    · go_wp2
      go_ret
      exact ⟨ret_bool (by rw [HL.out, ← HA.out, List.take_of_length_le (by simp; omega)]), hb⟩
end Go.Proofs.YtagangiilcicpaeGreatDoor

namespace Go.Proofs.YtagangiilcicpaeGreatDoor
open Go.RowKit

end Go.Proofs.YtagangiilcicpaeGreatDoor

namespace Go.Proofs.YtagangiilcicpaeGreatDoor
open Go.RowKit

theorem step_copy (w : World) {ops : Array Oper} {o : Oper} {a : Act} {K : Act → World → Prop} {Q : Exit → Act → World → Prop} {E : Prop} (hgd : o.guard = none) (s x : Operand) (t e sz bytes : Nat) (z : Value)
    (hu : Tryz.prog.underlying t = some (.slice e)) (hinfo : (Tryz.prog.info? e).map (fun i => (i.zero, i.size, i.bytes)) = some (some z, sz, bytes)) (hzc : z.cells.size = sz) (hsz : 0 < sz) (hby : 0 < bytes)
    (ho : o.op = .call { callee := .builtin .append, args := #[s, x], argTypes := #[t, t] })
    (hs : a.eval s = .slice none 0 0) (base : Option Addr) (m c : Nat) (l2 : List Value) (hx : a.eval x = .slice base m c) (hh : Lies w sz base m c l2) (hone : ∀ u ∈ l2, u.oneCell' = true) (hbytes : m * bytes ≤ 140737488355328)
    (h : ∀ b' c' w', Lies w' sz b' m c' l2 → Below w.heap.size w w' → Fresh w.heap.size b' → Kind w' e b' → K (a.put o.dst (.slice b' m c')) w') : if Region.wanted o (yielded ops a.tmps) = true then Oper.wp Tryz.prog o a w K Q else E := by
  have hw : Region.wanted o (yielded ops a.tmps) = true := by simp [Region.wanted, hgd]
  rw [if_pos hw]
  obtain ⟨i0, hi, hz0, hz1, hz2⟩ := info_parts hinfo
  have hlen := hh.len
  have hown := World.ownsRow_nil w w.heap.size e sz
  have h63 : 0 + m ≤ maxLen := by
    have := Nat.le_mul_of_pos_right m hby
    unfold maxLen; omega
  have hfin : ∀ v' w', w'.ownsRow w.heap.size e sz v' (0 + m) ([] ++ l2) → w.grownBy w' (Value.slice none 0 0).ownBlock → K (a.put o.dst v') w' := fun v' w' h1 h2 => by
    simp only [Nat.zero_add, List.nil_append] at h1
    obtain ⟨b', c', rfl, hl⟩ := Lies.owned h1
    exact h b' c' w' hl ((Below.refl _ _).grown h2 (Nat.le_refl _) (fun k hk => by cases hk)) (fun ad e => (h1.lt ad.block (by rw [e]; rfl)).1) (Kind.owned h1)
  have key : ∀ ad, base = some ad → (∀ j u, l2[j]? = some u → w.cell? (ad.add j) = some u) → Oper.wp Tryz.prog o a w K Q := fun ad had hnews =>
    wp_append_own w s x t ho w.heap.size e i0 _ sz bytes hu hi hz0 hz1 hz2 hzc hsz _ 0 [] hs hown ad m c l2 (by rw [hx, had]) hlen hnews hone h63 (by simpa using hbytes) (Nat.le_refl _)
      (fun v' w' h1 h2 _ => hfin v' w' h1 h2)
  cases base with
  | some ad =>
    rcases hh.run with he | ⟨b, o', he, hc⟩
    · subst he
      have : l2 = [] := List.eq_nil_of_length_eq_zero (by omega)
      exact key ad rfl (fun j u hu => by rw [this] at hu; simp at hu)
    · cases he
      exact key _ rfl (fun j u hu => by rw [Addr.add_lit]; exact hc j u hu)
  | none =>
    obtain rfl := hh.hdr.nil rfl
    obtain rfl : m = 0 := by have := hh.hdr.le; omega
    have hl2 : l2 = [] := List.eq_nil_of_length_eq_zero (by omega)
    have hrun := run_append_owned_none (P := Tryz.prog) w w.heap.size t o.type e i0 sz hu hi _ 0 [] hown
    unfold Oper.wp
    simp [execOp, ho, resolve, invoke, builtin, hs, hx, hrun, Result.andThen]
    exact h none 0 w (by rw [hl2]; exact Lies.none _ _) (Below.refl _ _) (fresh_none _) (Kind.none _ _)

theorem insInfo : (Tryz.prog.info? 91).map (fun i => (i.zero, i.size, i.bytes)) = some (some (.agg #[.int .i64 0, .int .i64 0, .int .i64 0, .int .i64 0, .string ByteArray.empty]), 5, 48) := by kernel_rfl

theorem box_free (w : World) (vs : Array Value) (t : TypeId) (j : Nat) : w.heap.size < (w.alloc (.cells vs t)).drew.heap.size ∧ (w.alloc (.cells vs t)).drew.frozen? ⟨w.heap.size, j, none⟩ = false := ⟨by show _ < (w.alloc (.cells vs t)).heap.size; rw [World.size_alloc]; omega, World.frozen?_alloc_at _ _ _ _ rfl⟩
theorem kept_free {w w' : World} {b x : Nat} (hb : Below w.heap.size w w') (h : b < w.heap.size ∧ w.frozen? ⟨b, x, none⟩ = false) : w'.frozen? ⟨b, x, none⟩ = false := by
  rw [hb.frozen (p := ⟨b, x, none⟩) h.1]; exact h.2
theorem three_lies {w : World} {sz : Nat} {base : Option Addr} {n c b B : Nat} {vs : List Value} {x y z : Value} (hf : Fresh B base) (hb : b < B) (h : Lies w sz base n c vs) : Lies (((w.setCell ⟨b, 0, none⟩ x).setCell ⟨b, 1, none⟩ y).setCell ⟨b, 2, none⟩ z) sz base n c vs :=
  ((h.set hf (p := ⟨b, 0, none⟩) hb _).set hf (p := ⟨b, 1, none⟩) hb _).set hf (p := ⟨b, 2, none⟩) hb _
theorem set_off {w : World} {b i j : Nat} {u : Value} (h : i ≠ j) : (w.setCell ⟨b, i, none⟩ u).cell? ⟨b, j, none⟩ = w.cell? ⟨b, j, none⟩ := World.cell?_setCell_other _ _ _ _ (fun e => h (by cases e; rfl))
structure Three (w : World) (b : Nat) (x y z : Value) : Prop where
  c0 : w.cell? ⟨b, 0, none⟩ = some x
  c1 : w.cell? ⟨b, 1, none⟩ = some y
  c2 : w.cell? ⟨b, 2, none⟩ = some z
theorem three_cells {w : World} {b : Nat} {x y z u0 u1 u2 : Value} (h0 : w.cell? ⟨b, 0, none⟩ = some u0) (h1 : w.cell? ⟨b, 1, none⟩ = some u1) (h2 : w.cell? ⟨b, 2, none⟩ = some u2) : Three (((w.setCell ⟨b, 0, none⟩ x).setCell ⟨b, 1, none⟩ y).setCell ⟨b, 2, none⟩ z) b x y z := by
  refine ⟨?_, ?_, ?_⟩
  · rw [set_off (by decide), set_off (by decide)]
    exact World.cell?_setCell_same _ _ _ h0
  · rw [set_off (by decide)]
    exact World.cell?_setCell_same _ _ _ (by rw [set_off (by decide)]; exact h1)
  · exact World.cell?_setCell_same _ _ _ (by rw [set_off (by decide), set_off (by decide)]; exact h2)
theorem own_results (tmps : Array Value) (b : Nat) (w : World) {x y z : Value} (h2 : tmps.getD 2 undef = .pointer (some ⟨b, 0, none⟩)) (h : Three w b x y z) (hx : ∃ p q r, x = .slice p q r) (hy : ∃ p q r, y = .slice p q r) (hz : ∃ p q r, z = .slice p q r) :
    (results Tryz.f93 tmps).run Tryz.prog w = .ok (.agg #[x, y, z]) w := by
  have h2' : tmps[2]?.getD undef = .pointer (some ⟨b, 0, none⟩) := by simpa using h2
  obtain ⟨_, _, _, rfl⟩ := hx
  obtain ⟨_, _, _, rfl⟩ := hy
  obtain ⟨_, _, _, rfl⟩ := hz
  simp [results, Tryz.results93, go_sem, h2', h.c0, h.c1, h.c2]
theorem held4 {a b c d : Prop} (h : a ∧ b ∧ c ∧ d) : d := h.2.2.2
theorem box_keep {A w1 w2 : World} {b : Nat} {x y z : Value} (h : w1.cell? ⟨b, 0, none⟩ = some x ∧ w1.cell? ⟨b, 1, none⟩ = some y ∧ w1.cell? ⟨b, 2, none⟩ = some z ∧ Below A.heap.size A w1) (hb : Below w1.heap.size w1 w2) :
    w2.cell? ⟨b, 0, none⟩ = some x ∧ w2.cell? ⟨b, 1, none⟩ = some y ∧ w2.cell? ⟨b, 2, none⟩ = some z ∧ Below A.heap.size A w2 :=
  ⟨kept_cell hb h.1, kept_cell hb h.2.1, kept_cell hb h.2.2.1, below_deep h.2.2.2 hb⟩

theorem three_keep {w0 w1 : World} {b n : Nat} {x y z u0 u1 u2 : Value} (h : w1.cell? ⟨b, 0, none⟩ = some x ∧ w1.cell? ⟨b, 1, none⟩ = some y ∧ w1.cell? ⟨b, 2, none⟩ = some z ∧ Below w0.heap.size w0 w1) (hn : n ≠ b) (hB : w0.heap.size ≤ n) :
    (((w1.setCell ⟨n, 0, none⟩ u0).setCell ⟨n, 1, none⟩ u1).setCell ⟨n, 2, none⟩ u2).cell? ⟨b, 0, none⟩ = some x ∧ (((w1.setCell ⟨n, 0, none⟩ u0).setCell ⟨n, 1, none⟩ u1).setCell ⟨n, 2, none⟩ u2).cell? ⟨b, 1, none⟩ = some y ∧
    (((w1.setCell ⟨n, 0, none⟩ u0).setCell ⟨n, 1, none⟩ u1).setCell ⟨n, 2, none⟩ u2).cell? ⟨b, 2, none⟩ = some z ∧ Below w0.heap.size w0 (((w1.setCell ⟨n, 0, none⟩ u0).setCell ⟨n, 1, none⟩ u1).setCell ⟨n, 2, none⟩ u2) := by
  refine ⟨?_, ?_, ?_, ((h.2.2.2.setCell (p := ⟨n, 0, none⟩) hB _).setCell (p := ⟨n, 1, none⟩) hB _).setCell (p := ⟨n, 2, none⟩) hB _⟩
  · rw [World.cell?_setCell_far _ _ _ _ hn, World.cell?_setCell_far _ _ _ _ hn, World.cell?_setCell_far _ _ _ _ hn]; exact h.1
  · rw [World.cell?_setCell_far _ _ _ _ hn, World.cell?_setCell_far _ _ _ _ hn, World.cell?_setCell_far _ _ _ _ hn]; exact h.2.1
  · rw [World.cell?_setCell_far _ _ _ _ hn, World.cell?_setCell_far _ _ _ _ hn, World.cell?_setCell_far _ _ _ _ hn]; exact h.2.2.1

set_option maxHeartbeats 4000000 in
theorem own_callsK (R W : List ByteArray) (C : List Ins) (rb : Option Addr) (rn rc : Nat) (wb : Option Addr) (wn wc : Nat) (cb : Option Addr) (cn cc : Nat) (w : World) (hd : DeedIn w rb rn rc wb wn wc cb cn cc R W C)
    (h1 : rn * 16 ≤ 140737488355328) (h2 : wn * 16 ≤ 140737488355328) (h3 : cn * 48 ≤ 140737488355328) :
    Calls Tryz.prog 93 #[.agg #[.slice rb rn rc, .slice wb wn wc, .slice cb cn cc]] w fun e w' =>
      ∃ rb' rc' wb' wc' cb' cc', e = .returned (.agg #[.slice rb' rn rc', .slice wb' wn wc', .slice cb' cn cc']) ∧ DeedIn w' rb' rn rc' wb' wn wc' cb' cn cc' R W C ∧ Below w.heap.size w w' ∧ Kind w' 9 rb' ∧ Kind w' 9 wb' ∧ Kind w' 91 cb' := by
  obtain ⟨A, hA⟩ : ∃ A, A = (w.alloc (.cells #[.slice rb rn rc, .slice wb wn wc, .slice cb cn cc] 59)).alloc (.cells #[.slice none 0 0, .slice none 0 0, .slice none 0 0] 59) := ⟨_, rfl⟩
  have hb0 : Below w.heap.size w A := by rw [hA]; exact (((Below.refl _ _).alloc (Nat.le_refl _) _).alloc (by simp) _)
  have HD := hid hd
  have HB0 := hid hb0
  have H1 := hid h1
  have H2 := hid h2
  have H3 := hid h3
  clear hd hb0 h1 h2 h3
  subst hA
  go_enter Tryz.func93, Tryz.ntmps93
  go_wp2
  go_region_held3 (fun w' => w'.cell? ⟨w.heap.size, 0, none⟩ = some (.slice rb rn rc) ∧ w'.cell? ⟨w.heap.size, 1, none⟩ = some (.slice wb wn wc) ∧ w'.cell? ⟨w.heap.size, 2, none⟩ = some (.slice cb cn cc) ∧ Below w.heap.size w w')
    (first
      | exact ⟨kept_cell (Below.refl _ _).drew (box_past _ (box_cell w _ 59 0 (.slice rb rn rc) rfl)), kept_cell (Below.refl _ _).drew (box_past _ (box_cell w _ 59 1 (.slice wb wn wc) rfl)), kept_cell (Below.refl _ _).drew (box_past _ (box_cell w _ 59 2 (.slice cb cn cc) rfl)), HB0.out.drew⟩
      | exact box_keep (by assumption) (by assumption)
      | exact three_keep (by assumption) (by omega) (by omega))
    (first
      | (refine step_copy _ rfl _ _ 56 9 1 16 _ Tryz.underlying56 strInfo rfl (by decide) (by decide) rfl rfl rb rn rc _ rfl ?_ (strs_one R) H1.out ?_; exact HD.out.tr.below (by decide) (held4 (by assumption)); intro b1 c1 w1 hl1 hb1 hf1 hk1)
      | (refine step_copy _ rfl _ _ 56 9 1 16 _ Tryz.underlying56 strInfo rfl (by decide) (by decide) rfl rfl wb wn wc _ rfl ?_ (strs_one W) H2.out ?_; exact HD.out.tw.below (by decide) (held4 (by assumption)); intro b2 c2 w2 hl2 hb2 hf2 hk2)
      | (refine step_copy _ rfl _ _ 57 91 5 48 _ Tryz.underlying57 insInfo rfl (by decide) (by decide) rfl rfl cb cn cc _ rfl ?_ (insCells_one C) H3.out ?_; exact HD.out.cd.below (by decide) (held4 (by assumption)); intro b3 c3 w3 hl3 hb3 hf3 hk3; have hbb := below_deep (below_deep hb1 hb2) hb3; have g0 := kept_cell hbb (box_cell (w.alloc (.cells #[.slice rb rn rc, .slice wb wn wc, .slice cb cn cc] 59)) #[.slice none 0 0, .slice none 0 0, .slice none 0 0] 59 0 (.slice none 0 0) rfl); have g1 := kept_cell hbb (box_cell (w.alloc (.cells #[.slice rb rn rc, .slice wb wn wc, .slice cb cn cc] 59)) #[.slice none 0 0, .slice none 0 0, .slice none 0 0] 59 1 (.slice none 0 0) rfl); have g2 := kept_cell hbb (box_cell (w.alloc (.cells #[.slice rb rn rc, .slice wb wn wc, .slice cb cn cc] 59)) #[.slice none 0 0, .slice none 0 0, .slice none 0 0] 59 2 (.slice none 0 0) rfl); rw [World.size_alloc] at g0 g1 g2; have f0 := kept_free hbb (box_free (w.alloc (.cells #[.slice rb rn rc, .slice wb wn wc, .slice cb cn cc] 59)) #[.slice none 0 0, .slice none 0 0, .slice none 0 0] 59 0); have f1 := kept_free hbb (box_free (w.alloc (.cells #[.slice rb rn rc, .slice wb wn wc, .slice cb cn cc] 59)) #[.slice none 0 0, .slice none 0 0, .slice none 0 0] 59 1); have f2 := kept_free hbb (box_free (w.alloc (.cells #[.slice rb rn rc, .slice wb wn wc, .slice cb cn cc] 59)) #[.slice none 0 0, .slice none 0 0, .slice none 0 0] 59 2); rw [World.size_alloc] at f0 f1 f2))
  have e1 : w.heap.size + 1 < (((w.alloc (.cells #[.slice rb rn rc, .slice wb wn wc, .slice cb cn cc] 59)).alloc (.cells #[.slice none 0 0, .slice none 0 0, .slice none 0 0] 59)).drew).heap.size := by
    show _ < ((w.alloc (.cells #[.slice rb rn rc, .slice wb wn wc, .slice cb cn cc] 59)).alloc (.cells #[.slice none 0 0, .slice none 0 0, .slice none 0 0] 59)).heap.size
    rw [World.size_alloc, World.size_alloc]; omega
  have e2 := Nat.lt_of_lt_of_le e1 hb1.size
  have e3 := Nat.lt_of_lt_of_le e2 hb2.size
  have HL1 := hid (three_lies (x := .slice b1 rn c1) (y := .slice b2 wn c2) (z := .slice b3 cn c3) hf1 e1 ((hl1.below (by decide) hb2).below (by decide) hb3))
  have HL2 := hid (three_lies (x := .slice b1 rn c1) (y := .slice b2 wn c2) (z := .slice b3 cn c3) hf2 e2 (hl2.below (by decide) hb3))
  have HL3 := hid (three_lies (x := .slice b1 rn c1) (y := .slice b2 wn c2) (z := .slice b3 cn c3) hf3 e3 hl3)
  have HBE := hid (below_deep (below_deep (below_deep HB0.out.drew hb1) hb2) hb3)
  have HK1 := hid ((hk1.below hb2).below hb3)
  have HK2 := hid (hk2.below hb3)
  have HK3 := hid hk3
  have HG := hid (three_cells (x := .slice b1 rn c1) (y := .slice b2 wn c2) (z := .slice b3 cn c3) g0 g1 g2)
  go_wp2
  (try simp only [Exit.inBlock, Exit.then])
  refine bodyPost_ret (own_results _ (w.heap.size + 1) _ rfl HG.out ⟨_, _, _, rfl⟩ ⟨_, _, _, rfl⟩ ⟨_, _, _, rfl⟩) rfl ?_
  exact ⟨b1, c1, b2, c2, b3, c3, rfl, ⟨HL1.out, HL2.out, HL3.out⟩, ((HBE.out.setCell (p := ⟨w.heap.size + 1, 0, none⟩) (by simp) _).setCell (p := ⟨w.heap.size + 1, 1, none⟩) (by simp) _).setCell (p := ⟨w.heap.size + 1, 2, none⟩) (by simp) _, ((HK1.out.set _ _).set _ _).set _ _, ((HK2.out.set _ _).set _ _).set _ _, ((HK3.out.set _ _).set _ _).set _ _⟩
end Go.Proofs.YtagangiilcicpaeGreatDoor

namespace Go.Proofs.YtagangiilcicpaeGreatDoor
open Go.RowKit

end Go.Proofs.YtagangiilcicpaeGreatDoor
