/-
  A deed's text, put together from its front.
  A line cut off a text, and whether a text's last line has its end: the library's functions and the program's, walked.
  Own and Add of the program's plans, walked.
-/
import Derived.Test.YthmkgfdglkdjmadGreatDoorTextKeys
import Derived.Test.YthmkgfdglkdjmadGreatDoorTextWrite
import Derived.Test.YthmkgfdglkdjmadGreatDoorShelf
import Derived.Test.YthmkgfdglkdjmadGreatDoorSplLib
import Derived.Test.YthmkgfdglkdjmadGreatDoorInsAt
import Derived.Shelf.Strings.Search2
import Derived.Lib.CutLaws
import Derived.Test.YthmkgfdglkdjmadGreatDoorLogMath
import Derived.Test.YthmkgfdglkdjmadGreatDoorRefNew
import Derived.Deep.DeepCutAuto
import Derived.Deep.RegionWith
import Derived.Deep.RegionLaw
namespace Go.Proofs.YthmkgfdglkdjmadGreatDoor

def tail1 (l : List T) : T := (l.map fun x => (32 : UInt8) :: x).flatten
def tail2 (l : List T) : T := (l.map fun x => (59 : UInt8) :: 32 :: x).flatten
theorem tail1_snoc (l : List T) (x : T) : tail1 (l ++ [x]) = tail1 l ++ 32 :: x := by simp [tail1]
theorem tail2_snoc (l : List T) (x : T) : tail2 (l ++ [x]) = tail2 l ++ 59 :: 32 :: x := by simp [tail2]
theorem join1_tail : ∀ (l : List T) (x : T), join1 (x :: l) = x ++ tail1 l
  | [], x => by simp [join1, tail1]
  | y :: l, x => by
    rw [join1_cons x (by simp), join1_tail l y]; simp [tail1]
theorem join2_tail : ∀ (l : List T) (x : T), join2 (x :: l) = x ++ tail2 l
  | [], x => by simp [join2, tail2]
  | y :: l, x => by
    rw [join2_cons x (by simp), join2_tail l y]; simp [tail2]
theorem keyT_append (a b : ByteArray) : keyT (a ++ b) = keyT a ++ keyT b := by simp [keyT]
theorem size_append (a b : ByteArray) : (a ++ b).size = a.size + b.size := by
  have h1 := keyT_len (a ++ b)
  have h2 := keyT_len a
  have h3 := keyT_len b
  rw [keyT_append, List.length_append] at h1
  omega
/-- The text up to the j-th key that is read, that is written, and the j-th instruction. -/
def front0 (R : List ByteArray) (j : Nat) : T := wReads ++ tail1 ((R.take j).map keyT)
def front1 (R W : List ByteArray) (j : Nat) : T := front0 R R.length ++ 59 :: 32 :: wWrites ++ tail1 ((W.take j).map keyT)
def front2 (R W : List ByteArray) (C : List Ins) (j : Nat) : T := front1 R W W.length ++ tail2 ((C.take j).map fun i => join1 (insWords i))
theorem front0_next (R : List ByteArray) {j : Nat} (h : j < R.length) : front0 R (j + 1) = front0 R j ++ 32 :: keyT (R.getD j default) := by
  unfold front0; rw [take_snoc_getD h, List.map_append, List.map_cons, List.map_nil, tail1_snoc, List.append_assoc]
theorem front1_next (R W : List ByteArray) {j : Nat} (h : j < W.length) : front1 R W (j + 1) = front1 R W j ++ 32 :: keyT (W.getD j default) := by
  unfold front1; rw [take_snoc_getD h, List.map_append, List.map_cons, List.map_nil, tail1_snoc, List.append_assoc]; simp
theorem front2_next (R W : List ByteArray) (C : List Ins) {j : Nat} (h : j < C.length) : front2 R W C (j + 1) = front2 R W C j ++ 59 :: 32 :: join1 (insWords (C.getD j default)) := by
  unfold front2; rw [take_snoc_getD h, List.map_append, List.map_cons, List.map_nil, tail2_snoc, List.append_assoc]
theorem front2_all (R W : List ByteArray) (C : List Ins) {j : Nat} (h : C.length ≤ j) : front2 R W C j = printT R W C := by
  unfold front2 front1 front0 printT partsOf
  rw [List.take_of_length_le h, List.take_length, List.take_length]
  simp only [List.map_cons]
  rw [join2_tail, join1_tail, join1_tail]
  simp [tail2, List.map_map, Function.comp_def]
theorem words_form {i : Ins} {k : Nat} (hk : i.kind = (k : Int)) (h1 : 1 ≤ k) (h9 : k ≤ 9) : join1 (insWords i) = word k ++ tail1 ((keyT (form k)).map fun c => fillP i (placeOf c)) := by
  rw [← fill_words i hk h1 h9, places_form h1 h9, List.map_cons, fillP_word, join1_tail, List.map_map]
  rfl
end Go.Proofs.YthmkgfdglkdjmadGreatDoor

namespace Go.Proofs.YthmkgfdglkdjmadGreatDoor
open Go.RowKit Go.Shelf

theorem feed_calls (s : ByteArray) (w : World) : Calls Tryz.prog 127 #[.string s, .string ⟨#[10]⟩] w fun e w' => e = .returned (.int .i64 (Lib.indexByte (keyT s) 10)) ∧ w' = w :=
  Any.stringslite_Index_one { lays146 with } s 10 w
theorem extract_take (s : ByteArray) (i : Nat) : s.extract 0 i = ofT ((keyT s).take i) := by
  have h := Lib.extract_eq s 0 i
  rw [h, List.drop_zero, Nat.sub_zero]
  rfl
theorem extract_drop (s : ByteArray) (i : Nat) : s.extract i s.size = ofT ((keyT s).drop i) := by
  have h := Lib.extract_eq s i s.size
  rw [h]
  have : List.take (s.size - i) (List.drop i s.data.toList) = List.drop i s.data.toList := List.take_of_length_le (by rw [List.length_drop, Array.length_toList]; exact Nat.le_refl _)
  rw [this]
  rfl
/-- What a cut answers. -/
def CutTold (s : ByteArray) (i : Nat) (e : Ending) : Prop := e = .returned (.tuple #[.string (ofT ((keyT s).take i)), .string (ofT ((keyT s).drop (i + 1))), .bool true])
set_option maxHeartbeats 2000000 in
theorem liteCut_calls (s : ByteArray) (i : Nat) (w : World) (hs : s.size ≤ maxLen) (hi : Lib.indexByte (keyT s) 10 = (i : Int)) (hl : i < s.size) :
    Calls Tryz.prog 112 #[.string s, .string ⟨#[10]⟩] w fun e w' => CutTold s i e ∧ Below w.heap.size w w' := by
  unfold maxLen at hs
  have HF := hid (feed_calls s w)
  rw [hi] at HF
  have E1 := hid (extract_take s i)
  have E2 := hid (extract_drop s (i + 1))
  have h0 : (i : Int) ≥ 0 := by omega
  have c2 : (i : Int) ≤ (s.size : Int) := by omega
  have c3 : (0 : Int) ≤ (i : Int) + 1 := by omega
  have c4 : (i : Int) + 1 ≤ (s.size : Int) := by omega
  clear hi
  go_enter Tryz.func112, Tryz.ntmps112
  go_wp2_with fail
  refine HF.out.mono ?_
  rintro e w1 ⟨rfl, rfl⟩
  go_wp2
  go_quiet (fail)
  go_wp2
  go_ret3
  exact ⟨by show _ = _; rw [E1.out, E2.out]; rfl, below_drewN (Below.refl _ _) _⟩
set_option maxHeartbeats 2000000 in
theorem cut_calls (s : ByteArray) (i : Nat) (w : World) (hs : s.size ≤ maxLen) (hi : Lib.indexByte (keyT s) 10 = (i : Int)) (hl : i < s.size) :
    Calls Tryz.prog 82 #[.string s, .string ⟨#[10]⟩] w fun e w' => CutTold s i e ∧ Below w.heap.size w w' := by
  have HC := hid (liteCut_calls s i w hs hi hl)
  unfold CutTold at HC ⊢
  generalize ofT ((keyT s).take i) = a at *
  generalize ofT ((keyT s).drop (i + 1)) = b at *
  clear hs hi hl
  go_enter Tryz.func82, Tryz.ntmps82
  go_wp2_with fail
  refine HC.out.mono ?_
  rintro e w1 ⟨rfl, hb1⟩
  have HB := hid hb1
  clear hb1
  go_wp2
  go_ret3
  exact ⟨rfl, HB.out⟩
theorem ended_last {s : ByteArray} (h : 1 ≤ s.size) : Ended (keyT s) ↔ (keyT s).drop (s.size - 1) = [10] := by
  have hl := keyT_len s
  unfold Ended
  have hne : keyT s ≠ [] := fun e => by rw [e] at hl; simp at hl; omega
  have hd : (keyT s).drop (s.size - 1) = [(keyT s).getD (s.size - 1) 0] := by
    rw [List.drop_eq_getElem_cons (by omega), show s.size - 1 + 1 = (keyT s).length from by omega, List.drop_length]
    have : s.size - 1 < (keyT s).length := by omega
    simp [List.getD, this]
  rw [hd, List.getLast?_eq_getElem?, hl]
  have h1 : s.size - 1 < (keyT s).length := by omega
  rw [List.getElem?_eq_getElem h1]
  simp [hne, List.getD, h1]
set_option maxHeartbeats 2000000 in
theorem liteSuffix_calls (s : ByteArray) (w : World) (hs : s.size ≤ maxLen) (h1 : 1 ≤ s.size) :
    Calls Tryz.prog 111 #[.string s, .string ⟨#[10]⟩] w fun e w' => (∃ b, e = .returned (.bool b) ∧ (b = true ↔ Ended (keyT s))) ∧ w' = w := by
  unfold maxLen at hs
  have HE := hid (ended_last h1)
  have E3 := hid (extract_drop s (s.size - 1))
  have c1 : (s.size : Int) ≥ 1 := by omega
  have c2 : (0 : Int) ≤ (s.size : Int) - 1 := by omega
  have c3 : ((s.size : Int) - 1) ≤ (s.size : Int) := by omega
  go_enter Tryz.func111, Tryz.ntmps111
  go_wp2
  go_ret
  refine ⟨⟨_, rfl, ?_⟩, rfl⟩
  rw [E3.out, HE.out]
  have e : ∀ l : T, ((ofT l).toList == [10]) = true ↔ l = [10] := fun l => by
    rw [beq_iff_eq, ByteArray.toList_eq]; simp [ofT]
  exact e _
set_option maxHeartbeats 2000000 in
theorem ends_calls (s : ByteArray) (w : World) (hs : s.size ≤ maxLen) :
    Calls Tryz.prog 49 #[.string s] w fun e w' => (∃ b, e = .returned (.bool b) ∧ (b = true ↔ Ended (keyT s))) ∧ w' = w := by
  by_cases h0 : s.size = 0
  · obtain rfl := size_nil h0
    go_enter Tryz.func49, Tryz.ntmps49
    go_wp2
    go_ret
    exact ⟨⟨true, rfl, fun _ => .inl rfl, fun _ => rfl⟩, rfl⟩
  · have HL := hid (liteSuffix_calls s w hs (by omega))
    have t : (s.toList == ([] : List UInt8)) = false := by
      have := streq_false (a := s) (b := ⟨#[]⟩) (fun e => h0 (by rw [e]; rfl))
      simpa using this
    go_enter Tryz.func49, Tryz.ntmps49
    go_wp2_with (first | (go_at_call 111; refine HL.out.mono ?_; rintro e w1 ⟨⟨b, rfl, hb⟩, rfl⟩) | go_in)
    go_ret
    exact ⟨⟨b, rfl, hb⟩, rfl⟩
end Go.Proofs.YthmkgfdglkdjmadGreatDoor

namespace Go.Proofs.YthmkgfdglkdjmadGreatDoor
open Go.RowKit

/-! ### Deeds in memory of their own -/
def DSlotK (w : World) (s : DSlot) (d : Deed3) : Prop := DSlotIs w s d ∧ Kind w 9 s.1.1 ∧ Kind w 9 s.2.1.1 ∧ Kind w 101 s.2.2.1
theorem DSlotK.below {w w' : World} {s : DSlot} {d : Deed3} (h : DSlotK w s d) (hb : Below w.heap.size w w') : DSlotK w' s d := ⟨h.1.below hb, h.2.1.below hb, h.2.2.1.below hb, h.2.2.2.below hb⟩
theorem kind_grown {w w' : World} {B e s m t : Nat} {v : Value} {xs : List Value} {base : Option Addr} (h : Kind w t base) (ho : w.ownsRow B e s v m xs) (hne : t ≠ e) (hg : w.grownBy w' v.ownBlock) : Kind w' t base := fun a ea => by
  obtain ⟨cur, z, hc⟩ := h a ea
  have h1 := own_apart (b := a.block) ho (.inr ⟨cur, z, hc⟩) hne
  exact ⟨cur, z, (hg.block _ (Array.getElem?_eq_some_iff.1 hc).1 h1).trans hc⟩
theorem lies_grownK {w w' : World} {B e s m t k : Nat} {v : Value} {xs vs : List Value} {nb : Option Addr} {nn nc : Nat} (hk0 : 0 < k) (h : Lies w k nb nn nc vs) (hk : Kind w t nb) (ho : w.ownsRow B e s v m xs) (hne : t ≠ e) (hg : w.grownBy w' v.ownBlock) : Lies w' k nb nn nc vs :=
  (h.grown hk0 (.inr (.inr hk)) ho hne hg).1
theorem DSlotK.grown {w w' : World} {B e s m : Nat} {v : Value} {xs : List Value} {sl : DSlot} {d : Deed3} (h : DSlotK w sl d) (ho : w.ownsRow B e s v m xs) (h1 : 9 ≠ e) (h2 : 101 ≠ e) (hg : w.grownBy w' v.ownBlock) : DSlotK w' sl d :=
  ⟨⟨⟨lies_grownK (by decide) h.1.1.tr h.2.1 ho h1 hg, lies_grownK (by decide) h.1.1.tw h.2.2.1 ho h1 hg, lies_grownK (by decide) h.1.1.cd h.2.2.2 ho h2 hg⟩, h.1.2⟩, kind_grown h.2.1 ho h1 hg, kind_grown h.2.2.1 ho h1 hg, kind_grown h.2.2.2 ho h2 hg⟩
theorem DSlotK.off {w w' : World} {b : Nat} {cs : Array Value} {t : TypeId} {sl : DSlot} {d : Deed3} (h : DSlotK w sl d) (hb : Box w b cs t) (h1 : 9 ≠ t) (h2 : 101 ≠ t) (ho : Off b w w') : DSlotK w' sl d :=
  ⟨⟨⟨Lies.off h.1.1.tr ho (.inr (kind_ne hb h.2.1 h1)), Lies.off h.1.1.tw ho (.inr (kind_ne hb h.2.2.1 h1)), Lies.off h.1.1.cd ho (.inr (kind_ne hb h.2.2.2 h2))⟩, h.1.2⟩, h.2.1.off ho (kind_ne hb h.2.1 h1), h.2.2.1.off ho (kind_ne hb h.2.2.1 h1), h.2.2.2.off ho (kind_ne hb h.2.2.2 h2)⟩
def DSlotsK (w : World) (T : List DSlot) (D : List Deed3) : Prop := T.length = D.length ∧ ∀ i, i < D.length → DSlotK w (T.getD i default) (D.getD i default)
theorem DSlotsK.nil (w : World) : DSlotsK w [] [] := ⟨rfl, fun _ h => absurd h (Nat.not_lt_zero _)⟩
theorem DSlotsK.below {w w' : World} {T : List DSlot} {D : List Deed3} (h : DSlotsK w T D) (hb : Below w.heap.size w w') : DSlotsK w' T D := ⟨h.1, fun i hi => (h.2 i hi).below hb⟩
theorem DSlotsK.grown {w w' : World} {B e s m : Nat} {v : Value} {xs : List Value} {T : List DSlot} {D : List Deed3} (h : DSlotsK w T D) (ho : w.ownsRow B e s v m xs) (h1 : 9 ≠ e) (h2 : 101 ≠ e) (hg : w.grownBy w' v.ownBlock) : DSlotsK w' T D := ⟨h.1, fun i hi => (h.2 i hi).grown ho h1 h2 hg⟩
theorem DSlotsK.off {w w' : World} {b : Nat} {cs : Array Value} {t : TypeId} {T : List DSlot} {D : List Deed3} (h : DSlotsK w T D) (hb : Box w b cs t) (h1 : 9 ≠ t) (h2 : 101 ≠ t) (ho : Off b w w') : DSlotsK w' T D := ⟨h.1, fun i hi => (h.2 i hi).off hb h1 h2 ho⟩
theorem DSlotsK.are {w : World} {T : List DSlot} {D : List Deed3} (h : DSlotsK w T D) : DSlotsAre w T D := ⟨h.1, fun i hi => (h.2 i hi).1⟩
theorem DSlotsK.snoc {w : World} {T : List DSlot} {D : List Deed3} {s : DSlot} {d : Deed3} (h : DSlotsK w T D) (hs : DSlotK w s d) : DSlotsK w (T ++ [s]) (D ++ [d]) := by
  refine ⟨by simp [h.1], fun i hi => ?_⟩
  by_cases e : i < D.length
  · have e' : i < T.length := by rw [h.1]; exact e
    have := h.2 i e
    simpa [List.getD, List.getElem?_append_left e, List.getElem?_append_left e'] using this
  · have hi' : i = D.length := by simp at hi; omega
    subst hi'
    have e1 : (T ++ [s]).getD D.length default = s := by rw [← h.1]; simp [List.getD]
    have e2 : (D ++ [d]).getD D.length default = d := by simp [List.getD]
    rw [e1, e2]; exact hs

/-! ### Engines in memory of their own -/
structure EngOwn (w : World) (B : Nat) (cb : Option Addr) (cn cc : Nat) (v1 v2 v3 : Value) (e : Eng) : Prop where
  ch : ChK w cb cn cc e.chains
  de : ∃ T, w.ownsRow B 75 3 v1 e.deeds.length (flat dslotC T) ∧ DSlotsK w T e.deeds
  st : w.ownsRow B 3 1 v2 e.state.length (intsC e.state)
  en : w.ownsRow B 51 5 v3 e.ends.length (endCells e.ends)
theorem EngOwn.below {w w' : World} {B : Nat} {cb : Option Addr} {cn cc : Nat} {v1 v2 v3 : Value} {e : Eng} (h : EngOwn w B cb cn cc v1 v2 v3 e) (hb : Below w.heap.size w w') : EngOwn w' B cb cn cc v1 v2 v3 e := by
  obtain ⟨h1, ⟨T, h2, h2'⟩, h3, h4⟩ := h
  exact ⟨h1.below hb, ⟨T, owns_keep h2 hb, h2'.below hb⟩, owns_keep h3 hb, owns_keep h4 hb⟩
theorem ChK.off {w w' : World} {b : Nat} {cs : Array Value} {t : TypeId} {base : Option Addr} {n c : Nat} {L : List Chn} (h : ChK w base n c L) (hb : Box w b cs t) (h1 : 54 ≠ t) (h2 : 56 ≠ t) (ho : Off b w w') : ChK w' base n c L := by
  obtain ⟨S, hl, hk, hs⟩ := h
  exact ⟨S, Lies.off hl ho (.inr (kind_ne hb hk h1)), hk.off ho (kind_ne hb hk h1), hs.off0 hb h2 ho⟩
theorem EngOwn.put {w w' : World} {B b : Nat} {cs : Array Value} {cb : Option Addr} {cn cc : Nat} {v1 v2 v3 : Value} {e : Eng} (h : EngOwn w B cb cn cc v1 v2 v3 e) (hb : Box w b cs 33) (ho : Off b w w') : EngOwn w' B cb cn cc v1 v2 v3 e := by
  obtain ⟨h1, ⟨T, h2, h2'⟩, h3, h4⟩ := h
  exact ⟨h1.off hb (by decide) (by decide) ho, ⟨T, owns_off h2 ho (own_ne h2 hb (by decide)), h2'.off hb (by decide) (by decide) ho⟩, owns_off h3 ho (own_ne h3 hb (by decide)), owns_off h4 ho (own_ne h4 hb (by decide))⟩
/-- An engine in memory of its own is an engine in memory. -/
theorem EngOwn.lies {w : World} {B : Nat} {cb : Option Addr} {cn cc : Nat} {v1 v2 v3 : Value} {e : Eng} (h : EngOwn w B cb cn cc v1 v2 v3 e) : ∃ db dc sb sc eb ec, v1 = .slice db e.deeds.length dc ∧ v2 = .slice sb e.state.length sc ∧ v3 = .slice eb e.ends.length ec ∧ EngLies w cb cn cc db e.deeds.length dc sb e.state.length sc eb e.ends.length ec e := by
  obtain ⟨h1, ⟨T, h2, h2'⟩, h3, h4⟩ := h
  obtain ⟨db, dc, rfl, l2⟩ := Lies.owned h2
  obtain ⟨sb, sc, rfl, l3⟩ := Lies.owned h3
  obtain ⟨eb, ec, rfl, l4⟩ := Lies.owned h4
  exact ⟨db, dc, sb, sc, eb, ec, rfl, rfl, rfl, h1.chains, deeds_of_slots l2 h2'.are, l3, l4, Kind.owned h2, Kind.owned h3, Kind.owned h4⟩
/-! ### A row of an engine's own grows in place, or anew -/
end Go.Proofs.YthmkgfdglkdjmadGreatDoor
