/-
  A deed's text, put together from its front.
  A line cut off a text, and whether a text's last line has its end: the library's functions and the program's, walked.
  Own and Add of the program's plans, walked.
-/
import Derived.Test.YthmkgfdglkdjmaeGreatDoorRefForm
import Derived.Test.YthmkgfdglkdjmaeGreatDoorTextWrite
import Derived.Test.YthmkgfdglkdjmaeGreatDoorShelf
import Derived.Test.YthmkgfdglkdjmaeGreatDoorLogCut
import Derived.Test.YthmkgfdglkdjmaeGreatDoorInsAt
import Derived.Shelf.Strings.Search2
import Derived.Lib.CutLaws
import Derived.Test.YthmkgfdglkdjmaeGreatDoorRepMath
import Derived.Test.YthmkgfdglkdjmaeGreatDoorRefNew
import Derived.Deep.DeepCutAuto
import Derived.Deep.RegionWith
import Derived.Deep.RegionLaw
namespace Go.Proofs.YthmkgfdglkdjmaeGreatDoor

end Go.Proofs.YthmkgfdglkdjmaeGreatDoor

namespace Go.Proofs.YthmkgfdglkdjmaeGreatDoor
open Go.RowKit Go.Shelf

theorem feed_calls (s : ByteArray) (w : World) : Calls Tryz.prog 57 #[.string s, .string ⟨#[10]⟩] w fun e w' => e = .returned (.int .i64 (Lib.indexByte (keyT s) 10)) ∧ w' = w :=
  Any.stringslite_Index_one { lays146 with } s 10 w
theorem extract_take (s : ByteArray) (i : Nat) : s.extract 0 i = ofT ((keyT s).take i) := by
  have h := Lib.extract_eq s 0 i
  rw [h, List.drop_zero, Nat.sub_zero]
  rfl
theorem extract_drop (s : ByteArray) (i : Nat) : s.extract i s.size = ofT ((keyT s).drop i) := by
  have h := Lib.extract_eq s i s.size
  rw [h]
  have : List.take (s.size - i) (List.drop i s.data.toList) = List.drop i s.data.toList := List.take_of_length_le (by rw [List.length_drop, Array.length_toList]; exact Nat.le_refl _)
  rw [this]
  rfl
/-- What a cut answers. -/
def CutTold (s : ByteArray) (i : Nat) (e : Ending) : Prop := e = .returned (.tuple #[.string (ofT ((keyT s).take i)), .string (ofT ((keyT s).drop (i + 1))), .bool true])
set_option maxHeartbeats 2000000 in
theorem liteCut_calls (s : ByteArray) (i : Nat) (w : World) (hs : s.size ≤ maxLen) (hi : Lib.indexByte (keyT s) 10 = (i : Int)) (hl : i < s.size) :
    Calls Tryz.prog 43 #[.string s, .string ⟨#[10]⟩] w fun e w' => CutTold s i e ∧ Below w.heap.size w w' := by
  unfold maxLen at hs
  have HF := hid (feed_calls s w)
  rw [hi] at HF
  have E1 := hid (extract_take s i)
  have E2 := hid (extract_drop s (i + 1))
  have h0 : (i : Int) ≥ 0 := by omega
  have c2 : (i : Int) ≤ (s.size : Int) := by omega
  have c3 : (0 : Int) ≤ (i : Int) + 1 := by omega
  have c4 : (i : Int) + 1 ≤ (s.size : Int) := by omega
  clear hi
  go_enter Tryz.func43, Tryz.ntmps43
  go_wp2_with fail
  refine HF.out.mono ?_
  rintro e w1 ⟨rfl, rfl⟩
  go_wp2
  go_quiet (fail)
  go_wp2
  go_ret3
  exact ⟨by show _ = _; rw [E1.out, E2.out]; rfl, below_drewN (Below.refl _ _) _⟩
set_option maxHeartbeats 2000000 in
theorem cut_calls (s : ByteArray) (i : Nat) (w : World) (hs : s.size ≤ maxLen) (hi : Lib.indexByte (keyT s) 10 = (i : Int)) (hl : i < s.size) :
    Calls Tryz.prog 28 #[.string s, .string ⟨#[10]⟩] w fun e w' => CutTold s i e ∧ Below w.heap.size w w' := by
  have HC := hid (liteCut_calls s i w hs hi hl)
  unfold CutTold at HC ⊢
  generalize ofT ((keyT s).take i) = a at *
  generalize ofT ((keyT s).drop (i + 1)) = b at *
  clear hs hi hl
  go_enter Tryz.func28, Tryz.ntmps28
  go_wp2_with fail
  refine HC.out.mono ?_
  rintro e w1 ⟨rfl, hb1⟩
  have HB := hid hb1
  clear hb1
  go_wp2
  go_ret3
  exact ⟨rfl, HB.out⟩
theorem ended_last {s : ByteArray} (h : 1 ≤ s.size) : Ended (keyT s) ↔ (keyT s).drop (s.size - 1) = [10] := by
  have hl := keyT_len s
  unfold Ended
  have hne : keyT s ≠ [] := fun e => by rw [e] at hl; simp at hl; omega
  have hd : (keyT s).drop (s.size - 1) = [(keyT s).getD (s.size - 1) 0] := by
    rw [List.drop_eq_getElem_cons (by omega), show s.size - 1 + 1 = (keyT s).length from by omega, List.drop_length]
    have : s.size - 1 < (keyT s).length := by omega
    simp [List.getD, this]
  rw [hd, List.getLast?_eq_getElem?, hl]
  have h1 : s.size - 1 < (keyT s).length := by omega
  rw [List.getElem?_eq_getElem h1]
  simp [hne, List.getD, h1]
set_option maxHeartbeats 2000000 in
theorem liteSuffix_calls (s : ByteArray) (w : World) (hs : s.size ≤ maxLen) (h1 : 1 ≤ s.size) :
    Calls Tryz.prog 42 #[.string s, .string ⟨#[10]⟩] w fun e w' => (∃ b, e = .returned (.bool b) ∧ (b = true ↔ Ended (keyT s))) ∧ w' = w := by
  unfold maxLen at hs
  have HE := hid (ended_last h1)
  have E3 := hid (extract_drop s (s.size - 1))
  have c1 : (s.size : Int) ≥ 1 := by omega
  have c2 : (0 : Int) ≤ (s.size : Int) - 1 := by omega
  have c3 : ((s.size : Int) - 1) ≤ (s.size : Int) := by omega
  go_enter Tryz.func42, Tryz.ntmps42
  go_wp2
  go_ret
  refine ⟨⟨_, rfl, ?_⟩, rfl⟩
  rw [E3.out, HE.out]
  have e : ∀ l : T, ((ofT l).toList == [10]) = true ↔ l = [10] := fun l => by
    rw [beq_iff_eq, ByteArray.toList_eq]; simp [ofT]
  exact e _
set_option maxHeartbeats 2000000 in
theorem ends_calls (s : ByteArray) (w : World) (hs : s.size ≤ maxLen) :
    Calls Tryz.prog 17 #[.string s] w fun e w' => (∃ b, e = .returned (.bool b) ∧ (b = true ↔ Ended (keyT s))) ∧ w' = w := by
  by_cases h0 : s.size = 0
  · obtain rfl := size_nil h0
    go_enter Tryz.func17, Tryz.ntmps17
    go_wp2
    go_ret
    exact ⟨⟨true, rfl, fun _ => .inl rfl, fun _ => rfl⟩, rfl⟩
  · have HL := hid (liteSuffix_calls s w hs (by omega))
    have t : (s.toList == ([] : List UInt8)) = false := by
      have := streq_false (a := s) (b := ⟨#[]⟩) (fun e => h0 (by rw [e]; rfl))
      simpa using this
    go_enter Tryz.func17, Tryz.ntmps17
    go_wp2_with (first | (go_at_call 42; refine HL.out.mono ?_; rintro e w1 ⟨⟨b, rfl, hb⟩, rfl⟩) | go_in)
    go_ret
    exact ⟨⟨b, rfl, hb⟩, rfl⟩
end Go.Proofs.YthmkgfdglkdjmaeGreatDoor

namespace Go.Proofs.YthmkgfdglkdjmaeGreatDoor
open Go.RowKit

/-! ### Deeds in memory of their own -/
def DSlotK (w : World) (s : DSlot) (d : Deed3) : Prop := DSlotIs w s d ∧ Kind w 9 s.1.1 ∧ Kind w 9 s.2.1.1 ∧ Kind w 57 s.2.2.1
theorem DSlotK.below {w w' : World} {s : DSlot} {d : Deed3} (h : DSlotK w s d) (hb : Below w.heap.size w w') : DSlotK w' s d := ⟨h.1.below hb, h.2.1.below hb, h.2.2.1.below hb, h.2.2.2.below hb⟩
theorem kind_grown {w w' : World} {B e s m t : Nat} {v : Value} {xs : List Value} {base : Option Addr} (h : Kind w t base) (ho : w.ownsRow B e s v m xs) (hne : t ≠ e) (hg : w.grownBy w' v.ownBlock) : Kind w' t base := fun a ea => by
  obtain ⟨cur, z, hc⟩ := h a ea
  have h1 := own_apart (b := a.block) ho (.inr ⟨cur, z, hc⟩) hne
  exact ⟨cur, z, (hg.block _ (Array.getElem?_eq_some_iff.1 hc).1 h1).trans hc⟩
theorem lies_grownK {w w' : World} {B e s m t k : Nat} {v : Value} {xs vs : List Value} {nb : Option Addr} {nn nc : Nat} (hk0 : 0 < k) (h : Lies w k nb nn nc vs) (hk : Kind w t nb) (ho : w.ownsRow B e s v m xs) (hne : t ≠ e) (hg : w.grownBy w' v.ownBlock) : Lies w' k nb nn nc vs :=
  (h.grown hk0 (.inr (.inr hk)) ho hne hg).1
theorem DSlotK.grown {w w' : World} {B e s m : Nat} {v : Value} {xs : List Value} {sl : DSlot} {d : Deed3} (h : DSlotK w sl d) (ho : w.ownsRow B e s v m xs) (h1 : 9 ≠ e) (h2 : 57 ≠ e) (hg : w.grownBy w' v.ownBlock) : DSlotK w' sl d :=
  ⟨⟨⟨lies_grownK (by decide) h.1.1.tr h.2.1 ho h1 hg, lies_grownK (by decide) h.1.1.tw h.2.2.1 ho h1 hg, lies_grownK (by decide) h.1.1.cd h.2.2.2 ho h2 hg⟩, h.1.2⟩, kind_grown h.2.1 ho h1 hg, kind_grown h.2.2.1 ho h1 hg, kind_grown h.2.2.2 ho h2 hg⟩
theorem DSlotK.off {w w' : World} {b : Nat} {cs : Array Value} {t : TypeId} {sl : DSlot} {d : Deed3} (h : DSlotK w sl d) (hb : Box w b cs t) (h1 : 9 ≠ t) (h2 : 57 ≠ t) (ho : Off b w w') : DSlotK w' sl d :=
  ⟨⟨⟨Lies.off h.1.1.tr ho (.inr (kind_ne hb h.2.1 h1)), Lies.off h.1.1.tw ho (.inr (kind_ne hb h.2.2.1 h1)), Lies.off h.1.1.cd ho (.inr (kind_ne hb h.2.2.2 h2))⟩, h.1.2⟩, h.2.1.off ho (kind_ne hb h.2.1 h1), h.2.2.1.off ho (kind_ne hb h.2.2.1 h1), h.2.2.2.off ho (kind_ne hb h.2.2.2 h2)⟩
def DSlotsK (w : World) (T : List DSlot) (D : List Deed3) : Prop := T.length = D.length ∧ ∀ i, i < D.length → DSlotK w (T.getD i default) (D.getD i default)
theorem DSlotsK.nil (w : World) : DSlotsK w [] [] := ⟨rfl, fun _ h => absurd h (Nat.not_lt_zero _)⟩
theorem DSlotsK.below {w w' : World} {T : List DSlot} {D : List Deed3} (h : DSlotsK w T D) (hb : Below w.heap.size w w') : DSlotsK w' T D := ⟨h.1, fun i hi => (h.2 i hi).below hb⟩
theorem DSlotsK.grown {w w' : World} {B e s m : Nat} {v : Value} {xs : List Value} {T : List DSlot} {D : List Deed3} (h : DSlotsK w T D) (ho : w.ownsRow B e s v m xs) (h1 : 9 ≠ e) (h2 : 57 ≠ e) (hg : w.grownBy w' v.ownBlock) : DSlotsK w' T D := ⟨h.1, fun i hi => (h.2 i hi).grown ho h1 h2 hg⟩
theorem DSlotsK.off {w w' : World} {b : Nat} {cs : Array Value} {t : TypeId} {T : List DSlot} {D : List Deed3} (h : DSlotsK w T D) (hb : Box w b cs t) (h1 : 9 ≠ t) (h2 : 57 ≠ t) (ho : Off b w w') : DSlotsK w' T D := ⟨h.1, fun i hi => (h.2 i hi).off hb h1 h2 ho⟩
theorem DSlotsK.are {w : World} {T : List DSlot} {D : List Deed3} (h : DSlotsK w T D) : DSlotsAre w T D := ⟨h.1, fun i hi => (h.2 i hi).1⟩
theorem DSlotsK.snoc {w : World} {T : List DSlot} {D : List Deed3} {s : DSlot} {d : Deed3} (h : DSlotsK w T D) (hs : DSlotK w s d) : DSlotsK w (T ++ [s]) (D ++ [d]) := by
  refine ⟨by simp [h.1], fun i hi => ?_⟩
  by_cases e : i < D.length
  · have e' : i < T.length := by rw [h.1]; exact e
    have := h.2 i e
    simpa [List.getD, List.getElem?_append_left e, List.getElem?_append_left e'] using this
  · have hi' : i = D.length := by simp at hi; omega
    subst hi'
    have e1 : (T ++ [s]).getD D.length default = s := by rw [← h.1]; simp [List.getD]
    have e2 : (D ++ [d]).getD D.length default = d := by simp [List.getD]
    rw [e1, e2]; exact hs

/-! ### Engines in memory of their own -/
/-! ### A row of an engine's own grows in place, or anew -/
end Go.Proofs.YthmkgfdglkdjmaeGreatDoor
