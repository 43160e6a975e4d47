/-
  Chains that a call has made: each one's versions lie in memory of its own, apart from the others'.
  The document's own table of what instructions have.
  Whether two deeds are the same, by the program and by the document's answer; a copy of a deed.
  A copy of a deed.
  Whether two deeds are the same, by the program.
  How the program does a right deed.
-/
import Derived.Test.YtnbekpblmkdnlaaGreatDoorDeedTurn
import Derived.Test.YtnbekpblmkdnlaaGreatDoorOpen
import Derived.Deep.QuietTactic
import Derived.BigQuiet
import Derived.Deep.RegionHeld3
import Derived.Deep.RegionWith
namespace Go.Proofs.YtnbekpblmkdnlaaGreatDoor
open Go.RowKit

theorem chnInfo : (Tryz.prog.info? 118).map (fun i => (i.zero, i.size, i.bytes)) = some (some (.agg #[.string ByteArray.empty, .slice none 0 0]), 2, 40) := by kernel_rfl
theorem flatV_one (l : List Ver) : ∀ u ∈ flat verC l, u.oneCell' = true := flat_one verC_one l
theorem flatS_one (l : List Slot) : ∀ u ∈ flat slotC l, u.oneCell' = true := flat_one slotC_one l
abbrev OwnsV (w : World) (B : Nat) (v : Value) (l : List Ver) : Prop := w.ownsRow B 93 4 v l.length (flat verC l)
abbrev slotV (s : Slot) : Value := .slice s.2.1 s.2.2.1 s.2.2.2
structure OwnSlots (w : World) (B : Nat) (S : List Slot) (L : List Chn) : Prop where
 len : S.length = L.length
 key : ∀ i, i < L.length → (S.getD i default).1 = (L.getD i default).1 ∧ (L.getD i default).1.size ≤ maxLen
 own : ∀ i, i < L.length → OwnsV w B (slotV (S.getD i default)) (L.getD i default).2
 apart : ∀ i j, i < j → j < L.length → ∀ a, (slotV (S.getD i default)).ownBlock = some a → (slotV (S.getD j default)).ownBlock ≠ some a
theorem OwnSlots.nil (w : World) (B : Nat) : OwnSlots w B [] [] := ⟨rfl, fun _ h => absurd h (Nat.not_lt_zero _), fun _ h => absurd h (Nat.not_lt_zero _), fun _ _ _ h => absurd h (Nat.not_lt_zero _)⟩
theorem grown_below {w w' : World} (h : Below w.heap.size w w') : w.grownBy w' none := ⟨h.os, h.tape, h.output, h.size, fun k hk _ => h.block k hk⟩
theorem owns_keep {w w' : World} {B e s n : Nat} {v : Value} {xs : List Value} (h : w.ownsRow B e s v n xs) (hb : Below w.heap.size w w') : w'.ownsRow B e s v n xs :=
 h.kept (grown_below hb) (by cases v.ownBlock <;> simp)
theorem owns_lower {w : World} {B B' e s n : Nat} {v : Value} {xs : List Value} (h : w.ownsRow B e s v n xs) (hB : B' ≤ B) : w.ownsRow B' e s v n xs := by
 refine ⟨h.1, h.2.imp id ?_⟩
 rintro ⟨g, cap, cur, rfl, hb, rest⟩
 exact ⟨g, cap, cur, rfl, Nat.le_trans hB hb, rest⟩
theorem OwnSlots.below {w w' : World} {B : Nat} {S : List Slot} {L : List Chn} (h : OwnSlots w B S L) (hb : Below w.heap.size w w') : OwnSlots w' B S L :=
 ⟨h.len, h.key, fun i hi => owns_keep (h.own i hi) hb, h.apart⟩
theorem OwnSlots.grown {w w' : World} {B B' e s n : Nat} {v : Value} {xs : List Value} {S : List Slot} {L : List Chn} (h : OwnSlots w B S L) (ho : w.ownsRow B' e s v n xs) (hne : 93 ≠ e) (hg : w.grownBy w' v.ownBlock) : OwnSlots w' B S L :=
 ⟨h.len, h.key, fun i hi => (h.own i hi).kept hg (rows_apart (h.own i hi) ho hne), h.apart⟩
theorem OwnSlots.snoc {w : World} {B : Nat} {S : List Slot} {L : List Chn} {s : Slot} {x : Chn} (h : OwnSlots w B S L) (hk : s.1 = x.1) (hz : x.1.size ≤ maxLen) (ho : OwnsV w B (slotV s) x.2) (hap : ∀ i, i < L.length → ∀ a, (slotV (S.getD i default)).ownBlock = some a → (slotV s).ownBlock ≠ some a) : OwnSlots w B (S ++ [s]) (L ++ [x]) := by
 have e1 : ∀ i, i < L.length → (S ++ [s]).getD i default = S.getD i default := fun i hi => by
   have : i < S.length := by rw [h.len]; exact hi
   simp [List.getD, List.getElem?_append_left this]
 have e2 : ∀ i, i < L.length → (L ++ [x]).getD i default = L.getD i default := fun i hi => by simp [List.getD, List.getElem?_append_left hi]
 have e3 : (S ++ [s]).getD L.length default = s := by rw [← h.len]; simp [List.getD]
 have e4 : (L ++ [x]).getD L.length default = x := by simp [List.getD]
 have part : ∀ i, i < (L ++ [x]).length → i < L.length ∨ i = L.length := fun i hi => by simp at hi; omega
 refine ⟨by simp [h.len], fun i hi => ?_, fun i hi => ?_, fun i j hij hj => ?_⟩
 · rcases part i hi with h1 | rfl
   · rw [e1 i h1, e2 i h1]; exact h.key i h1
   · rw [e3, e4]; exact ⟨hk, hz⟩
 · rcases part i hi with h1 | rfl
   · rw [e1 i h1, e2 i h1]; exact h.own i h1
   · rw [e3, e4]; exact ho
 · rcases part j hj with h1 | rfl
   · rw [e1 i (by omega), e1 j h1]; exact h.apart i j hij h1
   · rw [e1 i hij, e3]; exact hap i hij
theorem OwnSlots.lt {w : World} {B : Nat} {S : List Slot} {L : List Chn} (h : OwnSlots w B S L) {i : Nat} (hi : i < L.length) {a : Nat} (ha : (slotV (S.getD i default)).ownBlock = some a) : a < w.heap.size := ((h.own i hi).lt a ha).2
theorem OwnSlots.are {w : World} {B : Nat} {S : List Slot} {L : List Chn} (h : OwnSlots w B S L) (B' : Nat) : SlotsAre w B' 93 S L := by
 refine ⟨h.len, fun i hi => ⟨(h.key i hi).1, ?_, ?_, (h.key i hi).2⟩⟩
 · obtain ⟨b, c, e, hl⟩ := Lies.owned (h.own i hi)
   simp only [Value.slice.injEq] at e
   obtain ⟨e1, e2, e3⟩ := e
   rw [e1, e2, e3]; exact hl
 · obtain ⟨b, c, e, hl⟩ := Lies.owned (h.own i hi)
   have ho := h.own i hi
   simp only [Value.slice.injEq] at e
   obtain ⟨e1, e2, e3⟩ := e
   rw [e1, e2]
   rw [slotV, e1, e2, e3] at ho
   exact Lies.kind ho B'
theorem chains_owned {w : World} {B n : Nat} {v : Value} {S : List Slot} {L : List Chn} (ho : w.ownsRow B 118 2 v n (flat slotC S)) (hs : OwnSlots w B S L) : ∃ base c, v = .slice base n c ∧ ChainsIn w base n c L := by
 obtain ⟨base, c, rfl, hl⟩ := Lies.owned ho
 exact ⟨base, c, rfl, chains_of_slots hl (hs.are B)⟩
def ChK (w : World) (base : Option Addr) (n c : Nat) (L : List Chn) : Prop := ∃ S, Lies w 2 base n c (flat slotC S) ∧ Kind w 118 base ∧ SlotsAre w 0 93 S L
theorem ChK.chains {w : World} {base : Option Addr} {n c : Nat} {L : List Chn} (h : ChK w base n c L) : ChainsIn w base n c L := by
 obtain ⟨S, hl, _, hs⟩ := h
 exact chains_of_slots hl hs
theorem ChK.below {w w' : World} {base : Option Addr} {n c : Nat} {L : List Chn} (h : ChK w base n c L) (hb : Below w.heap.size w w') : ChK w' base n c L := by
 obtain ⟨S, hl, hk, hs⟩ := h
 exact ⟨S, hl.below (by decide) hb, hk.below hb, hs.below hb⟩
theorem ChK.grown {w w' : World} {B e s m : Nat} {v : Value} {xs : List Value} {base : Option Addr} {n c : Nat} {L : List Chn} (h : ChK w base n c L) (ho : w.ownsRow B e s v m xs) (h1 : 118 ≠ e) (h2 : 93 ≠ e) (hg : w.grownBy w' v.ownBlock) : ChK w' base n c L := by
 obtain ⟨S, hl, hk, hs⟩ := h
 have h0 := owns_lower ho (Nat.zero_le _)
 have hk' : Kind w' 118 base := fun a e => by
   obtain ⟨cur, z, hc⟩ := hk a e
   have hne := own_apart (b := a.block) h0 (.inr ⟨cur, z, hc⟩) h1
   exact ⟨cur, z, (hg.block _ (Array.getElem?_eq_some_iff.1 hc).1 hne).trans hc⟩
 exact ⟨S, (hl.grown (by decide) (.inr (.inr hk)) h0 h1 hg).1, hk', hs.grown h0 h2 hg⟩
theorem chK_owned {w : World} {B n : Nat} {v : Value} {S : List Slot} {L : List Chn} (ho : w.ownsRow B 118 2 v n (flat slotC S)) (hs : SlotsAre w 0 93 S L) : ∃ base c, v = .slice base n c ∧ ChK w base n c L := by
 obtain ⟨base, c, rfl, hl⟩ := Lies.owned ho
 exact ⟨base, c, rfl, S, hl, Kind.owned ho, hs⟩
end Go.Proofs.YtnbekpblmkdnlaaGreatDoor

namespace Go.Proofs.YtnbekpblmkdnlaaGreatDoor
open Go.RowKit

def form (k : Nat) : ByteArray := match k with
 | 1 => ⟨#[114, 107]⟩
 | 2 => ⟨#[114, 110]⟩
 | 3 => ⟨#[114, 115]⟩
 | 4 => ⟨#[114, 115]⟩
 | 5 => ⟨#[114, 115]⟩
 | 6 => ⟨#[114, 107]⟩
 | 7 => ⟨#[107]⟩
 | 8 => ⟨#[114, 110]⟩
 | 9 => ⟨#[114]⟩
 | _ => ⟨#[]⟩
def letter (k : Nat) (c : Nat) : Bool := (form k).data.toList.any (fun x => decide (x.toNat = c))

set_option maxHeartbeats 4000000 in
theorem form_calls (k : Nat) (w : World) (h1 : 1 ≤ k) (h9 : k ≤ 9) :
   Calls Tryz.prog 68 #[.int .i64 k] w fun e w' => e = .returned (.string (form k)) ∧ Below w.heap.size w w' := by
 have : k = 1 ∨ k = 2 ∨ k = 3 ∨ k = 4 ∨ k = 5 ∨ k = 6 ∨ k = 7 ∨ k = 8 ∨ k = 9 := by omega
 rcases this with rfl | rfl | rfl | rfl | rfl | rfl | rfl | rfl | rfl
 all_goals
   clear h1 h9
   go_enter Tryz.func68, Tryz.ntmps68
   go_wp2
   go_ret
   exact ⟨rfl, (Below.refl _ _).alloc (Nat.le_refl _) _⟩

theorem any_snoc (l : List UInt8) (x : UInt8) (c : Nat) : (l ++ [x]).any (fun x => decide (x.toNat = c)) = (l.any (fun x => decide (x.toNat = c)) || decide (x.toNat = c)) := by simp

set_option maxHeartbeats 1000000 in
theorem refHas_calls (k c : Nat) (w : World) (h1 : 1 ≤ k) (h9 : k ≤ 9) :
   Calls Tryz.prog 40 #[.int .i64 k, .int .u8 c] w fun e w' => e = .returned (.bool (letter k c)) ∧ Below w.heap.size w w' := by
 have HF := hid (form_calls k w h1 h9)
 have hsz : (form k).size ≤ 2 := by
   have : k = 1 ∨ k = 2 ∨ k = 3 ∨ k = 4 ∨ k = 5 ∨ k = 6 ∨ k = 7 ∨ k = 8 ∨ k = 9 := by omega
   rcases this with rfl | rfl | rfl | rfl | rfl | rfl | rfl | rfl | rfl <;> decide
 have HL : Hid (letter k c = (form k).data.toList.any (fun x => decide (x.toNat = c))) := rfl
 generalize form k = s at *
 generalize letter k c = q at *
 clear h1 h9
 go_enter Tryz.func40, Tryz.ntmps40
 go_wp2_with fail
 refine HF.out.mono ?_
 rintro e w1 ⟨rfl, hb⟩
 go_wp2
 go_loop [11] (fun i => ∃ j : Nat, j ≤ s.size ∧ i = .int .i64 j ∧ Hid ((s.data.toList.take j).any (fun x => decide (x.toNat = c)) = false)) (fun i => s.size - (intOf i).toNat)
 case atStart => exact ⟨0, Nat.zero_le _, rfl, rfl⟩
 case round =>
   obtain ⟨j, hj, rfl, HA⟩ := hrel
   by_cases hlt : j < s.size
   · have HS : Hid ((s.data.toList.take (j + 1)).any (fun x => decide (x.toNat = c)) = decide (s[j].toNat = c)) := by
       show _ = _
       rw [take_snoc s j hlt, any_snoc, HA.out]; rfl
     by_cases hc : s[j].toNat = c
     · have t : ((s[j].toNat : Int) == (c : Int)) = true := by simp; omega
       have HQ : Hid (q = true) := by
         show _ = _
         rw [HL.out, ← List.take_append_drop (j + 1) s.data.toList, List.any_append, HS.out]; simp [hc]
       clear hc
       go_wp2
       go_ret
       exact ⟨ret_bool HQ.out.symm, hb⟩
     · have t : ((s[j].toNat : Int) == (c : Int)) = false := by simp; omega
       have HN : Hid ((s.data.toList.take (j + 1)).any (fun x => decide (x.toNat = c)) = false) := by
         show _ = _
         rw [HS.out]; simpa using hc
       clear hc
       go_wp2
       go_round
       case rel => exact ⟨j + 1, by omega, by go_num, HN⟩
       case measure => simp [intOf]; omega
   · go_wp2
     go_ret
     exact ⟨ret_bool (by rw [HL.out, ← HA.out, List.take_of_length_le (by simp; omega)]), hb⟩
end Go.Proofs.YtnbekpblmkdnlaaGreatDoor

namespace Go.Proofs.YtnbekpblmkdnlaaGreatDoor
open Go.RowKit

theorem take_both {α : Type} [Inhabited α] {l m : List α} {k : Nat} (h1 : k < l.length) (h2 : k < m.length) (h : l.take k = m.take k) (e : l.getD k default = m.getD k default) : l.take (k + 1) = m.take (k + 1) := by
 rw [take_snoc_getD h1, take_snoc_getD h2, h, e]
theorem first_diff {x0 x1 x2 x3 y0 y1 y2 y3 : Int} {x4 y4 : ByteArray} (h : ¬ (x0, x1, x2, x3, x4) = (y0, y1, y2, y3, y4)) : x0 ≠ y0 ∨ (x0 = y0 ∧ x1 ≠ y1) ∨ (x0 = y0 ∧ x1 = y1 ∧ x2 ≠ y2) ∨ (x0 = y0 ∧ x1 = y1 ∧ x2 = y2 ∧ x3 ≠ y3) ∨ (x0 = y0 ∧ x1 = y1 ∧ x2 = y2 ∧ x3 = y3 ∧ x4 ≠ y4) := by
 simp only [Prod.mk.injEq] at h
 by_cases e0 : x0 = y0 <;> by_cases e1 : x1 = y1 <;> by_cases e2 : x2 = y2 <;> by_cases e3 : x3 = y3 <;> simp_all
theorem ne_both {α : Type} [Inhabited α] {l m : List α} {k : Nat} (h : l.getD k default ≠ m.getD k default) : l ≠ m := fun e => h (by rw [e])

set_option maxHeartbeats 1000000 in
theorem sameTexts_calls (l m : List ByteArray) (ba : Option Addr) (na ca : Nat) (bb : Option Addr) (nb cb : Nat) (w : World) (ha : Texts w ba na ca l) (hb : Texts w bb nb cb m) :
   Calls Tryz.prog 97 #[.slice ba na ca, .slice bb nb cb] w fun e w' => e = .returned (.bool (decide (l = m))) ∧ ∃ q, w' = w.drewN q := by
 have HA := hid (Texts.count ha)
 have HB := hid (Texts.count hb)
 have hma := Nat.le_trans ha.hdr.le ha.hdr.max
 have hmb := Nat.le_trans hb.hdr.le hb.hdr.max
 unfold maxLen at hma hmb
 by_cases hne : na = nb
 · subst hne
   by_cases h0 : na = 0
   · subst h0
     have h1 : l = [] := List.eq_nil_of_length_eq_zero (by have := HA.out; omega)
     have h2 : m = [] := List.eq_nil_of_length_eq_zero (by have := HB.out; omega)
     subst h1
     subst h2
     clear ha hb
     go_enter Tryz.func97, Tryz.ntmps97
     go_wp2
     go_loop [13] (fun i => i = .int .i64 0) (fun _ => 0)
     case atStart => rfl
     case round =>
       obtain rfl := hrel
       go_wp2
       go_ret
       exact ⟨rfl, 0, rfl⟩
   rcases ha.run with h | ⟨b1, o1, rfl, h1⟩
   · exact absurd h h0
   rcases hb.run with h | ⟨b2, o2, rfl, h2⟩
   · exact absurd h h0
   have H1 := hid h1
   have H2 := hid h2
   clear h1 h2 ha hb h0
   go_enter Tryz.func97, Tryz.ntmps97
   go_wp2
   go_loopw [13] (fun i wr => ∃ k : Nat, k ≤ na ∧ i = .int .i64 k ∧ Hid (l.take k = m.take k) ∧ ∃ q, wr = w.drewN q) (fun i _ => na - (intOf i).toNat)
   case atStart => exact ⟨0, Nat.zero_le _, rfl, rfl, 0, rfl⟩
   case round =>
     obtain ⟨k, hk, rfl, HT, q, rfl⟩ := hrel
     by_cases hlt : k < na
     · have hk1 : k < l.length := by rw [← HA.out]; exact hlt
       have hk2 : k < m.length := by rw [← HB.out]; exact hlt
       have c1 := H1.out k _ (strs_at hk1)
       have c2 := H2.out k _ (strs_at hk2)
       have HS := hid (take_both hk1 hk2 HT.out)
       have HF := hid (ne_both (l := l) (m := m) (k := k))
       generalize l.getD k default = x at *
       generalize m.getD k default = y at *
       have hi : (k : Int) < (na : Int) := by omega
       by_cases he : x = y
       · subst he
         have t : (x.toList == x.toList) = true := by simp
         go_wp2
         go_quiet (fail)
         go_wp2
         go_roundw
         case rel => exact ⟨k + 1, by omega, by go_num, HS.out (by simp), _, rfl⟩
         case measure => simp [intOf]; omega
       · have t := streq_false he
         have HN := hid (HF.out he)
         clear he
         go_wp2
         go_quiet (fail)
         go_wp2
         go_ret
         exact ⟨ret_bool (by simp [HN.out]), _, World.drewN_drewN _ _ _⟩
     · obtain rfl : k = na := by omega
       have HE : Hid (l = m) := by
         show _ = _
         have := HT.out
         rwa [List.take_of_length_le (by rw [← HA.out]; exact Nat.le_refl _), List.take_of_length_le (by rw [← HB.out]; exact Nat.le_refl _)] at this
       go_wp2
       go_ret
       exact ⟨ret_bool (by simp [HE.out]), _, rfl⟩
 · have HN : Hid (l ≠ m) := fun e => hne (by rw [HA.out, HB.out, e])
   have t : ((na : Int) == (nb : Int)) = false := by simp; omega
   clear ha hb
   go_enter Tryz.func97, Tryz.ntmps97
   go_wp2
   go_ret
   exact ⟨ret_bool (by simp [HN.out]), 0, rfl⟩

end Go.Proofs.YtnbekpblmkdnlaaGreatDoor

namespace Go.Proofs.YtnbekpblmkdnlaaGreatDoor
open Go.RowKit

theorem step_copy (w : World) {ops : Array Oper} {o : Oper} {a : Act} {K : Act → World → Prop} {Q : Exit → Act → World → Prop} {E : Prop} (hgd : o.guard = none) (s x : Operand) (t e sz bytes : Nat) (z : Value)
   (hu : Tryz.prog.underlying t = some (.slice e)) (hinfo : (Tryz.prog.info? e).map (fun i => (i.zero, i.size, i.bytes)) = some (some z, sz, bytes)) (hzc : z.cells.size = sz) (hsz : 0 < sz) (hby : 0 < bytes)
   (ho : o.op = .call { callee := .builtin .append, args := #[s, x], argTypes := #[t, t] })
   (hs : a.eval s = .slice none 0 0) (base : Option Addr) (m c : Nat) (l2 : List Value) (hx : a.eval x = .slice base m c) (hh : Lies w sz base m c l2) (hone : ∀ u ∈ l2, u.oneCell' = true) (hbytes : m * bytes ≤ 140737488355328)
   (h : ∀ b' c' w', Lies w' sz b' m c' l2 → Below w.heap.size w w' → Fresh w.heap.size b' → Kind w' e b' → K (a.put o.dst (.slice b' m c')) w') : if Region.wanted o (yielded ops a.tmps) = true then Oper.wp Tryz.prog o a w K Q else E := by
 have hw : Region.wanted o (yielded ops a.tmps) = true := by simp [Region.wanted, hgd]
 rw [if_pos hw]
 obtain ⟨i0, hi, hz0, hz1, hz2⟩ := info_parts hinfo
 have hlen := hh.len
 have hown := World.ownsRow_nil w w.heap.size e sz
 have h63 : 0 + m ≤ maxLen := by
   have := Nat.le_mul_of_pos_right m hby
   unfold maxLen; omega
 have hfin : ∀ v' w', w'.ownsRow w.heap.size e sz v' (0 + m) ([] ++ l2) → w.grownBy w' (Value.slice none 0 0).ownBlock → K (a.put o.dst v') w' := fun v' w' h1 h2 => by
   simp only [Nat.zero_add, List.nil_append] at h1
   obtain ⟨b', c', rfl, hl⟩ := Lies.owned h1
   exact h b' c' w' hl ((Below.refl _ _).grown h2 (Nat.le_refl _) (fun k hk => by cases hk)) (fun ad e => (h1.lt ad.block (by rw [e]; rfl)).1) (Kind.owned h1)
 have key : ∀ ad, base = some ad → (∀ j u, l2[j]? = some u → w.cell? (ad.add j) = some u) → Oper.wp Tryz.prog o a w K Q := fun ad had hnews =>
   wp_append_own w s x t ho w.heap.size e i0 _ sz bytes hu hi hz0 hz1 hz2 hzc hsz _ 0 [] hs hown ad m c l2 (by rw [hx, had]) hlen hnews hone h63 (by simpa using hbytes) (Nat.le_refl _)
     (fun v' w' h1 h2 _ => hfin v' w' h1 h2)
 cases base with
 | some ad =>
   rcases hh.run with he | ⟨b, o', he, hc⟩
   · subst he
     have : l2 = [] := List.eq_nil_of_length_eq_zero (by omega)
     exact key ad rfl (fun j u hu => by rw [this] at hu; simp at hu)
   · cases he
     exact key _ rfl (fun j u hu => by rw [Addr.add_lit]; exact hc j u hu)
 | none =>
   obtain rfl := hh.hdr.nil rfl
   obtain rfl : m = 0 := by have := hh.hdr.le; omega
   have hl2 : l2 = [] := List.eq_nil_of_length_eq_zero (by omega)
   have hrun := run_append_owned_none (P := Tryz.prog) w w.heap.size t o.type e i0 sz hu hi _ 0 [] hown
   unfold Oper.wp
   simp [execOp, ho, resolve, invoke, builtin, hs, hx, hrun, Result.andThen]
   exact h none 0 w (by rw [hl2]; exact Lies.none _ _) (Below.refl _ _) (fresh_none _) (Kind.none _ _)

theorem insInfo : (Tryz.prog.info? 76).map (fun i => (i.zero, i.size, i.bytes)) = some (some (.agg #[.int .i64 0, .int .i64 0, .int .i64 0, .int .i64 0, .string ByteArray.empty]), 5, 48) := by kernel_rfl

theorem box_free (w : World) (vs : Array Value) (t : TypeId) (j : Nat) : w.heap.size < (w.alloc (.cells vs t)).drew.heap.size ∧ (w.alloc (.cells vs t)).drew.frozen? ⟨w.heap.size, j, none⟩ = false := ⟨by show _ < (w.alloc (.cells vs t)).heap.size; rw [World.size_alloc]; omega, World.frozen?_alloc_at _ _ _ _ rfl⟩
theorem kept_free {w w' : World} {b x : Nat} (hb : Below w.heap.size w w') (h : b < w.heap.size ∧ w.frozen? ⟨b, x, none⟩ = false) : w'.frozen? ⟨b, x, none⟩ = false := by
 rw [hb.frozen (p := ⟨b, x, none⟩) h.1]; exact h.2
theorem three_lies {w : World} {base : Option Addr} {sz n c b B : Nat} {vs : List Value} {x y z : Value} (hf : Fresh B base) (hb : b < B) (h : Lies w sz base n c vs) : Lies (((w.setCell ⟨b, 0, none⟩ x).setCell ⟨b, 1, none⟩ y).setCell ⟨b, 2, none⟩ z) sz base n c vs :=
 ((h.set hf (p := ⟨b, 0, none⟩) hb _).set hf (p := ⟨b, 1, none⟩) hb _).set hf (p := ⟨b, 2, none⟩) hb _
theorem set_off {w : World} {b i j : Nat} {u : Value} (h : i ≠ j) : (w.setCell ⟨b, i, none⟩ u).cell? ⟨b, j, none⟩ = w.cell? ⟨b, j, none⟩ := World.cell?_setCell_other _ _ _ _ (fun e => h (by cases e; rfl))
structure Three (w : World) (b : Nat) (x y z : Value) : Prop where
 c0 : w.cell? ⟨b, 0, none⟩ = some x
 c1 : w.cell? ⟨b, 1, none⟩ = some y
 c2 : w.cell? ⟨b, 2, none⟩ = some z
theorem three_cells {w : World} {b : Nat} {x y z u0 u1 u2 : Value} (h0 : w.cell? ⟨b, 0, none⟩ = some u0) (h1 : w.cell? ⟨b, 1, none⟩ = some u1) (h2 : w.cell? ⟨b, 2, none⟩ = some u2) : Three (((w.setCell ⟨b, 0, none⟩ x).setCell ⟨b, 1, none⟩ y).setCell ⟨b, 2, none⟩ z) b x y z := by
 refine ⟨?_, ?_, ?_⟩
 · rw [set_off (by decide), set_off (by decide)]
   exact World.cell?_setCell_same _ _ _ h0
 · rw [set_off (by decide)]
   exact World.cell?_setCell_same _ _ _ (by rw [set_off (by decide)]; exact h1)
 · exact World.cell?_setCell_same _ _ _ (by rw [set_off (by decide), set_off (by decide)]; exact h2)
theorem own_results (tmps : Array Value) (b : Nat) (w : World) {x y z : Value} (h2 : tmps.getD 2 undef = .pointer (some ⟨b, 0, none⟩)) (h : Three w b x y z) (hx : ∃ p q r, x = .slice p q r) (hy : ∃ p q r, y = .slice p q r) (hz : ∃ p q r, z = .slice p q r) :
   (results Tryz.f73 tmps).run Tryz.prog w = .ok (.agg #[x, y, z]) w := by
 have h2' : tmps[2]?.getD undef = .pointer (some ⟨b, 0, none⟩) := by simpa using h2
 obtain ⟨_, _, _, rfl⟩ := hx
 obtain ⟨_, _, _, rfl⟩ := hy
 obtain ⟨_, _, _, rfl⟩ := hz
 simp [results, Tryz.results73, go_sem, h2', h.c0, h.c1, h.c2]
theorem held4 {a b c d : Prop} (h : a ∧ b ∧ c ∧ d) : d := h.2.2.2
theorem box_keep {A w1 w2 : World} {b : Nat} {x y z : Value} (h : w1.cell? ⟨b, 0, none⟩ = some x ∧ w1.cell? ⟨b, 1, none⟩ = some y ∧ w1.cell? ⟨b, 2, none⟩ = some z ∧ Below A.heap.size A w1) (hb : Below w1.heap.size w1 w2) :
   w2.cell? ⟨b, 0, none⟩ = some x ∧ w2.cell? ⟨b, 1, none⟩ = some y ∧ w2.cell? ⟨b, 2, none⟩ = some z ∧ Below A.heap.size A w2 :=
 ⟨kept_cell hb h.1, kept_cell hb h.2.1, kept_cell hb h.2.2.1, below_deep h.2.2.2 hb⟩

theorem three_keep {w0 w1 : World} {b n : Nat} {x y z u0 u1 u2 : Value} (h : w1.cell? ⟨b, 0, none⟩ = some x ∧ w1.cell? ⟨b, 1, none⟩ = some y ∧ w1.cell? ⟨b, 2, none⟩ = some z ∧ Below w0.heap.size w0 w1) (hn : n ≠ b) (hB : w0.heap.size ≤ n) :
   (((w1.setCell ⟨n, 0, none⟩ u0).setCell ⟨n, 1, none⟩ u1).setCell ⟨n, 2, none⟩ u2).cell? ⟨b, 0, none⟩ = some x ∧ (((w1.setCell ⟨n, 0, none⟩ u0).setCell ⟨n, 1, none⟩ u1).setCell ⟨n, 2, none⟩ u2).cell? ⟨b, 1, none⟩ = some y ∧
   (((w1.setCell ⟨n, 0, none⟩ u0).setCell ⟨n, 1, none⟩ u1).setCell ⟨n, 2, none⟩ u2).cell? ⟨b, 2, none⟩ = some z ∧ Below w0.heap.size w0 (((w1.setCell ⟨n, 0, none⟩ u0).setCell ⟨n, 1, none⟩ u1).setCell ⟨n, 2, none⟩ u2) := by
 refine ⟨?_, ?_, ?_, ((h.2.2.2.setCell (p := ⟨n, 0, none⟩) hB _).setCell (p := ⟨n, 1, none⟩) hB _).setCell (p := ⟨n, 2, none⟩) hB _⟩
 · rw [World.cell?_setCell_far _ _ _ _ hn, World.cell?_setCell_far _ _ _ _ hn, World.cell?_setCell_far _ _ _ _ hn]; exact h.1
 · rw [World.cell?_setCell_far _ _ _ _ hn, World.cell?_setCell_far _ _ _ _ hn, World.cell?_setCell_far _ _ _ _ hn]; exact h.2.1
 · rw [World.cell?_setCell_far _ _ _ _ hn, World.cell?_setCell_far _ _ _ _ hn, World.cell?_setCell_far _ _ _ _ hn]; exact h.2.2.1

set_option maxHeartbeats 4000000 in
theorem own_callsK (R W : List ByteArray) (C : List Ins) (rb : Option Addr) (rn rc : Nat) (wb : Option Addr) (wn wc : Nat) (cb : Option Addr) (cn cc : Nat) (w : World) (hd : DeedIn w rb rn rc wb wn wc cb cn cc R W C)
   (h1 : rn * 16 ≤ 140737488355328) (h2 : wn * 16 ≤ 140737488355328) (h3 : cn * 48 ≤ 140737488355328) :
   Calls Tryz.prog 73 #[.agg #[.slice rb rn rc, .slice wb wn wc, .slice cb cn cc]] w fun e w' =>
     ∃ rb' rc' wb' wc' cb' cc', e = .returned (.agg #[.slice rb' rn rc', .slice wb' wn wc', .slice cb' cn cc']) ∧ DeedIn w' rb' rn rc' wb' wn wc' cb' cn cc' R W C ∧ Below w.heap.size w w' ∧ Kind w' 9 rb' ∧ Kind w' 9 wb' ∧ Kind w' 76 cb' := by
 obtain ⟨A, hA⟩ : ∃ A, A = (w.alloc (.cells #[.slice rb rn rc, .slice wb wn wc, .slice cb cn cc] 52)).alloc (.cells #[.slice none 0 0, .slice none 0 0, .slice none 0 0] 52) := ⟨_, rfl⟩
 have hb0 : Below w.heap.size w A := by rw [hA]; exact (((Below.refl _ _).alloc (Nat.le_refl _) _).alloc (by simp) _)
 have HD := hid hd
 have HB0 := hid hb0
 have H1 := hid h1
 have H2 := hid h2
 have H3 := hid h3
 clear hd hb0 h1 h2 h3
 subst hA
 go_enter Tryz.func73, Tryz.ntmps73
 go_wp2
 go_region_held3 (fun w' => w'.cell? ⟨w.heap.size, 0, none⟩ = some (.slice rb rn rc) ∧ w'.cell? ⟨w.heap.size, 1, none⟩ = some (.slice wb wn wc) ∧ w'.cell? ⟨w.heap.size, 2, none⟩ = some (.slice cb cn cc) ∧ Below w.heap.size w w')
   (first
     | exact ⟨kept_cell (Below.refl _ _).drew (box_past _ (box_cell w _ 52 0 (.slice rb rn rc) rfl)), kept_cell (Below.refl _ _).drew (box_past _ (box_cell w _ 52 1 (.slice wb wn wc) rfl)), kept_cell (Below.refl _ _).drew (box_past _ (box_cell w _ 52 2 (.slice cb cn cc) rfl)), HB0.out.drew⟩
     | exact box_keep (by assumption) (by assumption)
     | exact three_keep (by assumption) (by omega) (by omega))
   (first
     | (refine step_copy _ rfl _ _ 49 9 1 16 _ Tryz.underlying49 strInfo rfl (by decide) (by decide) rfl rfl rb rn rc _ rfl ?_ (strs_one R) H1.out ?_; exact HD.out.tr.below (by decide) (held4 (by assumption)); intro b1 c1 w1 hl1 hb1 hf1 hk1)
     | (refine step_copy _ rfl _ _ 49 9 1 16 _ Tryz.underlying49 strInfo rfl (by decide) (by decide) rfl rfl wb wn wc _ rfl ?_ (strs_one W) H2.out ?_; exact HD.out.tw.below (by decide) (held4 (by assumption)); intro b2 c2 w2 hl2 hb2 hf2 hk2)
     | (refine step_copy _ rfl _ _ 50 76 5 48 _ Tryz.underlying50 insInfo rfl (by decide) (by decide) rfl rfl cb cn cc _ rfl ?_ (insCells_one C) H3.out ?_; exact HD.out.cd.below (by decide) (held4 (by assumption)); intro b3 c3 w3 hl3 hb3 hf3 hk3; have hbb := below_deep (below_deep hb1 hb2) hb3; have g0 := kept_cell hbb (box_cell (w.alloc (.cells #[.slice rb rn rc, .slice wb wn wc, .slice cb cn cc] 52)) #[.slice none 0 0, .slice none 0 0, .slice none 0 0] 52 0 (.slice none 0 0) rfl); have g1 := kept_cell hbb (box_cell (w.alloc (.cells #[.slice rb rn rc, .slice wb wn wc, .slice cb cn cc] 52)) #[.slice none 0 0, .slice none 0 0, .slice none 0 0] 52 1 (.slice none 0 0) rfl); have g2 := kept_cell hbb (box_cell (w.alloc (.cells #[.slice rb rn rc, .slice wb wn wc, .slice cb cn cc] 52)) #[.slice none 0 0, .slice none 0 0, .slice none 0 0] 52 2 (.slice none 0 0) rfl); rw [World.size_alloc] at g0 g1 g2; have f0 := kept_free hbb (box_free (w.alloc (.cells #[.slice rb rn rc, .slice wb wn wc, .slice cb cn cc] 52)) #[.slice none 0 0, .slice none 0 0, .slice none 0 0] 52 0); have f1 := kept_free hbb (box_free (w.alloc (.cells #[.slice rb rn rc, .slice wb wn wc, .slice cb cn cc] 52)) #[.slice none 0 0, .slice none 0 0, .slice none 0 0] 52 1); have f2 := kept_free hbb (box_free (w.alloc (.cells #[.slice rb rn rc, .slice wb wn wc, .slice cb cn cc] 52)) #[.slice none 0 0, .slice none 0 0, .slice none 0 0] 52 2); rw [World.size_alloc] at f0 f1 f2))
 have e1 : w.heap.size + 1 < (((w.alloc (.cells #[.slice rb rn rc, .slice wb wn wc, .slice cb cn cc] 52)).alloc (.cells #[.slice none 0 0, .slice none 0 0, .slice none 0 0] 52)).drew).heap.size := by
   show _ < ((w.alloc (.cells #[.slice rb rn rc, .slice wb wn wc, .slice cb cn cc] 52)).alloc (.cells #[.slice none 0 0, .slice none 0 0, .slice none 0 0] 52)).heap.size
   rw [World.size_alloc, World.size_alloc]; omega
 have e2 := Nat.lt_of_lt_of_le e1 hb1.size
 have e3 := Nat.lt_of_lt_of_le e2 hb2.size
 have HL1 := hid (three_lies (x := .slice b1 rn c1) (y := .slice b2 wn c2) (z := .slice b3 cn c3) hf1 e1 ((hl1.below (by decide) hb2).below (by decide) hb3))
 have HL2 := hid (three_lies (x := .slice b1 rn c1) (y := .slice b2 wn c2) (z := .slice b3 cn c3) hf2 e2 (hl2.below (by decide) hb3))
 have HL3 := hid (three_lies (x := .slice b1 rn c1) (y := .slice b2 wn c2) (z := .slice b3 cn c3) hf3 e3 hl3)
 have HBE := hid (below_deep (below_deep (below_deep HB0.out.drew hb1) hb2) hb3)
 have HK1 := hid ((hk1.below hb2).below hb3)
 have HK2 := hid (hk2.below hb3)
 have HK3 := hid hk3
 have HG := hid (three_cells (x := .slice b1 rn c1) (y := .slice b2 wn c2) (z := .slice b3 cn c3) g0 g1 g2)
 go_wp2
 (try simp only [Exit.inBlock, Exit.then])
 refine bodyPost_ret (own_results _ (w.heap.size + 1) _ rfl HG.out ⟨_, _, _, rfl⟩ ⟨_, _, _, rfl⟩ ⟨_, _, _, rfl⟩) rfl ?_
 exact ⟨b1, c1, b2, c2, b3, c3, rfl, ⟨HL1.out, HL2.out, HL3.out⟩, ((HBE.out.setCell (p := ⟨w.heap.size + 1, 0, none⟩) (by simp) _).setCell (p := ⟨w.heap.size + 1, 1, none⟩) (by simp) _).setCell (p := ⟨w.heap.size + 1, 2, none⟩) (by simp) _, ((HK1.out.set _ _).set _ _).set _ _, ((HK2.out.set _ _).set _ _).set _ _, ((HK3.out.set _ _).set _ _).set _ _⟩
end Go.Proofs.YtnbekpblmkdnlaaGreatDoor

namespace Go.Proofs.YtnbekpblmkdnlaaGreatDoor
open Go.RowKit

end Go.Proofs.YtnbekpblmkdnlaaGreatDoor

namespace Go.Proofs.YtnbekpblmkdnlaaGreatDoor
open Go.RowKit

structure Regs (w : World) (s : Nat) (r : Nat → Int) : Prop where
 at_ : ∀ i, i < 4 → w.cell? ⟨s, i, none⟩ = some (.int .i64 (r i))
 free : ∀ i, i < 4 → w.frozen? ⟨s, i, none⟩ = false
theorem Regs.lt {w : World} {s : Nat} {r : Nat → Int} (h : Regs w s r) : s < w.heap.size := by simpa using World.block_lt_of_cell? _ _ (h.at_ 0 (by decide))
theorem Regs.deep {w w' : World} {s B : Nat} {r : Nat → Int} (h : Regs w s r) (hb : Below B w w') (hB : s < B) : Regs w' s r :=
 ⟨fun i hi => by rw [hb.cell (p := ⟨s, i, none⟩) hB]; exact h.at_ i hi, fun i hi => by rw [hb.frozen (p := ⟨s, i, none⟩) hB]; exact h.free i hi⟩
theorem Regs.set {w : World} {s : Nat} {r : Nat → Int} (h : Regs w s r) {a : Nat} (ha : a < 4) (x : Int) : Regs (w.setCell ⟨s, a, none⟩ (.int .i64 x)) s (setR r a x) := by
 refine ⟨fun i hi => ?_, fun i hi => by rw [World.frozen?_setCell]; exact h.free i hi⟩
 by_cases e : i = a
 · subst e
   rw [World.cell?_setCell_same _ _ _ (h.at_ i hi)]; simp [setR]
 · rw [World.cell?_setCell_other _ _ _ _ (fun x => e (by cases x; rfl)), h.at_ i hi]; simp [setR, e]
theorem Regs.alloc {w : World} {s : Nat} {r : Nat → Int} (h : Regs w s r) (o : Obj) : Regs (w.alloc o) s r := h.deep (B := w.heap.size) ((Below.refl _ _).alloc (Nat.le_refl _) _) h.lt

structure Keeps (w wr : World) (q : Nat) (r : Nat → Int) (m : Made) : Prop where
 regs : Regs wr w.heap.size r
 place : wr.cell? ⟨w.heap.size + 2, 0, none⟩ = some (.map (some (w.heap.size + 1)))
 map : MapIs wr (w.heap.size + 1) q (verMap m)
 old : Below w.heap.size w wr
theorem Keeps.deep {w wr wr' : World} {q : Nat} {r : Nat → Int} {m : Made} (h : Keeps w wr q r m) (hb : Below wr.heap.size wr wr') : Keeps w wr' q r m :=
 ⟨h.regs.deep hb h.regs.lt, kept_cell hb h.place, h.map.deep hb, h.old.trans (hb.mono (Nat.le_of_lt h.regs.lt))⟩
theorem Keeps.set {w wr : World} {q : Nat} {r : Nat → Int} {m : Made} (h : Keeps w wr q r m) {a : Nat} (ha : a < 4) (x : Int) : Keeps w (wr.setCell ⟨w.heap.size, a, none⟩ (.int .i64 x)) q (setR r a x) m :=
 ⟨h.regs.set ha x, by rw [World.cell?_setCell_other _ _ _ _ (fun e => by have := congrArg Addr.block e; simp at this)]; exact h.place, h.map.setCell (by simp) _, h.old.setCell (Nat.le_refl _) _⟩
theorem Keeps.put {w wr w2 : World} {q : Nat} {r : Nat → Int} {m : Made} {k : ByteArray} {o : Option Int} (h : Keeps w wr q r m) (hm : MapIs w2 (w.heap.size + 1) (q + 1) (fun j => if j = k then some (verVal o) else verMap m j)) (hg : wr.grownBy w2 (some (w.heap.size + 1))) : Keeps w w2 (q + 1) r (setM m k o) := by
 have hlt := h.regs.lt
 have hpl : w.heap.size + 2 < wr.heap.size := by simpa using World.block_lt_of_cell? _ _ h.place
 have hb0 := hg.block w.heap.size (by omega) (by simp)
 have hb2 := hg.block (w.heap.size + 2) (by omega) (by simp)
 refine ⟨⟨fun i hi => ?_, fun i hi => ?_⟩, ?_, ?_, ⟨hg.os.trans h.old.os, hg.tape.trans h.old.tape, hg.output.trans h.old.output, Nat.le_trans h.old.size hg.size, fun j hj => (hg.block j (by omega) (by simp; omega)).trans (h.old.block j hj)⟩⟩
 · rw [World.cell?_of_block (w := wr) (a := ⟨w.heap.size, i, none⟩) hb0]; exact h.regs.at_ i hi
 · rw [World.frozen?_of_block (w := wr) (a := ⟨w.heap.size, i, none⟩) hb0]; exact h.regs.free i hi
 · rw [World.cell?_of_block (w := wr) (a := ⟨w.heap.size + 2, 0, none⟩) hb2]; exact h.place
 · rw [verMap_set]; exact hm
theorem result_cell {w1 wr : World} {b : Nat} (hb : Below w1.heap.size w1 wr) (h : ∀ j, j < 5 → w1.frozen? ⟨b, j, none⟩ = false ∧ ∃ u, w1.cell? ⟨b, j, none⟩ = some u) (j : Nat) (hj : j < 5) : wr.frozen? ⟨b, j, none⟩ = false ∧ ∃ u, wr.cell? ⟨b, j, none⟩ = some u := by
 obtain ⟨h1, u, h2⟩ := h j hj
 have hlt : b < w1.heap.size := by simpa using World.block_lt_of_cell? _ _ h2
 rw [hb.frozen (p := ⟨b, j, none⟩) hlt, hb.cell (p := ⟨b, j, none⟩) hlt]
 exact ⟨h1, u, h2⟩
def five (w : World) (b : Nat) (f : Bool) (x0 x1 x2 x3 : Int) : World :=
 ((((w.setCell ⟨b, 0, none⟩ (.bool f)).setCell ⟨b, 1, none⟩ (.int .i64 x0)).setCell ⟨b, 2, none⟩ (.int .i64 x1)).setCell ⟨b, 3, none⟩ (.int .i64 x2)).setCell ⟨b, 4, none⟩ (.int .i64 x3)
theorem set_other {w : World} {b i j : Nat} {u : Value} (h : i ≠ j) : (w.setCell ⟨b, i, none⟩ u).cell? ⟨b, j, none⟩ = w.cell? ⟨b, j, none⟩ := World.cell?_setCell_other _ _ _ _ (fun e => h (by cases e; rfl))
structure Five (w : World) (b : Nat) (f : Bool) (x0 x1 x2 x3 : Int) : Prop where
 c0 : w.cell? ⟨b, 0, none⟩ = some (.bool f)
 c1 : w.cell? ⟨b, 1, none⟩ = some (.int .i64 x0)
 c2 : w.cell? ⟨b, 2, none⟩ = some (.int .i64 x1)
 c3 : w.cell? ⟨b, 3, none⟩ = some (.int .i64 x2)
 c4 : w.cell? ⟨b, 4, none⟩ = some (.int .i64 x3)
theorem five_cells {w : World} {b : Nat} {f : Bool} {x0 x1 x2 x3 : Int} (h : ∀ j, j < 5 → ∃ u, w.cell? ⟨b, j, none⟩ = some u) : Five (five w b f x0 x1 x2 x3) b f x0 x1 x2 x3 := by
 obtain ⟨t0, e0⟩ := h 0 (by decide)
 obtain ⟨t1, e1⟩ := h 1 (by decide)
 obtain ⟨t2, e2⟩ := h 2 (by decide)
 obtain ⟨t3, e3⟩ := h 3 (by decide)
 obtain ⟨t4, e4⟩ := h 4 (by decide)
 unfold five
 refine ⟨?_, ?_, ?_, ?_, ?_⟩
 · rw [set_other (by decide), set_other (by decide), set_other (by decide), set_other (by decide)]
   exact World.cell?_setCell_same _ _ _ e0
 · rw [set_other (by decide), set_other (by decide), set_other (by decide)]
   exact World.cell?_setCell_same _ _ _ (by rw [set_other (by decide)]; exact e1)
 · rw [set_other (by decide), set_other (by decide)]
   exact World.cell?_setCell_same _ _ _ (by rw [set_other (by decide), set_other (by decide)]; exact e2)
 · rw [set_other (by decide)]
   exact World.cell?_setCell_same _ _ _ (by rw [set_other (by decide), set_other (by decide), set_other (by decide)]; exact e3)
 · exact World.cell?_setCell_same _ _ _ (by rw [set_other (by decide), set_other (by decide), set_other (by decide), set_other (by decide)]; exact e4)
theorem five_below {w w' : World} {b B : Nat} (f : Bool) (x0 x1 x2 x3 : Int) (hB : B ≤ b) (h : Below B w w') : Below B w (five w' b f x0 x1 x2 x3) :=
 ((((h.setCell (p := ⟨b, 0, none⟩) hB _).setCell (p := ⟨b, 1, none⟩) hB _).setCell (p := ⟨b, 2, none⟩) hB _).setCell (p := ⟨b, 3, none⟩) hB _).setCell (p := ⟨b, 4, none⟩) hB _
theorem five_lies {w : World} {base : Option Addr} {sz n c b B : Nat} {vs : List Value} {f : Bool} {x0 x1 x2 x3 : Int} (hf : Fresh B base) (hb : b < B) (h : Lies w sz base n c vs) : Lies (five w b f x0 x1 x2 x3) sz base n c vs :=
 ((((h.set hf (p := ⟨b, 0, none⟩) hb _).set hf (p := ⟨b, 1, none⟩) hb _).set hf (p := ⟨b, 2, none⟩) hb _).set hf (p := ⟨b, 3, none⟩) hb _).set hf (p := ⟨b, 4, none⟩) hb _
theorem run_results (tmps : Array Value) (b : Nat) (w : World) {f : Bool} {x0 x1 x2 x3 : Int} (h4 : tmps.getD 4 undef = .pointer (some ⟨b, 0, none⟩)) (h : Five w b f x0 x1 x2 x3) :
   (results Tryz.f90 tmps).run Tryz.prog w = .ok (.tuple #[.agg #[.bool f, .int .i64 x0, .int .i64 x1, .int .i64 x2, .int .i64 x3], tmps.getD 5 undef, tmps.getD 6 undef]) w := by
 have h4' : tmps[4]?.getD undef = .pointer (some ⟨b, 0, none⟩) := by simpa using h4
 simp [results, Tryz.results90, go_sem, h4', h.c0, h.c1, h.c2, h.c3, h.c4]
theorem result_box {wr : World} {b n : Nat} {o : Obj} (h : ∀ j, j < 5 → wr.frozen? ⟨b, j, none⟩ = false ∧ ∃ u, wr.cell? ⟨b, j, none⟩ = some u) : ∀ j, j < 5 → ∃ u, ((wr.alloc o).drewN n).cell? ⟨b, j, none⟩ = some u := fun j hj => by
 obtain ⟨_, u, h2⟩ := h j hj
 exact ⟨u, cell_drewN n (cell_past o h2)⟩
theorem grow_box {w : World} {o : Obj} (n : Nat) : Below w.heap.size w ((w.alloc o).drewN n) := below_drewN ((Below.refl _ _).alloc (Nat.le_refl _) _) n
theorem Keeps.start (w : World) (t u : Nat) : Keeps w (((w.alloc (.cells #[.int .i64 0, .int .i64 0, .int .i64 0, .int .i64 0] t)).alloc (.map #[] 0)).alloc (.cells #[.map (some (w.heap.size + 1))] u)) 0 (fun _ => 0) (fun _ => none) := by
 have hreg : Regs (w.alloc (.cells #[.int .i64 0, .int .i64 0, .int .i64 0, .int .i64 0] t)) w.heap.size (fun _ => 0) := by
   refine ⟨fun i hi => ?_, fun i _ => World.frozen?_alloc_at _ _ _ _ rfl⟩
   rw [World.cell?_alloc_at _ _ _ _ rfl]
   have : i = 0 ∨ i = 1 ∨ i = 2 ∨ i = 3 := by omega
   rcases this with rfl | rfl | rfl | rfl <;> rfl
 refine ⟨(hreg.alloc _).alloc _, ?_, ?_, (((Below.refl _ _).alloc (Nat.le_refl _) _).alloc (by simp) _).alloc (by simp; omega) _⟩
 · rw [World.cell?_alloc_at _ _ _ _ (by simp)]; rfl
 · have := (MapIs.made (w.alloc (.cells #[.int .i64 0, .int .i64 0, .int .i64 0, .int .i64 0] t))).alloc (.cells #[.map (some (w.heap.size + 1))] u)
   rw [World.size_alloc] at this
   exact this.ext fun k => rfl


def Ran (w w' : World) (v : ByteArray → Int) (W : List ByteArray) (C : List Ins) (e : Ending) : Prop :=
 ∃ (r : Nat → Int) (m : Made) (f : Bool) (vb : Option Addr) (vn vc : Nat) (kb : Option Addr) (kn kc : Nat), exec v C 0 zeroR zeroM = (r, m, f) ∧
   e = .returned (.tuple #[.agg #[.bool f, .int .i64 (r 0), .int .i64 (r 1), .int .i64 (r 2), .int .i64 (r 3)], .slice vb vn vc, .slice kb kn kc]) ∧
   Lies w' 4 vb vn vc (verCells (if f then [] else vers m W)) ∧ Texts w' kb kn kc (keysOf (if f then [] else vers m W)) ∧ Below w.heap.size w w'

set_option maxHeartbeats 4000000 in
set_option maxRecDepth 100000 in
theorem run_calls (R W : List ByteArray) (C : List Ins) (rb : Option Addr) (rn rc : Nat) (wb : Option Addr) (wn wc : Nat) (cb : Option Addr) (cn cc : Nat) (F : Nat) (caps : Array Value) (v : ByteArray → Int) (w : World)
   (hd : DeedIn w rb rn rc wb wn wc cb cn cc R W C) (hr : SmallT R) (hw : SmallT W) (hright : wDeed R W C = 0) (hcf : Entered F) (hv : ∀ k, k ∈ R → Tells w F caps k (v k)) :
   Calls Tryz.prog 90 #[.agg #[.slice rb rn rc, .slice wb wn wc, .slice cb cn cc], .func (.func F) #[] caps] w fun e w' => Ran w w' v W C e := by
 have hmf : ∀ (fn : Fn) (first cap : Array Value) (w : World), (Instr.makeFunc fn first cap).run Tryz.prog w = .ok (.func fn first cap) w := fun _ _ _ _ => rfl
 have hmm := @run_makeMap Tryz.prog
 have HRT := hid (right_deed hright)
 have hn := Codes.count hd.cd
 have hc12 : cn ≤ 12 := by rw [hn]; exact HRT.out.c
 have HD := hid hd
 have HN := hid hn
 have HV := hid hv
 have HCF := hid hcf
 have HSR := hid hr
 have HSW := hid hw
 have HW := hid (fun W' hb => wrongDeed_calls R W C rb rn rc wb wn wc cb cn cc W' (hd.below hb) hr hw)
 rw [hright] at HW
 clear hd hr hw hright hcf hv hn
 go_enter Tryz.func90, Tryz.ntmps90
 go_wp2_with fail
 refine (HW.out _ ((((Below.refl _ _).alloc (Nat.le_refl _) _).alloc (by simp) _).alloc (by simp; omega) _)).mono ?_
 rintro e w1 ⟨rfl, hb1⟩
 have x0 := kept_cell hb1 (box_past _ (box_past _ (box_cell w _ 52 0 (.slice rb rn rc) rfl)))
 have x1 := kept_cell hb1 (box_past _ (box_past _ (box_cell w _ 52 1 (.slice wb wn wc) rfl)))
 have x2 := kept_cell hb1 (box_past _ (box_past _ (box_cell w _ 52 2 (.slice cb cn cc) rfl)))
 have y0 := kept_cell hb1 (box_past _ (box_cell (w.alloc _) _ 144 0 (.func (.func F) #[] caps) rfl))
 have z : ∀ j, j < 5 → w1.frozen? ⟨w.heap.size + 2, j, none⟩ = false ∧ ∃ u, w1.cell? ⟨w.heap.size + 2, j, none⟩ = some u := by
   intro j hj
   have hlt : (w.heap.size + 2) < (((w.alloc (.cells #[.slice rb rn rc, .slice wb wn wc, .slice cb cn cc] 52)).alloc (.cells #[.func (.func F) #[] caps] 144)).alloc (.cells #[.bool false, .int .i64 0, .int .i64 0, .int .i64 0, .int .i64 0] 98)).heap.size := by simp
   rw [hb1.frozen (p := ⟨w.heap.size + 2, j, none⟩) hlt, hb1.cell (p := ⟨w.heap.size + 2, j, none⟩) hlt]
   rw [World.frozen?_alloc_at _ _ _ _ (by simp), World.cell?_alloc_at _ _ _ _ (by simp)]
   refine ⟨rfl, ?_⟩
   have : j = 0 ∨ j = 1 ∨ j = 2 ∨ j = 3 ∨ j = 4 := by omega
   rcases this with rfl | rfl | rfl | rfl | rfl <;> exact ⟨_, rfl⟩
 rw [World.size_alloc] at y0
 have HX := hid (And.intro x0 (And.intro x1 (And.intro x2 y0)))
 have HZ := hid z
 have HB1 := hid (below_deep ((((Below.refl _ w).alloc (Nat.le_refl _) _).alloc (by simp) _).alloc (by simp; omega) _) hb1)
 have hsz : w.heap.size + 3 ≤ w1.heap.size := by have := hb1.size; simp at this; omega
 clear x0 x1 x2 y0 z hb1 HW
 go_wp2_with fail
 go_loopw [10] (fun i wr => ∃ (k q : Nat) (r : Nat → Int) (m : Made), k ≤ cn ∧ q ≤ k ∧ i = .int .i64 k ∧ Hid (exec v (C.drop k) 0 r m = exec v C 0 zeroR zeroM) ∧ Hid (Keeps w1 wr q r m)) (fun i _ => cn - (intOf i).toNat)
 case atStart => exact ⟨0, 0, _, _, Nat.zero_le _, Nat.le_refl _, rfl, rfl, Keeps.start _ _ _⟩
 case round =>
   obtain ⟨k, q, r, m, hk, hq, rfl, HE, HK⟩ := hrel
   have HD1 := hid ((HD.out.below HB1.out).below HK.out.old)
   have z1 := kept_cell HK.out.old HX.out.2.1
   have z2 := kept_cell HK.out.old HX.out.2.2.1
   have z3 := kept_cell HK.out.old HX.out.2.2.2
   have hszr : w1.heap.size + 3 ≤ wr.heap.size := by
     have := World.block_lt_of_cell? _ _ HK.out.place
     simp at this; omega
   have l0 : w1.heap.size < wr.heap.size := by omega
   have l1 : w1.heap.size + 1 + 1 < wr.heap.size := by omega
   have l2 : w.heap.size < wr.heap.size := by omega
   have l3 : w.heap.size + 1 < wr.heap.size := by omega
   have l4 : w.heap.size + 1 + 1 < wr.heap.size := by omega
   by_cases hlt : k < cn
   · have hkl : k < C.length := by rw [← HN.out]; exact hlt
     have hi : (k : Int) < (cn : Int) := by omega
     have HI := hid (right_instr (HRT.out.i k hkl))
     rw [← HN.out] at HI
     rw [drop_at hkl] at HE
     rcases HD1.out.cd.run with h | ⟨b, o, rfl, h1⟩
     · omega
     have hbw : b < wr.heap.size := h1.lt (by rw [insCells_length]; omega)
     obtain ⟨c0, c1, c2, c3, c4⟩ := Codes.cells h1 hkl
     clear h1
     rcases hx : C.getD k default with ⟨kd, a, bb, nn, sk⟩
     rw [hx] at c0 c1 c2 c3 c4 HI HE
     clear hx
     simp only [Ins.kind, Ins.a, Ins.b, Ins.n, Ins.key] at c0 c1 c2 c3 c4
     obtain ⟨a, rfl⟩ : ∃ a' : Nat, a = a' := ⟨a.toNat, by have := HI.out.a0; simp [Ins.a] at this; omega⟩
     obtain ⟨bb, rfl⟩ : ∃ b' : Nat, bb = b' := ⟨bb.toNat, by have := HI.out.b0; simp [Ins.b] at this; omega⟩
     have ha : (a : Int) < 4 := by have := HI.out.a4; simpa [Ins.a] using this
     have hbb : (bb : Int) < 4 := by have := HI.out.b4; simpa [Ins.b] using this
     have ra := HK.out.regs.at_ a (by omega)
     have rbv := HK.out.regs.at_ bb (by omega)
     have fa := HK.out.regs.free a (by omega)
     have hkd : kd = 1 ∨ kd = 2 ∨ kd = 3 ∨ kd = 4 ∨ kd = 5 ∨ kd = 6 ∨ kd = 7 ∨ kd = 8 ∨ kd = 9 := by
       have h1 := HI.out.lo
       have h2 := HI.out.hi
       simp only [Ins.kind] at h1 h2
       omega
     rcases hkd with rfl | rfl | rfl | rfl | rfl | rfl | rfl | rfl | rfl
     · have HE2 : Hid (exec v (C.drop (k + 1)) 0 (setR r a (look v m sk)) m = exec v C 0 zeroR zeroM) := by
         show _ = _
         rw [← HE.out]; simp [exec, Ins.kind, Ins.a, Ins.key]
       have hin := has_iff.1 (HI.out.load rfl)
       simp only [Ins.key] at hin
       have HHC := hid (fun W' (hb : Below wr.heap.size wr W') => has_calls F caps sk v m (w1.heap.size + 1 + 1) 0 q (w.heap.size + 1) 0 (w1.heap.size + 1) W' HCF.out (HSR.out _ hin) ((HV.out sk hin).below (below_deep HB1.out (below_deep HK.out.old hb))) (HK.out.deep hb).place (kept_cell hb z3) (HK.out.deep hb).map)
       clear hin
       go_wp2
       go_quiet (fail)
       go_wp2
       go_region_with (go_at_call 106; refine (HHC.out _ (grow_box _)).mono ?_; rintro e w2 ⟨rfl, hb2⟩; have p1 := kept_cell hb2 (cell_drewN _ (box_cell wr _ 76 1 (.int .i64 a) rfl)); have HK2 := hid (HK.out.deep (below_deep (grow_box _) hb2)); have p2 := HK2.out.regs.at_ a (by omega); have p3 := HK2.out.regs.free a (by omega); clear hb2)
       all_goals
         go_wp2
         go_roundw
         case rel => exact ⟨k + 1, q, _, _, by omega, by omega, by go_num, HE2, HK2.out.set (by omega) _⟩
         case measure => simp [intOf]; omega
     · have HE2 : Hid (exec v (C.drop (k + 1)) 0 (setR r a nn) m = exec v C 0 zeroR zeroM) := by
         show _ = _
         rw [← HE.out]; simp [exec, Ins.kind, Ins.a, Ins.n]
       go_wp2
       go_quiet (fail)
       go_wp2
       go_roundw
       case rel => exact ⟨k + 1, q, _, _, by omega, by omega, by go_num, HE2, (HK.out.deep (grow_box _)).set (by omega) _⟩
       case measure => simp [intOf]; omega
     · have HE2 : Hid (exec v (C.drop (k + 1)) 0 (setR r a (rnd (r a + r bb))) m = exec v C 0 zeroR zeroM) := by
         show _ = _
         rw [← HE.out]; simp [exec, Ins.kind, Ins.a, Ins.b]
       go_wp2
       go_quiet (fail)
       go_wp2
       go_region_with (go_at_call 108; refine (round_calls _ _).mono ?_; rintro e w2 ⟨rfl, rfl⟩)
       all_goals
         go_wp2
         go_roundw
         case rel => exact ⟨k + 1, q, _, _, by omega, by omega, by go_num, HE2, (HK.out.deep (grow_box _)).set (by omega) _⟩
         case measure => simp [intOf]; omega
     · have HE2 : Hid (exec v (C.drop (k + 1)) 0 (setR r a (rnd (r a - r bb))) m = exec v C 0 zeroR zeroM) := by
         show _ = _
         rw [← HE.out]; simp [exec, Ins.kind, Ins.a, Ins.b]
       go_wp2
       go_quiet (fail)
       go_wp2
       go_region_with (go_at_call 108; refine (round_calls _ _).mono ?_; rintro e w2 ⟨rfl, rfl⟩)
       all_goals
         go_wp2
         go_roundw
         case rel => exact ⟨k + 1, q, _, _, by omega, by omega, by go_num, HE2, (HK.out.deep (grow_box _)).set (by omega) _⟩
         case measure => simp [intOf]; omega
     · have HE2 : Hid (exec v (C.drop (k + 1)) 0 (setR r a (rnd (r a * r bb))) m = exec v C 0 zeroR zeroM) := by
         show _ = _
         rw [← HE.out]; simp [exec, Ins.kind, Ins.a, Ins.b]
       go_wp2
       go_quiet (fail)
       go_wp2
       go_region_with (go_at_call 108; refine (round_calls _ _).mono ?_; rintro e w2 ⟨rfl, rfl⟩)
       all_goals
         go_wp2
         go_roundw
         case rel => exact ⟨k + 1, q, _, _, by omega, by omega, by go_num, HE2, (HK.out.deep (grow_box _)).set (by omega) _⟩
         case measure => simp [intOf]; omega
     · have HE2 : Hid (exec v (C.drop (k + 1)) 0 r (setM m sk (some (r a))) = exec v C 0 zeroR zeroM) := by
         show _ = _
         rw [← HE.out]; simp [exec, Ins.kind, Ins.a, Ins.key]
       have hin := has_iff.1 (HI.out.write (by simp [Ins.kind]))
       simp only [Ins.key] at hin
       have HSK := hid (HSW.out _ hin)
       have HQ : Hid (q < maxLen) := by show _ < _; unfold maxLen; omega
       have p0 := HK.out.place
       clear hin
       go_wp2
       go_quiet (fail)
       rename_i nq
       have HMM := hid (HK.out.deep (grow_box (o := .cells #[.int .i64 6, .int .i64 a, .int .i64 bb, .int .i64 nn, .string sk] 76) nq)).map
       go_wp2_with (at_mapUpdate; refine wpList_put _ rfl _ _ _ 145 rfl 93 Tryz.underlying145 (w1.heap.size + 1) q (verMap m) rfl HMM.out HQ.out sk HSK.out (.agg #[.int .i64 0, .bool true, .bool true, .int .i64 (r a)]) rfl rfl ?_)
       intro w2 hm2 hg2
       have HK2 := hid ((HK.out.deep (grow_box _)).put (o := some (r a)) hm2 hg2)
       clear hm2 hg2
       go_wp2
       go_roundw
       case rel => exact ⟨k + 1, q + 1, _, _, by omega, by omega, by go_num, HE2, HK2⟩
       case measure => simp [intOf]; omega
     · have HE2 : Hid (exec v (C.drop (k + 1)) 0 r (setM m sk none) = exec v C 0 zeroR zeroM) := by
         show _ = _
         rw [← HE.out]; simp [exec, Ins.kind, Ins.key]
       have hin := has_iff.1 (HI.out.write (by simp [Ins.kind]))
       simp only [Ins.key] at hin
       have HSK := hid (HSW.out _ hin)
       have HQ : Hid (q < maxLen) := by show _ < _; unfold maxLen; omega
       have p0 := HK.out.place
       clear hin
       go_wp2
       go_quiet (fail)
       rename_i nq
       have HMM := hid (HK.out.deep (grow_box (o := .cells #[.int .i64 7, .int .i64 a, .int .i64 bb, .int .i64 nn, .string sk] 76) nq)).map
       go_wp2_with (at_mapUpdate; refine wpList_put _ rfl _ _ _ 145 rfl 93 Tryz.underlying145 (w1.heap.size + 1) q (verMap m) rfl HMM.out HQ.out sk HSK.out (.agg #[.int .i64 0, .bool true, .bool false, .int .i64 0]) rfl rfl ?_)
       intro w2 hm2 hg2
       have HK2 := hid ((HK.out.deep (grow_box _)).put (o := none) hm2 hg2)
       clear hm2 hg2
       go_wp2
       go_roundw
       case rel => exact ⟨k + 1, q + 1, _, _, by omega, by omega, by go_num, HE2, HK2⟩
       case measure => simp [intOf]; omega
     · have HE2 : Hid (exec v (C.drop (k + 1)) (if r a ≤ 0 then nn.toNat else 0) r m = exec v C 0 zeroR zeroM) := by
         show _ = _
         rw [← HE.out]; simp [exec, Ins.kind, Ins.a, Ins.n]
       have hsk := HI.out.skip rfl
       simp only [Ins.n] at hsk
       by_cases h0 : r a ≤ 0
       · rw [if_pos h0, exec_drop, List.drop_drop] at HE2
         obtain ⟨nn, rfl⟩ : ∃ n' : Nat, nn = n' := ⟨nn.toNat, by omega⟩
         have HE3 : Hid (exec v (C.drop (k + nn + 1)) 0 r m = exec v C 0 zeroR zeroM) := by
           show _ = _
           rw [← HE2.out]; congr 2; simp; omega
         go_wp2
         go_quiet (fail)
         go_wp2
         go_roundw
         case rel => exact ⟨k + nn + 1, q, _, _, by omega, by omega, by go_num, HE3, HK.out.deep (grow_box _)⟩
         case measure => simp [intOf]; omega
       · rw [if_neg h0] at HE2
         go_wp2
         go_quiet (fail)
         go_wp2
         go_roundw
         case rel => exact ⟨k + 1, q, _, _, by omega, by omega, by go_num, HE2, HK.out.deep (grow_box _)⟩
         case measure => simp [intOf]; omega
     · by_cases h0 : r a < 0
       · have HE2 : Hid (exec v C 0 zeroR zeroM = (r, m, true)) := by
           show _ = _
           rw [← HE.out]; simp [exec, Ins.kind, Ins.a, h0]
         have d0 := HK.out.regs.at_ 0 (by decide)
         have d1 := HK.out.regs.at_ 1 (by decide)
         have d2 := HK.out.regs.at_ 2 (by decide)
         have d3 := HK.out.regs.at_ 3 (by decide)
         obtain ⟨f0, t0, e0⟩ := result_cell HK.out.old HZ.out 0 (by decide)
         obtain ⟨f1, t1, e1⟩ := result_cell HK.out.old HZ.out 1 (by decide)
         obtain ⟨f2, t2, e2⟩ := result_cell HK.out.old HZ.out 2 (by decide)
         obtain ⟨f3, t3, e3⟩ := result_cell HK.out.old HZ.out 3 (by decide)
         obtain ⟨f4, t4, e4⟩ := result_cell HK.out.old HZ.out 4 (by decide)
         have HZR := hid (result_cell HK.out.old HZ.out)
         go_wp2
         go_quiet (fail)
         go_wp2
         (try simp only [Exit.inBlock, Exit.then])
         refine bodyPost_ret (run_results _ (w.heap.size + 1 + 1) _ rfl (five_cells (result_box HZR.out))) rfl ?_
         exact ⟨r, m, true, none, 0, 0, none, 0, 0, HE2.out, rfl, Lies.none _ _, Lies.none _ _, five_below _ _ _ _ _ (by omega) (below_deep (below_deep HB1.out HK.out.old) (grow_box _))⟩
       · have HE2 : Hid (exec v (C.drop (k + 1)) 0 r m = exec v C 0 zeroR zeroM) := by
           show _ = _
           rw [← HE.out]; simp [exec, Ins.kind, Ins.a, h0]
         go_wp2
         go_quiet (fail)
         go_wp2
         go_roundw
         case rel => exact ⟨k + 1, q, _, _, by omega, by omega, by go_num, HE2, HK.out.deep (grow_box _)⟩
         case measure => simp [intOf]; omega
   · obtain rfl : k = cn := by omega
     have HE2 : Hid (exec v C 0 zeroR zeroM = (r, m, false)) := by
       show _ = _
       rw [← HE.out, List.drop_eq_nil_of_le (by rw [← HN.out]; exact Nat.le_refl _)]; rfl
     have p0 := HK.out.place
     have HTN := hid (inTurn_calls m W (w1.heap.size + 1) q wb wn wc wr HK.out.map HD1.out.tw (wKeys_len HRT.out.w) HSW.out)
     go_wp2_with fail
     refine HTN.out.mono ?_
     rintro e w2 ⟨vb, vn, vc, kb, kn, kc, rfl, hl1, hl2, hf1, hf2, hb2⟩
     have HK2 := hid (HK.out.deep hb2)
     have d0 := HK2.out.regs.at_ 0 (by decide)
     have d1 := HK2.out.regs.at_ 1 (by decide)
     have d2 := HK2.out.regs.at_ 2 (by decide)
     have d3 := HK2.out.regs.at_ 3 (by decide)
     obtain ⟨f0, t0, e0⟩ := result_cell HK2.out.old HZ.out 0 (by decide)
     obtain ⟨f1, t1, e1⟩ := result_cell HK2.out.old HZ.out 1 (by decide)
     obtain ⟨f2, t2, e2⟩ := result_cell HK2.out.old HZ.out 2 (by decide)
     obtain ⟨f3, t3, e3⟩ := result_cell HK2.out.old HZ.out 3 (by decide)
     obtain ⟨f4, t4, e4⟩ := result_cell HK2.out.old HZ.out 4 (by decide)
     have HZR := hid (result_cell HK2.out.old HZ.out)
     have HL1 := hid hl1
     have HL2 := hid hl2
     have HF1 := hid hf1
     have HF2 := hid hf2
     have HB2 := hid (below_deep (below_deep HB1.out HK.out.old) hb2)
     clear hl1 hl2 hb2 hf1 hf2
     go_wp2
     (try simp only [Exit.inBlock, Exit.then])
     refine bodyPost_ret (run_results _ (w.heap.size + 1 + 1) _ rfl (five_cells (fun j hj => (HZR.out j hj).2))) rfl ?_
     exact ⟨r, m, false, vb, vn, vc, kb, kn, kc, HE2.out, rfl, five_lies HF1.out (by omega) HL1.out, five_lies HF2.out (by omega) HL2.out, five_below _ _ _ _ _ (by omega) HB2.out⟩
end Go.Proofs.YtnbekpblmkdnlaaGreatDoor
