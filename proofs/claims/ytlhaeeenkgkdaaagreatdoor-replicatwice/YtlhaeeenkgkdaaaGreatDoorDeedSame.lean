/-
  Chains that a call has made: each one's versions lie in memory of its own, apart from the others'.
  The document's own table of what instructions have.
  Whether two deeds are the same, by the program and by the document's answer; a copy of a deed.
  A copy of a deed.
  Whether two deeds are the same, by the program.
-/
import Derived.Test.YtlhaeeenkgkdaaaGreatDoorChainsIn
import Derived.Test.YtlhaeeenkgkdaaaGreatDoorDeedTurn
import Derived.Test.YtlhaeeenkgkdaaaGreatDoorOpen
import Derived.Deep.QuietTactic
import Derived.BigQuiet
import Derived.Deep.RegionHeld3
namespace Go.Proofs.YtlhaeeenkgkdaaaGreatDoor
open Go.RowKit

theorem chnInfo : (Tryz.prog.info? 115).map (fun i => (i.zero, i.size, i.bytes)) = some (some (.agg #[.string ByteArray.empty, .slice none 0 0]), 2, 40) := by kernel_rfl
theorem flatV_one (l : List Ver) : ∀ u ∈ flat verC l, u.oneCell' = true := flat_one verC_one l
theorem flatS_one (l : List Slot) : ∀ u ∈ flat slotC l, u.oneCell' = true := flat_one slotC_one l
abbrev OwnsV (w : World) (B : Nat) (v : Value) (l : List Ver) : Prop := w.ownsRow B 78 4 v l.length (flat verC l)
abbrev slotV (s : Slot) : Value := .slice s.2.1 s.2.2.1 s.2.2.2
structure OwnSlots (w : World) (B : Nat) (S : List Slot) (L : List Chn) : Prop where
 len : S.length = L.length
 key : ∀ i, i < L.length → (S.getD i default).1 = (L.getD i default).1 ∧ (L.getD i default).1.size ≤ maxLen
 own : ∀ i, i < L.length → OwnsV w B (slotV (S.getD i default)) (L.getD i default).2
 apart : ∀ i j, i < j → j < L.length → ∀ a, (slotV (S.getD i default)).ownBlock = some a → (slotV (S.getD j default)).ownBlock ≠ some a
theorem OwnSlots.nil (w : World) (B : Nat) : OwnSlots w B [] [] := ⟨rfl, fun _ h => absurd h (Nat.not_lt_zero _), fun _ h => absurd h (Nat.not_lt_zero _), fun _ _ _ h => absurd h (Nat.not_lt_zero _)⟩
theorem grown_below {w w' : World} (h : Below w.heap.size w w') : w.grownBy w' none := ⟨h.os, h.tape, h.output, h.size, fun k hk _ => h.block k hk⟩
theorem owns_keep {w w' : World} {B e s n : Nat} {v : Value} {xs : List Value} (h : w.ownsRow B e s v n xs) (hb : Below w.heap.size w w') : w'.ownsRow B e s v n xs :=
 h.kept (grown_below hb) (by cases v.ownBlock <;> simp)
theorem owns_lower {w : World} {B B' e s n : Nat} {v : Value} {xs : List Value} (h : w.ownsRow B e s v n xs) (hB : B' ≤ B) : w.ownsRow B' e s v n xs := by
 refine ⟨h.1, h.2.imp id ?_⟩
 rintro ⟨g, cap, cur, rfl, hb, rest⟩
 exact ⟨g, cap, cur, rfl, Nat.le_trans hB hb, rest⟩
theorem OwnSlots.below {w w' : World} {B : Nat} {S : List Slot} {L : List Chn} (h : OwnSlots w B S L) (hb : Below w.heap.size w w') : OwnSlots w' B S L :=
 ⟨h.len, h.key, fun i hi => owns_keep (h.own i hi) hb, h.apart⟩
theorem OwnSlots.grown {w w' : World} {B B' e s n : Nat} {v : Value} {xs : List Value} {S : List Slot} {L : List Chn} (h : OwnSlots w B S L) (ho : w.ownsRow B' e s v n xs) (hne : 78 ≠ e) (hg : w.grownBy w' v.ownBlock) : OwnSlots w' B S L :=
 ⟨h.len, h.key, fun i hi => (h.own i hi).kept hg (rows_apart (h.own i hi) ho hne), h.apart⟩
theorem OwnSlots.snoc {w : World} {B : Nat} {S : List Slot} {L : List Chn} {s : Slot} {x : Chn} (h : OwnSlots w B S L) (hk : s.1 = x.1) (hz : x.1.size ≤ maxLen) (ho : OwnsV w B (slotV s) x.2) (hap : ∀ i, i < L.length → ∀ a, (slotV (S.getD i default)).ownBlock = some a → (slotV s).ownBlock ≠ some a) : OwnSlots w B (S ++ [s]) (L ++ [x]) := by
 have e1 : ∀ i, i < L.length → (S ++ [s]).getD i default = S.getD i default := fun i hi => by
   have : i < S.length := by rw [h.len]; exact hi
   simp [List.getD, List.getElem?_append_left this]
 have e2 : ∀ i, i < L.length → (L ++ [x]).getD i default = L.getD i default := fun i hi => by simp [List.getD, List.getElem?_append_left hi]
 have e3 : (S ++ [s]).getD L.length default = s := by rw [← h.len]; simp [List.getD]
 have e4 : (L ++ [x]).getD L.length default = x := by simp [List.getD]
 have part : ∀ i, i < (L ++ [x]).length → i < L.length ∨ i = L.length := fun i hi => by simp at hi; omega
 refine ⟨by simp [h.len], fun i hi => ?_, fun i hi => ?_, fun i j hij hj => ?_⟩
 · rcases part i hi with h1 | rfl
   · rw [e1 i h1, e2 i h1]; exact h.key i h1
   · rw [e3, e4]; exact ⟨hk, hz⟩
 · rcases part i hi with h1 | rfl
   · rw [e1 i h1, e2 i h1]; exact h.own i h1
   · rw [e3, e4]; exact ho
 · rcases part j hj with h1 | rfl
   · rw [e1 i (by omega), e1 j h1]; exact h.apart i j hij h1
   · rw [e1 i hij, e3]; exact hap i hij
theorem OwnSlots.lt {w : World} {B : Nat} {S : List Slot} {L : List Chn} (h : OwnSlots w B S L) {i : Nat} (hi : i < L.length) {a : Nat} (ha : (slotV (S.getD i default)).ownBlock = some a) : a < w.heap.size := ((h.own i hi).lt a ha).2
theorem OwnSlots.are {w : World} {B : Nat} {S : List Slot} {L : List Chn} (h : OwnSlots w B S L) (B' : Nat) : SlotsAre w B' 78 S L := by
 refine ⟨h.len, fun i hi => ⟨(h.key i hi).1, ?_, ?_, (h.key i hi).2⟩⟩
 · obtain ⟨b, c, e, hl⟩ := Lies.owned (h.own i hi)
   simp only [Value.slice.injEq] at e
   obtain ⟨e1, e2, e3⟩ := e
   rw [e1, e2, e3]; exact hl
 · obtain ⟨b, c, e, hl⟩ := Lies.owned (h.own i hi)
   have ho := h.own i hi
   simp only [Value.slice.injEq] at e
   obtain ⟨e1, e2, e3⟩ := e
   rw [e1, e2]
   rw [slotV, e1, e2, e3] at ho
   exact Lies.kind ho B'
theorem chains_owned {w : World} {B n : Nat} {v : Value} {S : List Slot} {L : List Chn} (ho : w.ownsRow B 115 2 v n (flat slotC S)) (hs : OwnSlots w B S L) : ∃ base c, v = .slice base n c ∧ ChainsIn w base n c L := by
 obtain ⟨base, c, rfl, hl⟩ := Lies.owned ho
 exact ⟨base, c, rfl, chains_of_slots hl (hs.are B)⟩
def ChK (w : World) (base : Option Addr) (n c : Nat) (L : List Chn) : Prop := ∃ S, Lies w 2 base n c (flat slotC S) ∧ Kind w 115 base ∧ SlotsAre w 0 78 S L
theorem ChK.chains {w : World} {base : Option Addr} {n c : Nat} {L : List Chn} (h : ChK w base n c L) : ChainsIn w base n c L := by
 obtain ⟨S, hl, _, hs⟩ := h
 exact chains_of_slots hl hs
theorem ChK.below {w w' : World} {base : Option Addr} {n c : Nat} {L : List Chn} (h : ChK w base n c L) (hb : Below w.heap.size w w') : ChK w' base n c L := by
 obtain ⟨S, hl, hk, hs⟩ := h
 exact ⟨S, hl.below (by decide) hb, hk.below hb, hs.below hb⟩
theorem ChK.grown {w w' : World} {B e s m : Nat} {v : Value} {xs : List Value} {base : Option Addr} {n c : Nat} {L : List Chn} (h : ChK w base n c L) (ho : w.ownsRow B e s v m xs) (h1 : 115 ≠ e) (h2 : 78 ≠ e) (hg : w.grownBy w' v.ownBlock) : ChK w' base n c L := by
 obtain ⟨S, hl, hk, hs⟩ := h
 have h0 := owns_lower ho (Nat.zero_le _)
 have hk' : Kind w' 115 base := fun a e => by
   obtain ⟨cur, z, hc⟩ := hk a e
   have hne := own_apart (b := a.block) h0 (.inr ⟨cur, z, hc⟩) h1
   exact ⟨cur, z, (hg.block _ (Array.getElem?_eq_some_iff.1 hc).1 hne).trans hc⟩
 exact ⟨S, (hl.grown (by decide) (.inr (.inr hk)) h0 h1 hg).1, hk', hs.grown h0 h2 hg⟩
theorem chK_owned {w : World} {B n : Nat} {v : Value} {S : List Slot} {L : List Chn} (ho : w.ownsRow B 115 2 v n (flat slotC S)) (hs : SlotsAre w 0 78 S L) : ∃ base c, v = .slice base n c ∧ ChK w base n c L := by
 obtain ⟨base, c, rfl, hl⟩ := Lies.owned ho
 exact ⟨base, c, rfl, S, hl, Kind.owned ho, hs⟩
end Go.Proofs.YtlhaeeenkgkdaaaGreatDoor

namespace Go.Proofs.YtlhaeeenkgkdaaaGreatDoor
open Go.RowKit

def form (k : Nat) : ByteArray := match k with
 | 1 => ⟨#[114, 107]⟩
 | 2 => ⟨#[114, 110]⟩
 | 3 => ⟨#[114, 115]⟩
 | 4 => ⟨#[114, 115]⟩
 | 5 => ⟨#[114, 115]⟩
 | 6 => ⟨#[114, 107]⟩
 | 7 => ⟨#[107]⟩
 | 8 => ⟨#[114, 110]⟩
 | 9 => ⟨#[114]⟩
 | _ => ⟨#[]⟩
def letter (k : Nat) (c : Nat) : Bool := (form k).data.toList.any (fun x => decide (x.toNat = c))

set_option maxHeartbeats 4000000 in
theorem form_calls (k : Nat) (w : World) (h1 : 1 ≤ k) (h9 : k ≤ 9) :
   Calls Tryz.prog 61 #[.int .i64 k] w fun e w' => e = .returned (.string (form k)) ∧ Below w.heap.size w w' := by
 have : k = 1 ∨ k = 2 ∨ k = 3 ∨ k = 4 ∨ k = 5 ∨ k = 6 ∨ k = 7 ∨ k = 8 ∨ k = 9 := by omega
 rcases this with rfl | rfl | rfl | rfl | rfl | rfl | rfl | rfl | rfl
 all_goals
   clear h1 h9
   go_enter Tryz.func61, Tryz.ntmps61
   go_wp2
   go_ret
   exact ⟨rfl, (Below.refl _ _).alloc (Nat.le_refl _) _⟩

theorem any_snoc (l : List UInt8) (x : UInt8) (c : Nat) : (l ++ [x]).any (fun x => decide (x.toNat = c)) = (l.any (fun x => decide (x.toNat = c)) || decide (x.toNat = c)) := by simp

set_option maxHeartbeats 1000000 in
theorem refHas_calls (k c : Nat) (w : World) (h1 : 1 ≤ k) (h9 : k ≤ 9) :
   Calls Tryz.prog 36 #[.int .i64 k, .int .u8 c] w fun e w' => e = .returned (.bool (letter k c)) ∧ Below w.heap.size w w' := by
 have HF := hid (form_calls k w h1 h9)
 have hsz : (form k).size ≤ 2 := by
   have : k = 1 ∨ k = 2 ∨ k = 3 ∨ k = 4 ∨ k = 5 ∨ k = 6 ∨ k = 7 ∨ k = 8 ∨ k = 9 := by omega
   rcases this with rfl | rfl | rfl | rfl | rfl | rfl | rfl | rfl | rfl <;> decide
 have HL : Hid (letter k c = (form k).data.toList.any (fun x => decide (x.toNat = c))) := rfl
 generalize form k = s at *
 generalize letter k c = q at *
 clear h1 h9
 go_enter Tryz.func36, Tryz.ntmps36
 go_wp2_with fail
 refine HF.out.mono ?_
 rintro e w1 ⟨rfl, hb⟩
 go_wp2
 go_loop [11] (fun i => ∃ j : Nat, j ≤ s.size ∧ i = .int .i64 j ∧ Hid ((s.data.toList.take j).any (fun x => decide (x.toNat = c)) = false)) (fun i => s.size - (intOf i).toNat)
 case atStart => exact ⟨0, Nat.zero_le _, rfl, rfl⟩
 case round =>
   obtain ⟨j, hj, rfl, HA⟩ := hrel
   by_cases hlt : j < s.size
   · have HS : Hid ((s.data.toList.take (j + 1)).any (fun x => decide (x.toNat = c)) = decide (s[j].toNat = c)) := by
       show _ = _
       rw [take_snoc s j hlt, any_snoc, HA.out]; rfl
     by_cases hc : s[j].toNat = c
     · have t : ((s[j].toNat : Int) == (c : Int)) = true := by simp; omega
       have HQ : Hid (q = true) := by
         show _ = _
         rw [HL.out, ← List.take_append_drop (j + 1) s.data.toList, List.any_append, HS.out]; simp [hc]
       clear hc
       go_wp2
       go_ret
       exact ⟨ret_bool HQ.out.symm, hb⟩
     · have t : ((s[j].toNat : Int) == (c : Int)) = false := by simp; omega
       have HN : Hid ((s.data.toList.take (j + 1)).any (fun x => decide (x.toNat = c)) = false) := by
         show _ = _
         rw [HS.out]; simpa using hc
       clear hc
       go_wp2
       go_round
       case rel => exact ⟨j + 1, by omega, by go_num, HN⟩
       case measure => simp [intOf]; omega
   · go_wp2
     go_ret
     exact ⟨ret_bool (by rw [HL.out, ← HA.out, List.take_of_length_le (by simp; omega)]), hb⟩
end Go.Proofs.YtlhaeeenkgkdaaaGreatDoor

namespace Go.Proofs.YtlhaeeenkgkdaaaGreatDoor
open Go.RowKit

theorem take_both {α : Type} [Inhabited α] {l m : List α} {k : Nat} (h1 : k < l.length) (h2 : k < m.length) (h : l.take k = m.take k) (e : l.getD k default = m.getD k default) : l.take (k + 1) = m.take (k + 1) := by
 rw [take_snoc_getD h1, take_snoc_getD h2, h, e]
theorem first_diff {x0 x1 x2 x3 y0 y1 y2 y3 : Int} {x4 y4 : ByteArray} (h : ¬ (x0, x1, x2, x3, x4) = (y0, y1, y2, y3, y4)) : x0 ≠ y0 ∨ (x0 = y0 ∧ x1 ≠ y1) ∨ (x0 = y0 ∧ x1 = y1 ∧ x2 ≠ y2) ∨ (x0 = y0 ∧ x1 = y1 ∧ x2 = y2 ∧ x3 ≠ y3) ∨ (x0 = y0 ∧ x1 = y1 ∧ x2 = y2 ∧ x3 = y3 ∧ x4 ≠ y4) := by
 simp only [Prod.mk.injEq] at h
 by_cases e0 : x0 = y0 <;> by_cases e1 : x1 = y1 <;> by_cases e2 : x2 = y2 <;> by_cases e3 : x3 = y3 <;> simp_all
theorem ne_both {α : Type} [Inhabited α] {l m : List α} {k : Nat} (h : l.getD k default ≠ m.getD k default) : l ≠ m := fun e => h (by rw [e])

set_option maxHeartbeats 1000000 in
theorem sameTexts_calls (l m : List ByteArray) (ba : Option Addr) (na ca : Nat) (bb : Option Addr) (nb cb : Nat) (w : World) (ha : Texts w ba na ca l) (hb : Texts w bb nb cb m) :
   Calls Tryz.prog 93 #[.slice ba na ca, .slice bb nb cb] w fun e w' => e = .returned (.bool (decide (l = m))) ∧ ∃ q, w' = w.drewN q := by
 have HA := hid (Texts.count ha)
 have HB := hid (Texts.count hb)
 have hma := Nat.le_trans ha.hdr.le ha.hdr.max
 have hmb := Nat.le_trans hb.hdr.le hb.hdr.max
 unfold maxLen at hma hmb
 by_cases hne : na = nb
 · subst hne
   by_cases h0 : na = 0
   · subst h0
     have h1 : l = [] := List.eq_nil_of_length_eq_zero (by have := HA.out; omega)
     have h2 : m = [] := List.eq_nil_of_length_eq_zero (by have := HB.out; omega)
     subst h1
     subst h2
     clear ha hb
     go_enter Tryz.func93, Tryz.ntmps93
     go_wp2
     go_loop [13] (fun i => i = .int .i64 0) (fun _ => 0)
     case atStart => rfl
     case round =>
       obtain rfl := hrel
       go_wp2
       go_ret
       exact ⟨rfl, 0, rfl⟩
   rcases ha.run with h | ⟨b1, o1, rfl, h1⟩
   · exact absurd h h0
   rcases hb.run with h | ⟨b2, o2, rfl, h2⟩
   · exact absurd h h0
   have H1 := hid h1
   have H2 := hid h2
   clear h1 h2 ha hb h0
   go_enter Tryz.func93, Tryz.ntmps93
   go_wp2
   go_loopw [13] (fun i wr => ∃ k : Nat, k ≤ na ∧ i = .int .i64 k ∧ Hid (l.take k = m.take k) ∧ ∃ q, wr = w.drewN q) (fun i _ => na - (intOf i).toNat)
   case atStart => exact ⟨0, Nat.zero_le _, rfl, rfl, 0, rfl⟩
   case round =>
     obtain ⟨k, hk, rfl, HT, q, rfl⟩ := hrel
     by_cases hlt : k < na
     · have hk1 : k < l.length := by rw [← HA.out]; exact hlt
       have hk2 : k < m.length := by rw [← HB.out]; exact hlt
       have c1 := H1.out k _ (strs_at hk1)
       have c2 := H2.out k _ (strs_at hk2)
       have HS := hid (take_both hk1 hk2 HT.out)
       have HF := hid (ne_both (l := l) (m := m) (k := k))
       generalize l.getD k default = x at *
       generalize m.getD k default = y at *
       have hi : (k : Int) < (na : Int) := by omega
       by_cases he : x = y
       · subst he
         have t : (x.toList == x.toList) = true := by simp
         go_wp2
         go_quiet (fail)
         go_wp2
         go_roundw
         case rel => exact ⟨k + 1, by omega, by go_num, HS.out (by simp), _, rfl⟩
         case measure => simp [intOf]; omega
       · have t := streq_false he
         have HN := hid (HF.out he)
         clear he
         go_wp2
         go_quiet (fail)
         go_wp2
         go_ret
         exact ⟨ret_bool (by simp [HN.out]), _, World.drewN_drewN _ _ _⟩
     · obtain rfl : k = na := by omega
       have HE : Hid (l = m) := by
         show _ = _
         have := HT.out
         rwa [List.take_of_length_le (by rw [← HA.out]; exact Nat.le_refl _), List.take_of_length_le (by rw [← HB.out]; exact Nat.le_refl _)] at this
       go_wp2
       go_ret
       exact ⟨ret_bool (by simp [HE.out]), _, rfl⟩
 · have HN : Hid (l ≠ m) := fun e => hne (by rw [HA.out, HB.out, e])
   have t : ((na : Int) == (nb : Int)) = false := by simp; omega
   clear ha hb
   go_enter Tryz.func93, Tryz.ntmps93
   go_wp2
   go_ret
   exact ⟨ret_bool (by simp [HN.out]), 0, rfl⟩

end Go.Proofs.YtlhaeeenkgkdaaaGreatDoor

namespace Go.Proofs.YtlhaeeenkgkdaaaGreatDoor
open Go.RowKit

theorem step_copy (w : World) {ops : Array Oper} {o : Oper} {a : Act} {K : Act → World → Prop} {Q : Exit → Act → World → Prop} {E : Prop} (hgd : o.guard = none) (s x : Operand) (t e sz bytes : Nat) (z : Value)
   (hu : Tryz.prog.underlying t = some (.slice e)) (hinfo : (Tryz.prog.info? e).map (fun i => (i.zero, i.size, i.bytes)) = some (some z, sz, bytes)) (hzc : z.cells.size = sz) (hsz : 0 < sz) (hby : 0 < bytes)
   (ho : o.op = .call { callee := .builtin .append, args := #[s, x], argTypes := #[t, t] })
   (hs : a.eval s = .slice none 0 0) (base : Option Addr) (m c : Nat) (l2 : List Value) (hx : a.eval x = .slice base m c) (hh : Lies w sz base m c l2) (hone : ∀ u ∈ l2, u.oneCell' = true) (hbytes : m * bytes ≤ 140737488355328)
   (h : ∀ b' c' w', Lies w' sz b' m c' l2 → Below w.heap.size w w' → Fresh w.heap.size b' → Kind w' e b' → K (a.put o.dst (.slice b' m c')) w') : if Region.wanted o (yielded ops a.tmps) = true then Oper.wp Tryz.prog o a w K Q else E := by
 have hw : Region.wanted o (yielded ops a.tmps) = true := by simp [Region.wanted, hgd]
 rw [if_pos hw]
 obtain ⟨i0, hi, hz0, hz1, hz2⟩ := info_parts hinfo
 have hlen := hh.len
 have hown := World.ownsRow_nil w w.heap.size e sz
 have h63 : 0 + m ≤ maxLen := by
   have := Nat.le_mul_of_pos_right m hby
   unfold maxLen; omega
 have hfin : ∀ v' w', w'.ownsRow w.heap.size e sz v' (0 + m) ([] ++ l2) → w.grownBy w' (Value.slice none 0 0).ownBlock → K (a.put o.dst v') w' := fun v' w' h1 h2 => by
   simp only [Nat.zero_add, List.nil_append] at h1
   obtain ⟨b', c', rfl, hl⟩ := Lies.owned h1
   exact h b' c' w' hl ((Below.refl _ _).grown h2 (Nat.le_refl _) (fun k hk => by cases hk)) (fun ad e => (h1.lt ad.block (by rw [e]; rfl)).1) (Kind.owned h1)
 have key : ∀ ad, base = some ad → (∀ j u, l2[j]? = some u → w.cell? (ad.add j) = some u) → Oper.wp Tryz.prog o a w K Q := fun ad had hnews =>
   wp_append_own w s x t ho w.heap.size e i0 _ sz bytes hu hi hz0 hz1 hz2 hzc hsz _ 0 [] hs hown ad m c l2 (by rw [hx, had]) hlen hnews hone h63 (by simpa using hbytes) (Nat.le_refl _)
     (fun v' w' h1 h2 _ => hfin v' w' h1 h2)
 cases base with
 | some ad =>
   rcases hh.run with he | ⟨b, o', he, hc⟩
   · subst he
     have : l2 = [] := List.eq_nil_of_length_eq_zero (by omega)
     exact key ad rfl (fun j u hu => by rw [this] at hu; simp at hu)
   · cases he
     exact key _ rfl (fun j u hu => by rw [Addr.add_lit]; exact hc j u hu)
 | none =>
   obtain rfl := hh.hdr.nil rfl
   obtain rfl : m = 0 := by have := hh.hdr.le; omega
   have hl2 : l2 = [] := List.eq_nil_of_length_eq_zero (by omega)
   have hrun := run_append_owned_none (P := Tryz.prog) w w.heap.size t o.type e i0 sz hu hi _ 0 [] hown
   unfold Oper.wp
   simp [execOp, ho, resolve, invoke, builtin, hs, hx, hrun, Result.andThen]
   exact h none 0 w (by rw [hl2]; exact Lies.none _ _) (Below.refl _ _) (fresh_none _) (Kind.none _ _)

theorem insInfo : (Tryz.prog.info? 72).map (fun i => (i.zero, i.size, i.bytes)) = some (some (.agg #[.int .i64 0, .int .i64 0, .int .i64 0, .int .i64 0, .string ByteArray.empty]), 5, 48) := by kernel_rfl

theorem box_free (w : World) (vs : Array Value) (t : TypeId) (j : Nat) : w.heap.size < (w.alloc (.cells vs t)).drew.heap.size ∧ (w.alloc (.cells vs t)).drew.frozen? ⟨w.heap.size, j, none⟩ = false := ⟨by show _ < (w.alloc (.cells vs t)).heap.size; rw [World.size_alloc]; omega, World.frozen?_alloc_at _ _ _ _ rfl⟩
theorem kept_free {w w' : World} {b x : Nat} (hb : Below w.heap.size w w') (h : b < w.heap.size ∧ w.frozen? ⟨b, x, none⟩ = false) : w'.frozen? ⟨b, x, none⟩ = false := by
 rw [hb.frozen (p := ⟨b, x, none⟩) h.1]; exact h.2
theorem three_lies {w : World} {base : Option Addr} {sz n c b B : Nat} {vs : List Value} {x y z : Value} (hf : Fresh B base) (hb : b < B) (h : Lies w sz base n c vs) : Lies (((w.setCell ⟨b, 0, none⟩ x).setCell ⟨b, 1, none⟩ y).setCell ⟨b, 2, none⟩ z) sz base n c vs :=
 ((h.set hf (p := ⟨b, 0, none⟩) hb _).set hf (p := ⟨b, 1, none⟩) hb _).set hf (p := ⟨b, 2, none⟩) hb _
theorem set_off {w : World} {b i j : Nat} {u : Value} (h : i ≠ j) : (w.setCell ⟨b, i, none⟩ u).cell? ⟨b, j, none⟩ = w.cell? ⟨b, j, none⟩ := World.cell?_setCell_other _ _ _ _ (fun e => h (by cases e; rfl))
structure Three (w : World) (b : Nat) (x y z : Value) : Prop where
 c0 : w.cell? ⟨b, 0, none⟩ = some x
 c1 : w.cell? ⟨b, 1, none⟩ = some y
 c2 : w.cell? ⟨b, 2, none⟩ = some z
theorem three_cells {w : World} {b : Nat} {x y z u0 u1 u2 : Value} (h0 : w.cell? ⟨b, 0, none⟩ = some u0) (h1 : w.cell? ⟨b, 1, none⟩ = some u1) (h2 : w.cell? ⟨b, 2, none⟩ = some u2) : Three (((w.setCell ⟨b, 0, none⟩ x).setCell ⟨b, 1, none⟩ y).setCell ⟨b, 2, none⟩ z) b x y z := by
 refine ⟨?_, ?_, ?_⟩
 · rw [set_off (by decide), set_off (by decide)]
   exact World.cell?_setCell_same _ _ _ h0
 · rw [set_off (by decide)]
   exact World.cell?_setCell_same _ _ _ (by rw [set_off (by decide)]; exact h1)
 · exact World.cell?_setCell_same _ _ _ (by rw [set_off (by decide), set_off (by decide)]; exact h2)
theorem own_results (tmps : Array Value) (b : Nat) (w : World) {x y z : Value} (h2 : tmps.getD 2 undef = .pointer (some ⟨b, 0, none⟩)) (h : Three w b x y z) (hx : ∃ p q r, x = .slice p q r) (hy : ∃ p q r, y = .slice p q r) (hz : ∃ p q r, z = .slice p q r) :
   (results Tryz.f69 tmps).run Tryz.prog w = .ok (.agg #[x, y, z]) w := by
 have h2' : tmps[2]?.getD undef = .pointer (some ⟨b, 0, none⟩) := by simpa using h2
 obtain ⟨_, _, _, rfl⟩ := hx
 obtain ⟨_, _, _, rfl⟩ := hy
 obtain ⟨_, _, _, rfl⟩ := hz
 simp [results, Tryz.results69, go_sem, h2', h.c0, h.c1, h.c2]
theorem held4 {a b c d : Prop} (h : a ∧ b ∧ c ∧ d) : d := h.2.2.2
theorem box_keep {A w1 w2 : World} {b : Nat} {x y z : Value} (h : w1.cell? ⟨b, 0, none⟩ = some x ∧ w1.cell? ⟨b, 1, none⟩ = some y ∧ w1.cell? ⟨b, 2, none⟩ = some z ∧ Below A.heap.size A w1) (hb : Below w1.heap.size w1 w2) :
   w2.cell? ⟨b, 0, none⟩ = some x ∧ w2.cell? ⟨b, 1, none⟩ = some y ∧ w2.cell? ⟨b, 2, none⟩ = some z ∧ Below A.heap.size A w2 :=
 ⟨kept_cell hb h.1, kept_cell hb h.2.1, kept_cell hb h.2.2.1, below_deep h.2.2.2 hb⟩

theorem three_keep {w0 w1 : World} {b n : Nat} {x y z u0 u1 u2 : Value} (h : w1.cell? ⟨b, 0, none⟩ = some x ∧ w1.cell? ⟨b, 1, none⟩ = some y ∧ w1.cell? ⟨b, 2, none⟩ = some z ∧ Below w0.heap.size w0 w1) (hn : n ≠ b) (hB : w0.heap.size ≤ n) :
   (((w1.setCell ⟨n, 0, none⟩ u0).setCell ⟨n, 1, none⟩ u1).setCell ⟨n, 2, none⟩ u2).cell? ⟨b, 0, none⟩ = some x ∧ (((w1.setCell ⟨n, 0, none⟩ u0).setCell ⟨n, 1, none⟩ u1).setCell ⟨n, 2, none⟩ u2).cell? ⟨b, 1, none⟩ = some y ∧
   (((w1.setCell ⟨n, 0, none⟩ u0).setCell ⟨n, 1, none⟩ u1).setCell ⟨n, 2, none⟩ u2).cell? ⟨b, 2, none⟩ = some z ∧ Below w0.heap.size w0 (((w1.setCell ⟨n, 0, none⟩ u0).setCell ⟨n, 1, none⟩ u1).setCell ⟨n, 2, none⟩ u2) := by
 refine ⟨?_, ?_, ?_, ((h.2.2.2.setCell (p := ⟨n, 0, none⟩) hB _).setCell (p := ⟨n, 1, none⟩) hB _).setCell (p := ⟨n, 2, none⟩) hB _⟩
 · rw [World.cell?_setCell_far _ _ _ _ hn, World.cell?_setCell_far _ _ _ _ hn, World.cell?_setCell_far _ _ _ _ hn]; exact h.1
 · rw [World.cell?_setCell_far _ _ _ _ hn, World.cell?_setCell_far _ _ _ _ hn, World.cell?_setCell_far _ _ _ _ hn]; exact h.2.1
 · rw [World.cell?_setCell_far _ _ _ _ hn, World.cell?_setCell_far _ _ _ _ hn, World.cell?_setCell_far _ _ _ _ hn]; exact h.2.2.1

set_option maxHeartbeats 4000000 in
theorem own_callsK (R W : List ByteArray) (C : List Ins) (rb : Option Addr) (rn rc : Nat) (wb : Option Addr) (wn wc : Nat) (cb : Option Addr) (cn cc : Nat) (w : World) (hd : DeedIn w rb rn rc wb wn wc cb cn cc R W C)
   (h1 : rn * 16 ≤ 140737488355328) (h2 : wn * 16 ≤ 140737488355328) (h3 : cn * 48 ≤ 140737488355328) :
   Calls Tryz.prog 69 #[.agg #[.slice rb rn rc, .slice wb wn wc, .slice cb cn cc]] w fun e w' =>
     ∃ rb' rc' wb' wc' cb' cc', e = .returned (.agg #[.slice rb' rn rc', .slice wb' wn wc', .slice cb' cn cc']) ∧ DeedIn w' rb' rn rc' wb' wn wc' cb' cn cc' R W C ∧ Below w.heap.size w w' ∧ Kind w' 9 rb' ∧ Kind w' 9 wb' ∧ Kind w' 72 cb' := by
 obtain ⟨A, hA⟩ : ∃ A, A = (w.alloc (.cells #[.slice rb rn rc, .slice wb wn wc, .slice cb cn cc] 44)).alloc (.cells #[.slice none 0 0, .slice none 0 0, .slice none 0 0] 44) := ⟨_, rfl⟩
 have hb0 : Below w.heap.size w A := by rw [hA]; exact (((Below.refl _ _).alloc (Nat.le_refl _) _).alloc (by simp) _)
 have HD := hid hd
 have HB0 := hid hb0
 have H1 := hid h1
 have H2 := hid h2
 have H3 := hid h3
 clear hd hb0 h1 h2 h3
 subst hA
 go_enter Tryz.func69, Tryz.ntmps69
 go_wp2
 go_region_held3 (fun w' => w'.cell? ⟨w.heap.size, 0, none⟩ = some (.slice rb rn rc) ∧ w'.cell? ⟨w.heap.size, 1, none⟩ = some (.slice wb wn wc) ∧ w'.cell? ⟨w.heap.size, 2, none⟩ = some (.slice cb cn cc) ∧ Below w.heap.size w w')
   (first
     | exact ⟨kept_cell (Below.refl _ _).drew (box_past _ (box_cell w _ 44 0 (.slice rb rn rc) rfl)), kept_cell (Below.refl _ _).drew (box_past _ (box_cell w _ 44 1 (.slice wb wn wc) rfl)), kept_cell (Below.refl _ _).drew (box_past _ (box_cell w _ 44 2 (.slice cb cn cc) rfl)), HB0.out.drew⟩
     | exact box_keep (by assumption) (by assumption)
     | exact three_keep (by assumption) (by omega) (by omega))
   (first
     | (refine step_copy _ rfl _ _ 41 9 1 16 _ Tryz.underlying41 strInfo rfl (by decide) (by decide) rfl rfl rb rn rc _ rfl ?_ (strs_one R) H1.out ?_; exact HD.out.tr.below (by decide) (held4 (by assumption)); intro b1 c1 w1 hl1 hb1 hf1 hk1)
     | (refine step_copy _ rfl _ _ 41 9 1 16 _ Tryz.underlying41 strInfo rfl (by decide) (by decide) rfl rfl wb wn wc _ rfl ?_ (strs_one W) H2.out ?_; exact HD.out.tw.below (by decide) (held4 (by assumption)); intro b2 c2 w2 hl2 hb2 hf2 hk2)
     | (refine step_copy _ rfl _ _ 42 72 5 48 _ Tryz.underlying42 insInfo rfl (by decide) (by decide) rfl rfl cb cn cc _ rfl ?_ (insCells_one C) H3.out ?_; exact HD.out.cd.below (by decide) (held4 (by assumption)); intro b3 c3 w3 hl3 hb3 hf3 hk3; have hbb := below_deep (below_deep hb1 hb2) hb3; have g0 := kept_cell hbb (box_cell (w.alloc (.cells #[.slice rb rn rc, .slice wb wn wc, .slice cb cn cc] 44)) #[.slice none 0 0, .slice none 0 0, .slice none 0 0] 44 0 (.slice none 0 0) rfl); have g1 := kept_cell hbb (box_cell (w.alloc (.cells #[.slice rb rn rc, .slice wb wn wc, .slice cb cn cc] 44)) #[.slice none 0 0, .slice none 0 0, .slice none 0 0] 44 1 (.slice none 0 0) rfl); have g2 := kept_cell hbb (box_cell (w.alloc (.cells #[.slice rb rn rc, .slice wb wn wc, .slice cb cn cc] 44)) #[.slice none 0 0, .slice none 0 0, .slice none 0 0] 44 2 (.slice none 0 0) rfl); rw [World.size_alloc] at g0 g1 g2; have f0 := kept_free hbb (box_free (w.alloc (.cells #[.slice rb rn rc, .slice wb wn wc, .slice cb cn cc] 44)) #[.slice none 0 0, .slice none 0 0, .slice none 0 0] 44 0); have f1 := kept_free hbb (box_free (w.alloc (.cells #[.slice rb rn rc, .slice wb wn wc, .slice cb cn cc] 44)) #[.slice none 0 0, .slice none 0 0, .slice none 0 0] 44 1); have f2 := kept_free hbb (box_free (w.alloc (.cells #[.slice rb rn rc, .slice wb wn wc, .slice cb cn cc] 44)) #[.slice none 0 0, .slice none 0 0, .slice none 0 0] 44 2); rw [World.size_alloc] at f0 f1 f2))
 have e1 : w.heap.size + 1 < (((w.alloc (.cells #[.slice rb rn rc, .slice wb wn wc, .slice cb cn cc] 44)).alloc (.cells #[.slice none 0 0, .slice none 0 0, .slice none 0 0] 44)).drew).heap.size := by
   show _ < ((w.alloc (.cells #[.slice rb rn rc, .slice wb wn wc, .slice cb cn cc] 44)).alloc (.cells #[.slice none 0 0, .slice none 0 0, .slice none 0 0] 44)).heap.size
   rw [World.size_alloc, World.size_alloc]; omega
 have e2 := Nat.lt_of_lt_of_le e1 hb1.size
 have e3 := Nat.lt_of_lt_of_le e2 hb2.size
 have HL1 := hid (three_lies (x := .slice b1 rn c1) (y := .slice b2 wn c2) (z := .slice b3 cn c3) hf1 e1 ((hl1.below (by decide) hb2).below (by decide) hb3))
 have HL2 := hid (three_lies (x := .slice b1 rn c1) (y := .slice b2 wn c2) (z := .slice b3 cn c3) hf2 e2 (hl2.below (by decide) hb3))
 have HL3 := hid (three_lies (x := .slice b1 rn c1) (y := .slice b2 wn c2) (z := .slice b3 cn c3) hf3 e3 hl3)
 have HBE := hid (below_deep (below_deep (below_deep HB0.out.drew hb1) hb2) hb3)
 have HK1 := hid ((hk1.below hb2).below hb3)
 have HK2 := hid (hk2.below hb3)
 have HK3 := hid hk3
 have HG := hid (three_cells (x := .slice b1 rn c1) (y := .slice b2 wn c2) (z := .slice b3 cn c3) g0 g1 g2)
 go_wp2
 (try simp only [Exit.inBlock, Exit.then])
 refine bodyPost_ret (own_results _ (w.heap.size + 1) _ rfl HG.out ⟨_, _, _, rfl⟩ ⟨_, _, _, rfl⟩ ⟨_, _, _, rfl⟩) rfl ?_
 exact ⟨b1, c1, b2, c2, b3, c3, rfl, ⟨HL1.out, HL2.out, HL3.out⟩, ((HBE.out.setCell (p := ⟨w.heap.size + 1, 0, none⟩) (by simp) _).setCell (p := ⟨w.heap.size + 1, 1, none⟩) (by simp) _).setCell (p := ⟨w.heap.size + 1, 2, none⟩) (by simp) _, ((HK1.out.set _ _).set _ _).set _ _, ((HK2.out.set _ _).set _ _).set _ _, ((HK3.out.set _ _).set _ _).set _ _⟩
end Go.Proofs.YtlhaeeenkgkdaaaGreatDoor

namespace Go.Proofs.YtlhaeeenkgkdaaaGreatDoor
open Go.RowKit

end Go.Proofs.YtlhaeeenkgkdaaaGreatDoor
